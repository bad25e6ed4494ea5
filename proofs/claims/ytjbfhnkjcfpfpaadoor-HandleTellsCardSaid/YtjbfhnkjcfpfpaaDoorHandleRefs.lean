/- The document's answers for handles (package sundialref30): what a text is the handle of, the handle of a reference, the reference of a handle, a handle's text. -/
import Derived.Test.YtjbfhnkjcfpfpaaDoorHandleRef30
import Derived.Test.YtjbfhnkjcfpfpaaDoorHandleRef
import Derived.Test.YtjbfhnkjcfpfpaaDoorHandleCut
import Derived.Test.YtjbfhnkjcfpfpaaDoorReferWalks
import Derived.Test.YtjbfhnkjcfpfpaaDoorDigits
import Derived.Test.YtjbfhnkjcfpfpaaDoorLay
namespace Go.Proofs.YtjbfhnkjcfpfpaaDoor.Ref30
set_option maxRecDepth 20000
open Go.ChangeShapes Go.WideShapes Go.ChangeAt Go.RowKit KM WaM Str HaM Lay
open SM (decI)
set_option linter.unusedVariables false
set_option linter.unusedSimpArgs false
theorem parts_a {s : List UInt8} (h1 : half s = none) : parts s = none := by unfold parts; rw [h1]
theorem parts_b {s : List UInt8} {g i : Nat} (h1 : half s = some (g, i)) (hd : ¬ s[i]? = some 46) : parts s = none := by unfold parts; rw [h1]; simp only; rw [if_neg hd]
theorem parts_c {s : List UInt8} {g i : Nat} (h1 : half s = some (g, i)) (hd : s[i]? = some 46) (h2 : half (s.drop (i + 1)) = none) : parts s = none := by unfold parts; rw [h1]; simp only; rw [if_pos hd, h2]
theorem parts_d {s : List UInt8} {g i n k : Nat} (h1 : half s = some (g, i)) (hd : s[i]? = some 46) (h2 : half (s.drop (i + 1)) = some (n, k)) (hl : ¬ i + 1 + k = s.length) : parts s = none := by
  unfold parts; rw [h1]; simp only; rw [if_pos hd, h2]; simp only; rw [if_neg hl]
theorem parts_e {s : List UInt8} {g i n k : Nat} (h1 : half s = some (g, i)) (hd : s[i]? = some 46) (h2 : half (s.drop (i + 1)) = some (n, k)) (hl : i + 1 + k = s.length) : parts s = some (g, n) := by
  unfold parts; rw [h1]; simp only; rw [if_pos hd, h2]; simp only; rw [if_pos hl]
/-- What Parse tells: the handle, and whether there is one. -/
def toldP : Option (Nat × Nat) → Value
  | none => .tuple #[.int .u64 0, .bool false]
  | some (g, n) => .tuple #[.int .u64 ((g : Int) * 4294967296 + (n : Int)), .bool true]
theorem half_le {s : List UInt8} {a m k : Nat} (h : half (s.drop a) = some (m, k)) : m ≤ 4294967295 ∧ (a ≤ s.length → a + k ≤ s.length) := by
  obtain ⟨r, q1, q2, q3, -⟩ := half_is h
  refine ⟨q3, fun ha => ?_⟩
  have := congrArg List.length q1
  rw [List.length_drop, List.length_append] at this
  omega
theorem halfV_none (a : Nat) : halfV a none = .tuple #[.int .u64 0, .int .i64 (-1)] := rfl
theorem half_is {s : List UInt8} {a : Nat} {R : Option (Nat × Nat)} (h : half (s.drop a) = R) (hl : s.length ≤ 10000) (ha : a ≤ s.length) {i : Int} (hi : (a : Int) = i) (w : World) :
    Calls Tryd.prog 30 #[.string (bs s), .int .i64 i] w fun e w' => e = .returned (halfV a R) ∧ w = w' := by
  rw [← h, ← hi]
  exact half_any hl ha w
theorem Parse_is {s : List UInt8} (hl : s.length ≤ 10000) (w : World) :
    Calls Tryd.prog 14 #[.string (bs s)] w fun e w' => e = .returned (toldP (parts s)) ∧ w = w' := by
  obtain ⟨n, hn⟩ : ∃ n, s.length = n := ⟨_, rfl⟩
  have hsz : (bs s).size = n := by rw [bs_size, hn]
  have HN := Lib.hid hn
  cases h1 : half s with
  | none =>
    have HP := Lib.hid (parts_a h1)
    have H1 := Lib.hid fun w => half_is (s := s) (a := 0) h1 hl (Nat.zero_le _) (i := 0) rfl w
    rw [halfV_none] at H1
    clear hl hn h1
    go_enter Tryd.func14, Tryd.ntmps14
    go_wp2_with fail
    refine (H1.out _).mono ?_
    rintro e w' ⟨rfl, rfl⟩
    go_wp2
    go_ret2
    exact ⟨by rw [HP.out]; rfl, rfl⟩
  | some x =>
    obtain ⟨g, i⟩ := x
    have H1 := Lib.hid fun w => half_is (s := s) (a := 0) h1 hl (Nat.zero_le _) (i := 0) rfl w
    obtain ⟨hg, hi⟩ := half_le (a := 0) h1
    have hi := hi (Nat.zero_le _)
    rw [Nat.zero_add, hn] at hi
    have e0 : halfV 0 (some (g, i)) = .tuple #[.int .u64 (g : Int), .int .i64 (i : Int)] := by
      show Value.tuple #[.int .u64 (g : Int), .int .i64 (((0 : Nat) : Int) + (i : Int))] = _
      rw [show ((0 : Nat) : Int) + (i : Int) = (i : Int) by omega]
    rw [e0] at H1
    clear e0
    by_cases hin : i < n
    · obtain ⟨b, hb⟩ : ∃ b, s[i]? = some b := ⟨_, List.getElem?_eq_getElem (by rw [hn]; exact hin)⟩
      have hx := fun W => at_run hb W
      have hb0 := b.toNat_lt
      by_cases hd : b = 46
      · rw [hd] at hx hb
        have hx2 : ∀ W, (Instr.index 9 (.string (bs s)) (.int .i64 (i : Int))).run Tryd.prog W = .ok (.int .u8 46) W := hx
        clear hx hd hb0
        have i1 : (i : Int) < (n : Int) := by omega
        have i2 : ¬ (i : Int) < 0 := by omega
        cases h2 : half (s.drop (i + 1)) with
        | none =>
          have HP := Lib.hid (parts_c h1 hb h2)
          have H2 := Lib.hid fun w => half_is (s := s) (a := i + 1) h2 hl (by omega) (i := (i : Int) + 1) (by omega) w
          rw [halfV_none] at H2
          have i4 : ((-1 : Int) != (n : Int)) = true := by simp
          have hl2 : n ≤ 10000 := by omega
          clear hl hn h1 h2 hb
          go_enter Tryd.func14, Tryd.ntmps14
          go_wp2_with fail
          refine (H1.out _).mono ?_
          rintro e w' ⟨rfl, rfl⟩
          go_wp2_with fail
          refine (H2.out _).mono ?_
          rintro e w' ⟨rfl, rfl⟩
          go_wp2
          go_ret2
          exact ⟨by rw [HP.out]; rfl, rfl⟩
        | some y =>
          obtain ⟨m, k⟩ := y
          obtain ⟨hm, hk⟩ := half_le h2
          have hk := hk (by omega)
          rw [hn] at hk
          have H2 := Lib.hid fun w => half_is (s := s) (a := i + 1) h2 hl (by omega) (i := (i : Int) + 1) (by omega) w
          obtain ⟨q, hq⟩ : ∃ q, i + 1 + k = q := ⟨_, rfl⟩
          have e1 : halfV (i + 1) (some (m, k)) = .tuple #[.int .u64 (m : Int), .int .i64 (q : Int)] := by
            show Value.tuple #[.int .u64 (m : Int), .int .i64 (((i + 1 : Nat) : Int) + (k : Int))] = _
            rw [show ((i + 1 : Nat) : Int) + (k : Int) = (q : Int) by omega]
          rw [e1] at H2
          clear e1
          have hl2 : n ≤ 10000 := by omega
          by_cases hqn : q = n
          · have HP := Lib.hid (parts_e h1 hb h2 (by rw [hq, hqn, hn]))
            have i5 : ((q : Int) != (n : Int)) = false := by simp; omega
            have HE := Lib.hid (show (g : Int) % 4294967296 * 4294967296 + (m : Int) % 4294967296 = (g : Int) * 4294967296 + (m : Int) by omega)
            have HA := Lib.hid fun w => R01.Pair_any (g : Int) (m : Int) (by omega) (by omega) w
            rw [HE.out] at HA
            clear hl hn h1 h2 hb hq hqn hk hg hm
            go_enter Tryd.func14, Tryd.ntmps14
            go_wp2_with fail
            refine (H1.out _).mono ?_
            rintro e w' ⟨rfl, rfl⟩
            go_wp2_with fail
            refine (H2.out _).mono ?_
            rintro e w' ⟨rfl, rfl⟩
            go_wp2_with fail
            refine (HA.out _).mono ?_
            rintro e w' ⟨rfl, rfl⟩
            go_wp2
            go_ret2
            exact ⟨by rw [HP.out]; rfl, rfl⟩
          · have HP := Lib.hid (parts_d h1 hb h2 (by rw [hq, hn]; exact hqn))
            have i5 : ((q : Int) != (n : Int)) = true := by simp; omega
            clear hl hn h1 h2 hb hq hqn hk hg hm
            go_enter Tryd.func14, Tryd.ntmps14
            go_wp2_with fail
            refine (H1.out _).mono ?_
            rintro e w' ⟨rfl, rfl⟩
            go_wp2_with fail
            refine (H2.out _).mono ?_
            rintro e w' ⟨rfl, rfl⟩
            go_wp2
            go_ret2
            exact ⟨by rw [HP.out]; rfl, rfl⟩
      · have HP := Lib.hid (parts_b h1 (by rw [hb]; simpa using hd))
        have hne : ¬ b.toNat = 46 := fun e => hd (UInt8.toNat_inj.1 (by rw [e]; rfl))
        have i1 : (i : Int) < (n : Int) := by omega
        have i2 : ¬ (i : Int) < 0 := by omega
        have i3 : ((b.toNat : Int) != 46) = true := by simp; omega
        obtain ⟨c, hc⟩ : ∃ c : Int, (b.toNat : Int) = c := ⟨_, rfl⟩
        rw [hc] at i3
        simp only [hc] at hx
        clear hl hn h1 hb hb0 hd hne hc
        go_enter Tryd.func14, Tryd.ntmps14
        go_wp2_with fail
        refine (H1.out _).mono ?_
        rintro e w' ⟨rfl, rfl⟩
        go_wp2
        go_ret2
        exact ⟨by rw [HP.out]; rfl, rfl⟩
    · have HP := Lib.hid (parts_b h1 (by rw [List.getElem?_eq_none (by omega)]; simp))
      have i1 : (n : Int) ≤ (i : Int) := by omega
      have i2 : ¬ (i : Int) < 0 := by omega
      clear hl hn h1
      go_enter Tryd.func14, Tryd.ntmps14
      go_wp2_with fail
      refine (H1.out _).mono ?_
      rintro e w' ⟨rfl, rfl⟩
      go_wp2
      go_ret2
      exact ⟨by rw [HP.out]; rfl, rfl⟩
theorem Of_any {r : Int} (hr : 0 ≤ r ∧ r < 18446744073709551616) (w : World) : Calls Tryd.prog 9 #[.int .u64 r] w fun e w' => e = .returned (.int .u64 (handI r)) ∧ w = w' := by
  have HR := Lib.hid hr
  clear hr
  go_enter Tryd.func9, Tryd.ntmps9
  go_wp2_with fail
  refine (HandleRef.Handle_any HR.out _).mono ?_
  rintro e w' ⟨rfl, rfl⟩
  go_wp2
  go_ret
  exact ⟨rfl, rfl⟩
/-- The reference of a handle, in a plan of S slots; whether there is one. -/
def refI (S h : Int) : Int × Bool :=
  if 1 ≤ h % 4294967296 ∧ h % 4294967296 ≤ S ∧ h % 4294967296 ≤ 2147483647 then (RM.ofI (h / 4294967296) (h % 4294967296), true) else (0, false)
theorem refI_yes {S h : Int} (hh : 1 ≤ h % 4294967296 ∧ h % 4294967296 ≤ S ∧ h % 4294967296 ≤ 2147483647) : refI S h = (RM.ofI (h / 4294967296) (h % 4294967296), true) := if_pos hh
theorem refI_no {S h : Int} (hh : ¬ (1 ≤ h % 4294967296 ∧ h % 4294967296 ≤ S ∧ h % 4294967296 ≤ 2147483647)) : refI S h = (0, false) := if_neg hh
def refV (S h : Int) : Value := .tuple #[.int .u64 (refI S h).1, .bool (refI S h).2]
theorem plan_cell (T S L G : Int) (w : World) : (w.alloc (.cells #[.int .i64 T, .int .i64 S, .int .i64 L, .int .u64 G] 24)).cell? ⟨w.heap.size, 1, none⟩ = some (.int .i64 S) := box_cell (Below.refl _ _) 1
theorem plan_below (T S L G : Int) (w : World) : Below w.heap.size w (w.alloc (.cells #[.int .i64 T, .int .i64 S, .int .i64 L, .int .u64 G] 24)) := (Below.refl _ _).alloc (Nat.le_refl _) _
theorem Ref_any {T S L G h : Int} (hS : S ≤ 9223372036854775807) (h0 : 0 ≤ h ∧ h < 18446744073709551616) (w : World) :
    Calls Tryd.prog 7 #[.agg #[.int .i64 T, .int .i64 S, .int .i64 L, .int .u64 G], .int .u64 h] w fun e w' => e = .returned (refV S h) ∧ Below w.heap.size w w' := by
  have c1 := plan_cell T S L G w
  have HB := Lib.hid (plan_below T S L G w)
  have HL := Lib.hid fun w => R01.Low_any h h0.1 h0.2 w
  have HH := Lib.hid fun w => R01.High_any h h0.1 h0.2 w
  have HO := Lib.hid fun w => Ref02.Of_any (h / 4294967296) (h % 4294967296) (by omega) w
  have b0 : 0 ≤ h % 4294967296 := by omega
  have b1 : h % 4294967296 ≤ 4294967295 := by omega
  by_cases hy : 1 ≤ h % 4294967296 ∧ h % 4294967296 ≤ S ∧ h % 4294967296 ≤ 2147483647
  · have HE := Lib.hid (refI_yes hy)
    obtain ⟨y1, y2, y3⟩ := hy
    generalize h % 4294967296 = l at HL HO HE b0 b1 y1 y2 y3
    generalize h / 4294967296 = g at HH HO HE
    have e1 : IntKind.u64.wrap S = S := IntWalk.u64_in _ (by omega)
    have e2 : IntKind.i64.wrap l = l := IntWalk.i64_in _ (by omega)
    have j1 : ¬ l < 1 := by omega
    have j2 : ¬ S < 1 := by omega
    have j3 : ¬ S < l := by omega
    have j4 : ¬ 2147483647 < l := by omega
    clear h0 hS
    go_enter Tryd.func7, Tryd.ntmps7
    go_wp2_with fail
    refine (HL.out _).mono ?_
    rintro e w' ⟨rfl, rfl⟩
    go_wp2_with fail
    refine (HH.out _).mono ?_
    rintro e w' ⟨rfl, rfl⟩
    go_wp2_with fail
    refine (HO.out _).mono ?_
    rintro e w' ⟨rfl, rfl⟩
    go_wp2
    go_ret2
    exact ⟨by unfold refV; rw [HE.out]; rfl, HB.out⟩
  · have HE := Lib.hid (refI_no hy)
    generalize h % 4294967296 = l at HL HO HE b0 b1 hy
    by_cases j1 : l < 1
    · clear hy h0 hS
      go_enter Tryd.func7, Tryd.ntmps7
      go_wp2_with fail
      refine (HL.out _).mono ?_
      rintro e w' ⟨rfl, rfl⟩
      go_wp2
      go_ret2
      exact ⟨by unfold refV; rw [HE.out]; rfl, HB.out⟩
    · by_cases j2 : S < 1
      · clear hy h0 hS
        go_enter Tryd.func7, Tryd.ntmps7
        go_wp2_with fail
        refine (HL.out _).mono ?_
        rintro e w' ⟨rfl, rfl⟩
        go_wp2
        go_ret2
        exact ⟨by unfold refV; rw [HE.out]; rfl, HB.out⟩
      · have e1 : IntKind.u64.wrap S = S := IntWalk.u64_in _ (by omega)
        by_cases j3 : S < l
        · clear hy h0 hS
          go_enter Tryd.func7, Tryd.ntmps7
          go_wp2_with fail
          refine (HL.out _).mono ?_
          rintro e w' ⟨rfl, rfl⟩
          go_wp2
          go_ret2
          exact ⟨by unfold refV; rw [HE.out]; rfl, HB.out⟩
        · have j4 : 2147483647 < l := by omega
          clear hy h0 hS
          go_enter Tryd.func7, Tryd.ntmps7
          go_wp2_with fail
          refine (HL.out _).mono ?_
          rintro e w' ⟨rfl, rfl⟩
          go_wp2
          go_ret2
          exact ⟨by unfold refV; rw [HE.out]; rfl, HB.out⟩
/-- The parts of a handle's text. -/
theorem text_parts {h : Int} (h0 : 0 ≤ h ∧ h < 18446744073709551616) : ¬ (9223372036854775807 < (bs (decI (h / 4294967296))).size + (⟨#[46]⟩ : ByteArray).size) ∧
    ¬ (9223372036854775807 < (bs (decI (h / 4294967296)) ++ ⟨#[46]⟩).size + (bs (decI (h % 4294967296))).size) ∧ bs (decI (h / 4294967296)) ++ ⟨#[46]⟩ ++ bs (decI (h % 4294967296)) = bs (textH h) := by
  have l0 := text_len h0.1 h0.2
  unfold textH at l0
  rw [List.length_append, List.length_cons] at l0
  have e1 : bs (decI (h / 4294967296)) ++ ⟨#[46]⟩ = bs (decI (h / 4294967296) ++ [46]) := bs_append _ [46]
  refine ⟨short (a := decI (h / 4294967296)) (b := [46]) (by simp; omega), ?_, ?_⟩
  · rw [e1]
    exact short (by simp; omega)
  · rw [e1, bs_append]
    unfold textH
    simp
theorem Text_any {h : Int} (h0 : 0 ≤ h ∧ h < 18446744073709551616) (w : World) :
    Calls Tryd.prog 11 #[.int .u64 h] w fun e w' => e = .returned (.string (bs (textH h))) ∧ Below w.heap.size w w' := by
  obtain ⟨s1, s2, e⟩ := text_parts h0
  have HL := Lib.hid fun w => R01.Low_any h h0.1 h0.2 w
  have HH := Lib.hid fun w => R01.High_any h h0.1 h0.2 w
  have D1 := Lib.hid fun w => Digits.Digits_any (h / 4294967296) (by omega) (by omega) w
  have D2 := Lib.hid fun w => Digits.Digits_any (h % 4294967296) (by omega) (by omega) w
  have HE := Lib.hid e
  clear h0 e
  generalize h % 4294967296 = l at *
  generalize h / 4294967296 = g at *
  go_enter Tryd.func11, Tryd.ntmps11
  go_wp2_with fail
  refine (HH.out _).mono ?_
  rintro e w' ⟨rfl, rfl⟩
  go_wp2_with fail
  refine (D1.out _).mono ?_
  rintro e w' ⟨rfl, hb⟩
  go_wp2_with fail
  refine (HL.out _).mono ?_
  rintro e w' ⟨rfl, rfl⟩
  go_wp2_with fail
  refine (D2.out _).mono ?_
  rintro e w' ⟨rfl, hb2⟩
  go_wp2
  go_ret
  exact ⟨ret_ba HE.out, hb.trans (hb2.mono hb.size)⟩
end Go.Proofs.YtjbfhnkjcfpfpaaDoor.Ref30
