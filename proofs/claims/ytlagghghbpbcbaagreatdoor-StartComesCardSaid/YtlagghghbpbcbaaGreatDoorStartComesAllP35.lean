import Derived.Test.YtlagghghbpbcbaaGreatDoorStartComesAllP13
import Derived.Test.YtlagghghbpbcbaaGreatDoorStartComesAllP12
import Derived.Test.YtlagghghbpbcbaaGreatDoorStartComesAllP6
import Derived.RegionTactic
/- The document's answers for layer 10 (package sundialref10), held to the same plain lists. -/
namespace Go.Proofs.YtlagghghbpbcbaaGreatDoor.BlankRef
set_option maxRecDepth 20000
open Go.ChangeShapes Go.WideShapes Go.RowKit PM CM SM BM Lay Ints Plan Blank
set_option linter.unusedVariables false

theorem ret_u64 {a b : Int} (h : a = b) : Ending.returned (.int .u64 a) = .returned (.int .u64 b) := by rw [h]
theorem ret_bool {a b : Bool} (h : a = b) : Ending.returned (.bool a) = .returned (.bool b) := by rw [h]

theorem At_any {A : Option Addr} {l : List Int} {n : Nat} (c : Nat) {w : World} (hn : n = l.length) (hl : n ≤ 1000000) (hR : Row w w.heap.size A (flat (encZ .u64) l)) (i : Int) : Calls Tryz.prog 51 #[.slice A n c, .int .i64 i] w fun e w' => e = .returned (.int .u64 (getI l i)) ∧ w = w' := by
  by_cases hi : there l i
  · obtain ⟨j, rfl, hj⟩ := there_nat hi
    obtain ⟨b, o, rfl, _, hc⟩ := int_at hR hj
    have hx := List.getElem?_eq_getElem hj
    have c0 := hc j _ hx
    rw [← getI_some hx] at c0
    have hjn : j < n := by omega
    generalize getI l (j : Int) = x at c0 ⊢
    have h0 : ¬ (j : Int) < 0 := by omega
    clear hc hx hj hi hR hn
    go_enter Tryz.func51, Tryz.ntmps51
    go_wp2
    go_ret
    exact ⟨rfl, rfl⟩
  · rw [getI_out hi]
    unfold there at hi
    rw [← hn] at hi
    by_cases h0 : i < 0
    · clear hi hR hn
      go_enter Tryz.func51, Tryz.ntmps51
      go_wp2
      go_ret
      exact ⟨rfl, rfl⟩
    · have h1 : (n : Int) ≤ i := by omega
      clear hi hR hn
      go_enter Tryz.func51, Tryz.ntmps51
      go_wp2
      go_ret
      exact ⟨rfl, rfl⟩
theorem Has_any {A : Option Addr} {l : List Int} {n : Nat} (c : Nat) {w : World} (hn : n = l.length) (hl : n ≤ 1000000) (hR : Row w w.heap.size A (flat (encZ .i64) l)) (x : Int) : Calls Tryz.prog 35 #[.slice A n c, .int .i64 x] w fun e w' => e = .returned (.bool (decide (x ∈ l))) ∧ w = w' := by
  have HN := Lib.hid hn
  have HR := Lib.hid hR
  clear hn hR
  go_enter Tryz.func35, Tryz.ntmps35
  go_wp2
  go_loopw [5] (fun jv wi => ∃ j : Nat, j ≤ n ∧ jv = .int .i64 j ∧ (∀ i, i < j → l[i]? ≠ some x) ∧ w = wi)
    (fun jv _ => n - (intOf jv).toNat)
  case atStart => exact ⟨0, Nat.zero_le _, rfl, fun i h => by omega, rfl⟩
  case round =>
    obtain ⟨j, hj, rfl, hne, rfl⟩ := hrel
    have HNE := Lib.hid hne
    clear hne
    by_cases hjk : j < n
    · have hjl : j < l.length := by rw [← HN.out]; exact hjk
      obtain ⟨bl, o, rfl, _, hc⟩ := int_at HR.out hjl
      obtain ⟨y, hy⟩ : ∃ y, l[j]? = some y := ⟨_, List.getElem?_eq_getElem hjl⟩
      have c0 := hc j y hy
      have HY := Lib.hid hy
      clear hc hy hjl
      by_cases hyb : y = x
      · have hyb2 : (y == x) = true := by simpa using hyb
        have HE := Lib.hid (show x ∈ l from hyb ▸ List.mem_of_getElem? HY.out)
        clear hyb
        go_wp2
        go_ret
        exact ⟨ret_bool (decide_eq_true HE.out).symm, rfl⟩
      · have hyb2 : (y == x) = false := by simpa using hyb
        have HYB := Lib.hid hyb
        clear hyb
        go_wp2
        go_roundw
        case rel =>
          refine ⟨j + 1, by omega, by go_num, fun i hi => ?_, trivial⟩
          by_cases e : i = j
          · subst e
            rw [HY.out]
            exact fun e => HYB.out (by simpa using e)
          · exact HNE.out i (by omega)
        case measure => simp [intOf]; omega
    · have HJ := Lib.hid (show x ∉ l from fun hm => by
        obtain ⟨i, hi, e⟩ := List.mem_iff_getElem.1 hm
        have := HN.out
        exact HNE.out i (by omega) (by rw [List.getElem?_eq_getElem hi, e]))
      go_wp2
      go_ret
      exact ⟨ret_bool (decide_eq_false HJ.out).symm, rfl⟩
theorem Has_is {A : Option Addr} {l : List Int} {n : Nat} {c : Nat} {w : World} {x : Int} {v : Bool} (h : decide (x ∈ l) = v) (hn : n = l.length) (hl : n ≤ 1000000) (hR : Row w w.heap.size A (flat (encZ .i64) l)) : Calls Tryz.prog 35 #[.slice A n c, .int .i64 x] w fun e w' => e = .returned (.bool v) ∧ w = w' := by
  rw [← h]
  exact Has_any c hn hl hR x

theorem infoInt : (Tryz.prog.info? 3).map (fun i => (i.zero, i.size, i.bytes)) = some (some (.int .i64 0), 1, 8) := by kernel_rfl
set_option maxHeartbeats 1000000 in
theorem Free_yes {T S L : Nat} {G : Int} (hr : rightB (T : Int) (S : Int) (L : Int) G = true) {A : Option Addr} {n : Nat} (c : Nat) {l : List Int} {w : World} (hn : n = l.length) (hl : n ≤ 1000000) (hR : Row w w.heap.size A (flat (encZ .u64) l)) (hF : Fits l) : Calls Tryz.prog 33 #[.slice A n c, .agg #[.int .i64 (T : Int), .int .i64 (S : Int), .int .i64 (L : Int), .int .u64 G]] w (Lists w (freeL T S L l)) := by
  obtain ⟨t1, t8, s1, s64, l1, l8⟩ := right_nat hr
  have HR := Lib.hid hr
  have HROW := Lib.hid hR
  have HLEN := Lib.hid hn
  obtain ⟨i0, hi, hz0, hz1, hz2⟩ := info_parts infoInt
  obtain ⟨c_0, c_1, c_2, c_3⟩ := box4 w (.int .i64 (T : Int)) (.int .i64 (S : Int)) (.int .i64 (L : Int)) (.int .u64 G) 24
  obtain ⟨x3, hx3⟩ : ∃ x, getI l 3 = x := ⟨_, rfl⟩
  have HX3 := Lib.hid hx3
  have h3 := fits_get hF 3
  unfold freeL
  rw [hx3] at h3 ⊢
  obtain ⟨nx, hnx⟩ : ∃ f : Int → Int, f = fun i => getI l (atI T L i 5) := ⟨_, rfl⟩
  have HNX := Lib.hid (fun i => show getI l (atI T L i 5) = nx i by rw [hnx])
  rw [← hnx]
  have HN0 := Lib.hid (fun i => show 0 ≤ nx i by rw [hnx]; exact (fits_get hF _).1)
  obtain ⟨F, hFr⟩ : ∃ F, goF (S : Int) nx S [] (x3 % 4294967296) = F := ⟨_, rfl⟩
  rw [hFr]
  have HFR := Lib.hid hFr
  clear hr hR hn hF hx3 hnx hFr
  go_enter Tryz.func33, Tryz.ntmps33
  go_wp2_with fail
  refine (PlanRef.Right_yes HR.out _).mono ?_
  rintro e w1 ⟨rfl, b1⟩
  simp only [World.size_alloc] at b1
  have B1 := Lib.hid (show Below (w.heap.size + 1) (w.alloc (.cells #[.int .i64 (T : Int), .int .i64 (S : Int), .int .i64 (L : Int), .int .u64 G] 24)) w1 from b1)
  clear b1 c_0 c_1 c_2 c_3
  go_wp2_with fail
  refine (At_any c HLEN.out hl (HROW.out.later (below_past B1.out)) 3).mono ?_
  rintro e w2 ⟨rfl, rfl⟩
  rw [HX3.out]
  have HX := Lib.hid (show 0 ≤ x3 % 4294967296 ∧ x3 % 4294967296 ≤ 4294967295 by omega)
  have hx0 := HX.out.1
  have hx1 := HX.out.2
  have hS64 := s64
  clear t1 t8 s1 l1 l8 s64
  obtain ⟨c_0, c_1, c_2, c_3⟩ := box4_later B1.out
  go_wp2
  clear c_0 c_1 c_2 c_3
  go_loopw [5, 6] (fun lv bv wr => ∃ (k : Nat) (A : Option Addr) (c : Nat) (b : Int) (out : List Int), k ≤ S ∧ lv = .slice A k c ∧ bv = .int .i64 b ∧ 0 ≤ b ∧ b ≤ 4294967295 ∧ wr.ownsRow (w.heap.size + 1) 3 1 (.slice A k c) k (flat (encZ .i64) out) ∧ k = out.length ∧ BM.Good S out ∧ goF (S : Int) nx (S - k) out b = F ∧ Below (w.heap.size + 1) (w.alloc (.cells #[.int .i64 (T : Int), .int .i64 (S : Int), .int .i64 (L : Int), .int .u64 G] 24)) wr)
    (fun lv _ _ => S - lenV lv)
  case atStart => exact ⟨0, none, 0, _, [], Nat.zero_le _, rfl, rfl, HX.out.1, HX.out.2, World.ownsRow_nil _ _ _ _, rfl, good_nil S, HFR.out, B1.out⟩
  case round =>
    clear hx0 hx1
    obtain ⟨k, A', c', b, out, hk, rfl, rfl, hb0, hb1, ho, hlen, hgood, hgo, hb⟩ := hrel
    have HO := Lib.hid ho
    have HN := Lib.hid hlen
    have HG := Lib.hid hgo
    have HB := Lib.hid hb
    have HGD := Lib.hid hgood
    obtain ⟨c_0, c_1, c_2, c_3⟩ := box4_later hb
    clear ho hlen hgo hb hgood
    by_cases h1 : 1 ≤ b
    · by_cases hbS : b ≤ (S : Int)
      · by_cases hm : b ∈ out
        · have HE := Lib.hid (show F = out from HG.out.symm.trans (go_stop fun hh => hh.2.2 hm))
          have HHAS := Lib.hid (decide_eq_true hm)
          clear hm
          go_wp2_with fail
          refine (Has_is HHAS.out HN.out (by omega) (Row.of_own HO.out)).mono ?_
          rintro e w3 ⟨rfl, rfl⟩
          go_wp2
          go_ret
          exact ends HO.out HN.out HE.out HB.out
        · have HCD := Lib.hid (show 1 ≤ b ∧ b ≤ (S : Int) ∧ b ∉ out from ⟨h1, hbS, hm⟩)
          have HHAS := Lib.hid (decide_eq_false hm)
          have hlt : k < S := by
            rcases Nat.lt_or_ge k S with h | h
            · exact h
            · exact absurd HCD.out (good_full HGD.out (by have := HN.out; omega))
          have HS := Lib.hid (show goF (S : Int) nx (S - (k + 1)) (out ++ [b]) (nx b) = F by
            rw [← HG.out, show S - k = (S - (k + 1)) + 1 by omega, go_step HCD.out])
          have HGD2 := Lib.hid (good_snoc HGD.out HCD.out)
          clear hm
          go_wp2_with fail
          refine (Has_is HHAS.out HN.out (by omega) (Row.of_own HO.out)).mono ?_
          rintro e w3 ⟨rfl, rfl⟩
          clear c_0 c_1 c_2 c_3
          go_wp2_with (at_builtin; refine wpList_append_to _ (w.alloc (.cells #[.int .i64 (T : Int), .int .i64 (S : Int), .int .i64 (L : Int), .int .u64 G] 24)) rfl (.tmp 30) (.tmp 32) 39 rfl (w.heap.size + 1) 3 i0 _ 1 8 Tryz.underlying39 hi hz0 hz1 hz2 rfl (by decide) _ k _ rfl (HO.out.alloc _) ⟨wr.heap.size, 0, none⟩ 1 1 (flat (encZ .i64) [b]) rfl (by decide) rfl (cells_new _ _ _) (flat_oneCell (encZ_one _) _) (by simp only [maxLen]; omega) (by omega) (by have := size_past HB.out; simp; omega) ((HB.out).alloc (size_past HB.out) _) ?_; intro g2 cap2 w6 ho2 hg2 hlt2 hb2; have HO6 := Lib.hid ho2; have HP6 := Lib.hid (show Below (w.heap.size + 1) (w.alloc (.cells #[.int .i64 (T : Int), .int .i64 (S : Int), .int .i64 (L : Int), .int .u64 G] 24)) w6 from hb2); obtain ⟨c_0, c_1, c_2, c_3⟩ := box4_later HP6.out; clear ho2 hb2)
          refine (PlanRef.Slot_any T S L G b 5 _).mono ?_
          rintro e w7 ⟨rfl, hb7⟩
          have HP7 := Lib.hid (past_later HP6.out hb7)
          have HO7 := Lib.hid (own_later HO6.out hb7)
          clear hb7 c_0 c_1 c_2 c_3
          go_wp2_with fail
          refine (At_any c HLEN.out hl (HROW.out.later (below_past HP7.out)) _).mono ?_
          rintro e w8 ⟨rfl, rfl⟩
          rw [HNX.out]
          have HX2 := Lib.hid (HN0.out b)
          have hx2 := HN0.out b
          by_cases hx : nx b ≤ 64
          · go_wp2
            go_roundw
            case rel => exact ⟨k + 1, _, cap2, nx b, out ++ [b], by omega, rfl, rfl, hx2, by omega, by rw [flat_append]; exact HO7.out, by rw [List.length_append, ← HN.out]; rfl, HGD2.out, HS.out, HP7.out⟩
            case measure => simp [lenV]; omega
          · go_wp2
            go_roundw
            case rel => exact ⟨k + 1, _, cap2, 0, out ++ [b], by omega, rfl, rfl, Int.le_refl _, by decide, by rw [flat_append]; exact HO7.out, by rw [List.length_append, ← HN.out]; rfl, HGD2.out, by rw [← HS.out]; exact (go_clip (by omega) nx _ _ (by omega)).symm, HP7.out⟩
            case measure => simp [lenV]; omega
      · have HE := Lib.hid (show F = out from HG.out.symm.trans (go_stop (by omega)))
        go_wp2
        go_ret
        exact ends HO.out HN.out HE.out HB.out
    · have HE := Lib.hid (show F = out from HG.out.symm.trans (go_stop (by omega)))
      go_wp2
      go_ret
      exact ends HO.out HN.out HE.out HB.out
end Go.Proofs.YtlagghghbpbcbaaGreatDoor.BlankRef
