/- PoolStack: for every plan that is right and every list of at most 200 takings and givings back, each done alone, what is taken is what was given back last, none twice, and none where there is none; as many are free behind it as should be; of another plan, or of more, just a new task's Index is asked; and the chapter's example comes out; the arguments read as they did. Condition: the library's listed tables hold what its own text lays in them (tied by the card). -/
import Derived.Test.YtmeghmlojnbmbaaDoorPoolAwake
import Derived.Test.YtmeghmlojnbmbaaDoorBools
import Derived.Test.YtmeghmlojnbmbaaDoorQueue
import Derived.Test.YtmeghmlojnbmbaaDoorFour
import Derived.Test.YtmeghmlojnbmbaaDoorFrame
import Derived.Test.YtmeghmlojnbmbaaDoorFrameLaid
import Derived.Test.YtmeghmlojnbmbaaDoorTie
import Derived.Test.YtmeghmlojnbmbaaDoorCards
namespace Go.Proofs.YtmeghmlojnbmbaaDoor.PoolStack
set_option maxRecDepth 20000
open Go.ChangeShapes Go.WideShapes Go.ChangeAt Go.RowKit CM DM PM PoM Lay Plan Pool Ints Bools Go.Proofs.YtmeghmlojnbmbaaDoor.Task
open Go.Proofs.YtmeghmlojnbmbaaDoor.Law12 (StackMem pop_top pop_empty push_on Make_stack plan4)
set_option linter.unusedVariables false
set_option linter.unusedSimpArgs false

theorem held {W : World} (h : laidMetH Tryd.prog Rows.poolStackRow.laid W) : True := trivial

theorem walk_no (T S L : Int) (G : Int) (A : Option Addr) (m c : Nat) (hr : rightB T S L G = false) (w : World) :
    Calls Tryd.prog 5 #[.agg #[.int .i64 T, .int .i64 S, .int .i64 L, .int .u64 G], .slice A m c] w fun e w' => e = .returned (.bool true) ∧ Below w.heap.size w w' := by
  have HR := Lib.hid hr
  have HC := Lib.hid (box4 w (.int .i64 T) (.int .i64 S) (.int .i64 L) (.int .u64 G) 24)
  have HB0 := Lib.hid (box_below w (.cells #[.int .i64 T, .int .i64 S, .int .i64 L, .int .u64 G] 24))
  obtain ⟨c_0, c_1, c_2, c_3⟩ := HC.out
  clear hr
  go_enter Tryd.func5, Tryd.ntmps5
  go_wp2_with fail
  refine (Right_no HR.out _).mono ?_
  rintro e w1 ⟨rfl, b1⟩
  have HB1 := Lib.hid (HB0.out.trans (b1.mono HB0.out.size))
  have HC1 := Lib.hid (plan4 HC.out (only_below (fun _ => False) b1) id)
  clear b1 c_0 c_1 c_2 c_3
  obtain ⟨c_0, c_1, c_2, c_3⟩ := HC1.out
  go_wp2_with fail
  refine (Pop_any T S L G _).mono ?_
  rintro e w2 ⟨p, rfl, p2, hp2, b2⟩
  have HP2 := Lib.hid p2
  have HB2 := Lib.hid (HB1.out.trans (b2.mono HB1.out.size))
  clear p2 hp2 b2 c_0 c_1 c_2 c_3
  go_wp2_with fail
  refine (Index_any HP2.out).mono ?_
  rintro e w3 ⟨rfl, rfl⟩
  rw [popI_n (s := ⟨1, 0, 0⟩) (by simp)]
  go_wp2_with fail
  refine (Law12.awake_any _).mono ?_
  rintro e w4 ⟨rfl, b4⟩
  go_wp2
  go_ret
  exact ⟨rfl, HB2.out.trans (b4.mono HB2.out.size)⟩
theorem walk_many (T S L : Int) (G : Int) (A : Option Addr) (m c : Nat) (hr : rightB T S L G = true) (hm : 200 < m) (hl : m ≤ 9223372036854775807) (w : World) :
    Calls Tryd.prog 5 #[.agg #[.int .i64 T, .int .i64 S, .int .i64 L, .int .u64 G], .slice A m c] w fun e w' => e = .returned (.bool true) ∧ Below w.heap.size w w' := by
  have HR := Lib.hid hr
  have HC := Lib.hid (box4 w (.int .i64 T) (.int .i64 S) (.int .i64 L) (.int .u64 G) 24)
  have HB0 := Lib.hid (box_below w (.cells #[.int .i64 T, .int .i64 S, .int .i64 L, .int .u64 G] 24))
  obtain ⟨c_0, c_1, c_2, c_3⟩ := HC.out
  clear hr
  go_enter Tryd.func5, Tryd.ntmps5
  go_wp2_with fail
  refine (Right_yes HR.out _).mono ?_
  rintro e w1 ⟨rfl, b1⟩
  have HB1 := Lib.hid (HB0.out.trans (b1.mono HB0.out.size))
  have HC1 := Lib.hid (plan4 HC.out (only_below (fun _ => False) b1) id)
  clear b1 c_0 c_1 c_2 c_3
  obtain ⟨c_0, c_1, c_2, c_3⟩ := HC1.out
  go_wp2_with fail
  refine (Pop_any T S L G _).mono ?_
  rintro e w2 ⟨p, rfl, p2, hp2, b2⟩
  have HP2 := Lib.hid p2
  have HB2 := Lib.hid (HB1.out.trans (b2.mono HB1.out.size))
  clear p2 hp2 b2 c_0 c_1 c_2 c_3
  go_wp2_with fail
  refine (Index_any HP2.out).mono ?_
  rintro e w3 ⟨rfl, rfl⟩
  rw [popI_n (s := ⟨1, 0, 0⟩) (by simp)]
  go_wp2_with fail
  refine (Law12.awake_any _).mono ?_
  rintro e w4 ⟨rfl, b4⟩
  go_wp2
  go_ret
  exact ⟨rfl, HB2.out.trans (b4.mono HB2.out.size)⟩

/-- Amid the takings. -/
def Amid (w1 : World) (pc h n T S L : Nat) (vf vh : Value) (wr : World) : Prop :=
  ∃ r hl, OwnFrom wr w1.heap.size 3 vf r.length (flat (encZ .i64) r.reverse) ∧ OwnFrom wr w1.heap.size 3 vh hl.length (flat (encZ .i64) hl) ∧ (∀ k, vf.ownBlock = some k → vh.ownBlock ≠ some k) ∧
    StackMem wr pc h n T S L r ∧ BM.Good S (r ++ hl) ∧ Only (fun k => k = h) w1 wr
theorem own_any (g o o' n m c d : Nat) : (Value.slice (some ⟨g, o, none⟩) n c).ownBlock = (Value.slice (some ⟨g, o', none⟩) m d).ownBlock := rfl
theorem own_same (A : Option Addr) (n m c d : Nat) : (Value.slice A n c).ownBlock = (Value.slice A m d).ownBlock := by cases A <;> rfl
theorem info_int : (Tryd.prog.info? 3).map (fun i => (i.zero, i.size, i.bytes)) = some (some (.int .i64 0), 1, 8) := by kernel_rfl
theorem cell_new1 (w : World) (x : Value) (t : TypeId) : (w.alloc (.cells #[x] t)).cell? ⟨w.heap.size, 0, none⟩ = some x := by
  rw [cell_of_row _ _ _ _ _ _ (heap_alloc_new w _)]
  rfl

set_option maxHeartbeats 2000000 in
theorem walk_yes (T S L : Nat) (G : Int) (A : Option Addr) (l : List Bool) (c : Nat) (hr : rightB (T : Int) (S : Int) (L : Int) G = true) (hG : 0 ≤ G) (hm : l.length ≤ 200) (w : World) (hR : Row w w.heap.size A (flat encB l)) :
    Calls Tryd.prog 5 #[.agg #[.int .i64 (T : Int), .int .i64 (S : Int), .int .i64 (L : Int), .int .u64 G], .slice A l.length c] w fun e w' => e = .returned (.bool true) ∧ Below w.heap.size w w' := by
  obtain ⟨m, hm1⟩ : ∃ m, m = l.length := ⟨_, rfl⟩
  rw [← hm1] at hm ⊢
  have HM := Lib.hid hm1
  have HR := Lib.hid hr
  have HG := Lib.hid hG
  have HROW := Lib.hid hR
  obtain ⟨t1, t8, s1, s64, l1, l8⟩ := Blank.right_nat hr
  have HBD := Lib.hid (And.intro t8 (And.intro s64 l8))
  obtain ⟨i0, hi, hz0, hz1, hz2⟩ := info_parts info_int
  have HC := Lib.hid (box4 w (.int .i64 (T : Int)) (.int .i64 (S : Int)) (.int .i64 (L : Int)) (.int .u64 G) 24)
  have HB0 := Lib.hid (box_below w (.cells #[.int .i64 (T : Int), .int .i64 (S : Int), .int .i64 (L : Int), .int .u64 G] 24))
  obtain ⟨c_0, c_1, c_2, c_3⟩ := HC.out
  clear hr hG hm1 hR t1 t8 l1 l8
  go_enter Tryd.func5, Tryd.ntmps5
  go_wp2_with fail
  refine (Right_yes HR.out _).mono ?_
  rintro e wa ⟨rfl, ba⟩
  have HBA := Lib.hid (HB0.out.trans (ba.mono HB0.out.size))
  have HCA := Lib.hid (plan4 HC.out (only_below (fun _ => False) ba) id)
  have HSA := Lib.hid (show w.heap.size + 1 ≤ wa.heap.size by have := ba.size; simpa using this)
  clear ba c_0 c_1 c_2 c_3
  obtain ⟨c_0, c_1, c_2, c_3⟩ := HCA.out
  go_wp2_with fail
  refine (Make_stack HR.out HG.out _).mono ?_
  rintro e w1 ⟨pc, h, n, rfl, m1, p1, h1, b1⟩
  have HM1 := Lib.hid m1
  have HB1 := Lib.hid (HBA.out.trans (b1.mono HBA.out.size))
  have HC1 := Lib.hid (plan4 HCA.out (only_below (fun _ => False) b1) id)
  have HLT := Lib.hid (show (w.heap.size < pc ∧ pc < w1.heap.size) ∧ (w.heap.size < h ∧ h < w1.heap.size) by have := m1.lt; have := HSA.out; omega)
  clear m1 p1 h1 b1 c_0 c_1 c_2 c_3
  obtain ⟨c_0, c_1, c_2, c_3⟩ := HC1.out
  go_wp2
  clear c_0 c_1 c_2 c_3
  go_loopw [7, 9] (fun vf iv wr => ∃ k : Nat, k ≤ S ∧ iv = .int .i64 k ∧ OwnFrom wr w1.heap.size 3 vf (S - k) (flat (encZ .i64) (downL S k)) ∧ Below w1.heap.size w1 wr)
    (fun vf iv _ => (intOf iv).toNat)
  case atStart => exact ⟨S, Nat.le_refl _, rfl, by rw [down_all, Nat.sub_self]; exact OwnFrom.nil _ _ _, Below.refl _ _⟩
  case round =>
    obtain ⟨k, hk, rfl, ho, hb⟩ := hrel
    obtain ⟨Af, cf, rfl, hcf⟩ := ho.form
    have HO := Lib.hid ho
    have HBK := Lib.hid hb
    clear ho hb
    by_cases h0 : 1 ≤ k
    · obtain ⟨q, rfl⟩ : ∃ q, k = q + 1 := ⟨k - 1, by omega⟩
      have hq : q < S := by omega
      have hsq : S - (q + 1) ≤ 64 := by omega
      obtain ⟨a, ha⟩ : ∃ a, a = S - (q + 1) := ⟨_, rfl⟩
      rw [← ha] at HO hcf hsq ⊢
      have HA := Lib.hid ha
      clear ha
      go_wp2_with (at_builtin; refine wpList_append_from _ rfl (.tmp 39) (.tmp 41) 52 rfl w1.heap.size 3 i0 _ 8 Tryd.underlying52 hi hz0 hz1 hz2 rfl _ a _ rfl (HO.out.later (box_below _ _)) ⟨wr.heap.size, 0, none⟩ 1 (.int .i64 ((q : Int) + 1)) rfl (cell_new1 _ _ _) rfl (by simp only [maxLen]; omega) (by omega) (by have h1 := HBK.out.size; simp; omega) ?_; intro g2 o2 cap w3 ho3 hn3 hm3 hor3 hon3; have HO3 := Lib.hid ho3; have HB3 := Lib.hid ((HBK.out.trans ((box_below wr (.cells #[.int .i64 ((q : Int) + 1)] 3)).mono HBK.out.size)).trans (hon3.below (by have h1 := HBK.out.size; simp; omega) (fun k e => (HO.out.lt k e).1))); clear ho3 hor3 hon3)
      go_roundw
      case rel => exact ⟨q, by omega, by go_num, by rw [down_step hq, flat_append, flat_one, show S - q = a + 1 by have := HA.out; omega]; exact HO3.out, HB3.out⟩
      case measure => simp [intOf]
    · have HK := Lib.hid (show k = 0 by omega)
      obtain ⟨nf, hnf⟩ : ∃ nf, nf = S - k := ⟨_, rfl⟩
      rw [← hnf] at HO hcf ⊢
      have HNF := Lib.hid (show nf = S by have := HK.out; omega)
      have HO := Lib.hid (show OwnFrom wr w1.heap.size 3 (.slice Af nf cf) nf (flat (encZ .i64) (BM.firstL S).reverse) from by have h1 := HO.out; rw [HK.out, down_none] at h1; exact h1)
      clear hnf
      have H1 := Lib.hid (show Amid w1 pc h n T S L (.slice Af nf cf) (.slice none 0 0) wr from ⟨BM.firstL S, [], by rw [BM.first_length]; exact Eq.mp (congrArg (fun q => OwnFrom wr w1.heap.size 3 (.slice Af nf cf) q (flat (encZ .i64) (BM.firstL S).reverse)) HNF.out) HO.out, OwnFrom.nil _ _ _, fun k _ e => (by cases e), HM1.out.later HBK.out, by rw [List.append_nil]; exact good_first S, only_below _ HBK.out⟩)
      go_wp2
      go_loopw [7, 8, 10] (fun vf vh iv wr => ∃ j : Nat, j ≤ m ∧ iv = .int .i64 j ∧ Amid w1 pc h n T S L vf vh wr) (fun vf vh iv _ => m - (intOf iv).toNat)
      case atStart => exact ⟨0, Nat.zero_le _, rfl, H1.out⟩
      case round =>
        obtain ⟨j, hj, rfl, r, hl, hof, hoh, hne, hst, hgd, hon⟩ := hrel
        have hlen := BM.good_len S _ hgd
        rw [List.length_append] at hlen
        have HOF := Lib.hid hof
        have HOH := Lib.hid hoh
        have HNE := Lib.hid hne
        have HST := Lib.hid hst
        have HGD := Lib.hid hgd
        have HON := Lib.hid hon
        have HBW := Lib.hid (show Below w.heap.size w wr from HB1.out.trans (hon.below HB1.out.size (fun k e => by subst e; exact Nat.le_of_lt HLT.out.2.1)))
        have HCW := Lib.hid (plan4 HC1.out hon (by have := HLT.out; omega))
        clear hof hoh hne hst hgd hon H1
        by_cases hlt : j < m
        · obtain ⟨v, hv⟩ : ∃ v, l[j]? = some v := ⟨_, List.getElem?_eq_getElem (by have := HM.out; omega)⟩
          obtain ⟨bl, ol, rfl, _, hcl⟩ := bool_at (HROW.out.later HBW.out) (show j < l.length by have := HM.out; omega)
          have dv := hcl j v hv
          clear hcl hv
          cases v with
          | true =>
            cases r with
            | nil =>
              obtain ⟨A7, c7, rfl, hc7⟩ := HOF.out.form
              obtain ⟨A8, c8, rfl, hc8⟩ := HOH.out.form
              obtain ⟨c_0, c_1, c_2, c_3⟩ := HCW.out
              simp only [List.length_nil] at HOF hc7 ⊢
              obtain ⟨b8, hb8⟩ : ∃ b8, b8 = hl.length := ⟨_, rfl⟩
              rw [← hb8] at HOH hc8 hlen ⊢
              have HB8 := Lib.hid hb8
              clear hb8
              go_wp2_with fail
              refine (pop_empty G HST.out).mono ?_
              rintro e w2 ⟨rfl, m2, o2⟩
              have H2 := Lib.hid (show Amid w1 pc h n T S L (.slice A7 0 c7) (.slice A8 b8 c8) w2 from ⟨[], hl, HOF.out.only o2 (fun k e q => by have h1 := (HOF.out.lt k e).1; have h2 := HLT.out; omega), by rw [← HB8.out]; exact HOH.out.only o2 (fun k e q => by have h1 := (HOH.out.lt k e).1; have h2 := HLT.out; omega), fun k e q => HNE.out k ((own_same _ _ _ _ _).trans e) ((own_same _ _ _ _ _).trans q), m2, HGD.out, HON.out.trans o2⟩)
              clear m2 o2 c_0 c_1 c_2 c_3
              go_wp2
              go_roundw
              case rel => exact ⟨j + 1, by omega, by go_num, H2.out⟩
              case measure => simp [intOf]; omega
            | cons x r =>
              obtain ⟨a, ha⟩ : ∃ a, a = r.length := ⟨_, rfl⟩
              have HF0 := Lib.hid (show OwnFrom wr w1.heap.size 3 u7 (a + 1) (flat (encZ .i64) r.reverse ++ [.int .i64 x]) by
                have h1 := HOF.out
                rw [List.length_cons, List.reverse_cons, flat_append, flat_one, ← ha] at h1
                exact h1)
              obtain ⟨g, o, cg, rfl, hcg, hcm, hcell⟩ := HF0.out.held (by omega)
              have dx := hcell a (.int .i64 x) (by rw [List.getElem?_append_right (by rw [flat_ints_length, List.length_reverse, ha]; exact Nat.le_refl _), flat_ints_length, List.length_reverse, ha, Nat.sub_self]; rfl)
              obtain ⟨A8, c8, rfl, hc8⟩ := HOH.out.form
              obtain ⟨b8, hb8⟩ : ∃ b8, b8 = hl.length := ⟨_, rfl⟩
              rw [List.length_cons, ← ha, ← hb8] at hlen
              rw [← hb8] at HOH hc8 ⊢
              have HB8 := Lib.hid hb8
              have HA := Lib.hid ha
              have hcz : ¬ cg = 0 := by omega
              have HN2 := Lib.hid (show (Value.slice A8 b8 c8).ownBlock ≠ some g from fun q => HNE.out g rfl ((own_same _ _ _ _ _).trans q))
              have hxx : (x != x) = false := by simp
              clear hb8 ha hcell HOF
              go_wp2_with (at_builtin; refine wpList_append_from _ rfl (.tmp 67) (.tmp 69) 52 rfl w1.heap.size 3 i0 _ 8 Tryd.underlying52 hi hz0 hz1 hz2 rfl _ b8 _ rfl (HOH.out.later (box_below _ _)) ⟨wr.heap.size, 0, none⟩ 1 (.int .i64 x) rfl (cell_new1 _ _ _) rfl (by simp only [maxLen]; omega) (by omega) (by have h1 := HON.out.size; simp; omega) ?_; intro g2 o2 cap w3 ho3 hn3 hm3 hor3 hon3; have HO3 := Lib.hid ho3; have HON3 := Lib.hid (show Only (fun k => k = h) w1 w3 from (HON.out.alloc (.cells #[.int .i64 x] 3)).more hon3 fun k e => .inr (HOH.out.lt k e).1); have HF3 := Lib.hid (((HF0.out.init).later (box_below wr (.cells #[.int .i64 x] 3))).only hon3 (fun k e q => by cases e; exact HN2.out q)); have HS3 := Lib.hid ((HST.out.later (box_below wr (.cells #[.int .i64 x] 3))).only hon3 (fun q => by have h1 := (HOH.out.lt _ q).1; have h2 := HLT.out; omega) (fun q => by have h1 := (HOH.out.lt _ q).1; have h2 := HLT.out; omega)); have HG3 := Lib.hid (show g ≠ g2 from hor3.elim (fun q e => HN2.out (by rw [e]; exact q)) (fun q => by have h1 := (HF0.out.lt g rfl).2; simp at q; omega)); have hnh := HLT.out; obtain ⟨c_0, c_1, c_2, c_3⟩ := plan4 HC1.out HON3.out (by omega); clear ho3 hor3 hon3 hnh)
              refine (pop_top G HBD.out.1 HBD.out.2.1 HBD.out.2.2 HS3.out).mono ?_
              rintro e w4 ⟨rfl, m4, o4⟩
              have H4 := Lib.hid (show Amid w1 pc h n T S L (.slice (some ⟨g, o, none⟩) a cg) (.slice (some ⟨g2, o2, none⟩) (b8 + 1) cap) w4 from ⟨r, hl ++ [x], by rw [← HA.out]; exact HF3.out.only o4 (fun k e q => by have h1 := (HF3.out.lt k e).1; have h2 := HLT.out; omega), by rw [List.length_append, ← HB8.out, flat_append, flat_one]; exact HO3.out.only o4 (fun k e q => by have h1 := (HO3.out.lt k e).1; have h2 := HLT.out; omega), fun k e q => (by cases e; cases q; exact HG3.out rfl), m4, good_take HGD.out, HON3.out.trans o4⟩)
              clear m4 o4 c_0 c_1 c_2 c_3
              go_wp2
              go_roundw
              case rel => exact ⟨j + 1, by omega, by go_num, H4.out⟩
              case measure => simp [intOf]; omega
          | false =>
            cases hl with
            | nil =>
              obtain ⟨A7, c7, rfl, hc7⟩ := HOF.out.form
              obtain ⟨A8, c8, rfl, hc8⟩ := HOH.out.form
              simp only [List.length_nil] at HOH hc8 ⊢
              obtain ⟨a, ha⟩ : ∃ a, a = r.length := ⟨_, rfl⟩
              rw [← ha] at HOF hc7 hlen ⊢
              have HA := Lib.hid ha
              clear ha
              have H2 := Lib.hid (show Amid w1 pc h n T S L (.slice A7 a c7) (.slice A8 0 c8) wr from ⟨r, [], by rw [← HA.out]; exact HOF.out, HOH.out, fun k e q => HNE.out k ((own_same _ _ _ _ _).trans e) ((own_same _ _ _ _ _).trans q), HST.out, HGD.out, HON.out⟩)
              go_wp2
              go_roundw
              case rel => exact ⟨j + 1, by omega, by go_num, H2.out⟩
              case measure => simp [intOf]; omega
            | cons y hl =>
              obtain ⟨b, hb⟩ : ∃ b, b = hl.length := ⟨_, rfl⟩
              have HH0 := Lib.hid (show OwnFrom wr w1.heap.size 3 u8 (b + 1) (.int .i64 y :: flat (encZ .i64) hl) by
                have h1 := HOH.out
                rw [List.length_cons, ← hb] at h1
                exact h1)
              obtain ⟨g, o, cg, rfl, hcg, hcm, hcell⟩ := HH0.out.held (by omega)
              have dy := hcell 0 (.int .i64 y) rfl
              rw [Nat.add_zero] at dy
              have HT0 := Lib.hid HH0.out.tail
              obtain ⟨A7, c7, rfl, hc7⟩ := HOF.out.form
              obtain ⟨a, ha⟩ : ∃ a, a = r.length := ⟨_, rfl⟩
              rw [List.length_cons, ← ha, ← hb] at hlen
              rw [← ha] at HOF hc7 ⊢
              have HB8 := Lib.hid hb
              have HA := Lib.hid ha
              have HN2 := Lib.hid (show (Value.slice A7 a c7).ownBlock ≠ some g from fun q => HNE.out g ((own_same _ _ _ _ _).trans q) rfl)
              clear hb ha hcell HOH
              by_cases hc1 : cg = 1
              · subst hc1
                have hb0 : b = 0 := by omega
                subst hb0
                have HT := Lib.hid (show OwnFrom wr w1.heap.size 3 (.slice (some ⟨g, o, none⟩) 0 0) 0 (flat (encZ .i64) hl) from by have h1 := HT0.out; simpa  using h1)
                clear HT0
                go_wp2_with (at_builtin; refine wpList_append_from _ rfl (.tmp 84) (.tmp 86) 52 rfl w1.heap.size 3 i0 _ 8 Tryd.underlying52 hi hz0 hz1 hz2 rfl _ a _ rfl (HOF.out.later (box_below _ _)) ⟨wr.heap.size, 0, none⟩ 1 (.int .i64 y) rfl (cell_new1 _ _ _) rfl (by simp only [maxLen]; omega) (by omega) (by have h1 := HON.out.size; simp; omega) ?_; intro g2 o2 cap w3 ho3 hn3 hm3 hor3 hon3; have HO3 := Lib.hid ho3; have HON3 := Lib.hid (show Only (fun k => k = h) w1 w3 from (HON.out.alloc (.cells #[.int .i64 y] 3)).more hon3 fun k e => .inr (HOF.out.lt k e).1); have HF3 := Lib.hid (((HT.out).later (box_below wr (.cells #[.int .i64 y] 3))).only hon3 (fun k e q => by cases e; exact HN2.out q)); have HS3 := Lib.hid ((HST.out.later (box_below wr (.cells #[.int .i64 y] 3))).only hon3 (fun q => by have h1 := (HOF.out.lt _ q).1; have h2 := HLT.out; omega) (fun q => by have h1 := (HOF.out.lt _ q).1; have h2 := HLT.out; omega)); have HG3 := Lib.hid (show g ≠ g2 from hor3.elim (fun q e => HN2.out (by rw [e]; exact q)) (fun q => by have h1 := (HH0.out.lt g rfl).2; simp at q; omega)); have hnh := HLT.out; obtain ⟨c_0, c_1, c_2, c_3⟩ := plan4 HC1.out HON3.out (by omega); clear ho3 hor3 hon3 hnh)
                refine (push_on G HBD.out.1 HBD.out.2.1 HBD.out.2.2 HS3.out (good_left (good_give HGD.out))).mono ?_
                rintro e w4 ⟨rfl, m4, o4⟩
                have H4 := Lib.hid (show Amid w1 pc h n T S L (.slice (some ⟨g2, o2, none⟩) (a + 1) cap) (.slice (some ⟨g, o, none⟩) 0 0) w4 from ⟨y :: r, hl, by rw [List.length_cons, ← HA.out, List.reverse_cons, flat_append, flat_one]; exact HO3.out.only o4 (fun k e q => by have h1 := (HO3.out.lt k e).1; have h2 := HLT.out; omega), by rw [← HB8.out]; exact HF3.out.only o4 (fun k e q => by have h1 := (HF3.out.lt k e).1; have h2 := HLT.out; omega), fun k e q => (by cases e; cases q; exact HG3.out rfl), m4, good_give HGD.out, HON3.out.trans o4⟩)
                clear m4 o4 c_0 c_1 c_2 c_3
                go_wp2
                go_roundw
                case rel => exact ⟨j + 1, by omega, by go_num, H4.out⟩
                case measure => simp [intOf]; omega
              · have hc2 : ¬ cg = 1 := hc1
                have HT := Lib.hid (show OwnFrom wr w1.heap.size 3 (.slice (some ⟨g, o + 1, none⟩) b (cg - 1)) b (flat (encZ .i64) hl) from by have h1 := HT0.out; simpa [hc1] using h1)
                clear HT0
                go_wp2_with (at_builtin; refine wpList_append_from _ rfl (.tmp 84) (.tmp 86) 52 rfl w1.heap.size 3 i0 _ 8 Tryd.underlying52 hi hz0 hz1 hz2 rfl _ a _ rfl (HOF.out.later (box_below _ _)) ⟨wr.heap.size, 0, none⟩ 1 (.int .i64 y) rfl (cell_new1 _ _ _) rfl (by simp only [maxLen]; omega) (by omega) (by have h1 := HON.out.size; simp; omega) ?_; intro g2 o2 cap w3 ho3 hn3 hm3 hor3 hon3; have HO3 := Lib.hid ho3; have HON3 := Lib.hid (show Only (fun k => k = h) w1 w3 from (HON.out.alloc (.cells #[.int .i64 y] 3)).more hon3 fun k e => .inr (HOF.out.lt k e).1); have HF3 := Lib.hid (((HT.out).later (box_below wr (.cells #[.int .i64 y] 3))).only hon3 (fun k e q => by cases e; exact HN2.out q)); have HS3 := Lib.hid ((HST.out.later (box_below wr (.cells #[.int .i64 y] 3))).only hon3 (fun q => by have h1 := (HOF.out.lt _ q).1; have h2 := HLT.out; omega) (fun q => by have h1 := (HOF.out.lt _ q).1; have h2 := HLT.out; omega)); have HG3 := Lib.hid (show g ≠ g2 from hor3.elim (fun q e => HN2.out (by rw [e]; exact q)) (fun q => by have h1 := (HH0.out.lt g rfl).2; simp at q; omega)); have hnh := HLT.out; obtain ⟨c_0, c_1, c_2, c_3⟩ := plan4 HC1.out HON3.out (by omega); clear ho3 hor3 hon3 hnh)
                refine (push_on G HBD.out.1 HBD.out.2.1 HBD.out.2.2 HS3.out (good_left (good_give HGD.out))).mono ?_
                rintro e w4 ⟨rfl, m4, o4⟩
                have H4 := Lib.hid (show Amid w1 pc h n T S L (.slice (some ⟨g2, o2, none⟩) (a + 1) cap) (.slice (some ⟨g, o + 1, none⟩) b (cg - 1)) w4 from ⟨y :: r, hl, by rw [List.length_cons, ← HA.out, List.reverse_cons, flat_append, flat_one]; exact HO3.out.only o4 (fun k e q => by have h1 := (HO3.out.lt k e).1; have h2 := HLT.out; omega), by rw [← HB8.out]; exact HF3.out.only o4 (fun k e q => by have h1 := (HF3.out.lt k e).1; have h2 := HLT.out; omega), fun k e q => (by cases e; cases q; exact HG3.out rfl), m4, good_give HGD.out, HON3.out.trans o4⟩)
                clear m4 o4 c_0 c_1 c_2 c_3
                go_wp2
                go_roundw
                case rel => exact ⟨j + 1, by omega, by go_num, H4.out⟩
                case measure => simp [intOf]; omega
        · obtain ⟨A7, c7, rfl, hc7⟩ := HOF.out.form
          obtain ⟨A8, c8, rfl, hc8⟩ := HOH.out.form
          obtain ⟨lw, hmw, hfw, hlw, hsw, hgw⟩ := HST.out
          have HFR := Lib.hid (stack_free hsw hgw)
          have HMW := Lib.hid hmw
          have HFW := Lib.hid hfw
          obtain ⟨a, ha⟩ : ∃ a, a = r.length := ⟨_, rfl⟩
          rw [← ha] at HOF hc7 hlen ⊢
          have HA := Lib.hid ha
          obtain ⟨c_0, c_1, c_2, c_3⟩ := HCW.out
          clear hmw hfw hlw hsw hgw ha
          go_wp2_with fail
          refine (Blank.Free_yes HR.out HMW.out HFW.out).mono ?_
          rintro e w2 ⟨A9, c9, rfl, r2, b2⟩
          rw [HFR.out, ← HA.out]
          have HB2 := Lib.hid b2
          have haa : ((a : Int) == (a : Int)) = true := by simp
          clear r2 b2 c_0 c_1 c_2 c_3
          go_wp2_with fail
          refine (Law12.awake_any _).mono ?_
          rintro e w3 ⟨rfl, b3⟩
          go_wp2
          go_ret
          exact ⟨rfl, HBW.out.trans ((HB2.out.trans (b3.mono HB2.out.size)).mono HBW.out.size)⟩

theorem walk (x : Int × Int × Int × Int) (A : Option Addr) (l : List Bool) (c : Nat) (_ : (Lit.int .i64 x.1).wf = true) (_ : (Lit.int .i64 x.2.1).wf = true) (_ : (Lit.int .i64 x.2.2.1).wf = true) (hg : (Lit.int .u64 x.2.2.2).wf = true) (w : World)
    (hR : Row w w.heap.size A (flat encB l)) (hl : l.length ≤ maxLen) (_ : True) :
    Calls Tryd.prog 5 #[.agg #[.int .i64 x.1, .int .i64 x.2.1, .int .i64 x.2.2.1, .int .u64 x.2.2.2], .slice A l.length c] w fun e w' => e = .returned (.bool true) ∧ Below w.heap.size w w' := by
  obtain ⟨T, S, L, G⟩ := x
  simp only
  cases h : rightB T S L G
  · exact walk_no T S L G A l.length c h w
  · by_cases hm : 200 < l.length
    · unfold maxLen at hl
      exact walk_many T S L G A l.length c h hm (by omega) w
    · have hr := right_is h
      obtain ⟨a, rfl⟩ := Int.eq_ofNat_of_zero_le (show 0 ≤ T by have := hr.1; omega)
      obtain ⟨b, rfl⟩ := Int.eq_ofNat_of_zero_le (show 0 ≤ S by have := hr.2.2.1; omega)
      obtain ⟨d, rfl⟩ := Int.eq_ofNat_of_zero_le (show 0 ≤ L by have := hr.2.2.2.2.1; omega)
      exact walk_yes a b d G A l c h (Law12.wf_u64 hg).1 (by omega) w hR
theorem laidOut : laidOutB Tryd.prog = true := by kernel_rfl
theorem own : ownKnob Tryd.prog.godebug = none := by kernel_rfl
theorem door_met (os : Os) (args : Array Value) : laidMetH Tryd.prog Rows.poolStackRow.laid ((World.doorLaid Tryd.prog 400 os).forCall (fun _ _ => 0) ⟨#[], args, []⟩).memory :=
  laidMetH_of_parts3 (fuel := 8) (laidMet_of_run' 8 (by kernel_rfl) (by kernel_rfl)) (by kernel_rfl) (by kernel_rfl)
set_option maxRecDepth 100000 in
theorem lifted (os : Os) (started : os.Started) (H : Type) (enc : TypeId × Value → H) :
    ReturnsInHanded {} Tryd.checked os 5 .any (fun w args => (Rows.poolStackSpec.pre enc Tryd.prog Tryd.f5 [] false w args ∧ laidMetH Tryd.prog Rows.poolStackRow.laid w) ∧ sizedMet enc Tryd.prog Tryd.f5 (OpenSpec.ofChange Rows.poolStackSpec) false w args) (Rows.poolStackSpec.post enc Tryd.prog Tryd.f5 false true false false) := by
  refine Frame.liftedLaid (C := Tryd.checked) (fn := Tryd.f5) (tb := 4) own started (by kernel_rfl) Tryd.func5
    (ChangeSpec.witness_shaped (enc := enc) (C := Tryd.checked) (os := os) (X := fun w _ => laidMetH Tryd.prog Rows.poolStackRow.laid w) false (World.doorLaid Tryd.prog 400 os) #[.agg #[.int .i64 0, .int .i64 0, .int .i64 0, .int .u64 0], .slice none 0 0] 8 rfl (World.shaped_of_RefB (by kernel_rfl) (by kernel_rfl)) (by kernel_rfl) (by kernel_rfl) (by kernel_rfl) (door_met os _))
    rfl rfl Tryd.underlying4 laidOut (by kernel_rfl) (fun ds h => by match ds, h with | [_, _], _ => rfl) ?_
  intro W base args ds ps hval0 hA0 hlt hL
  have hval : ∀ (j : Nat) t v, Tryd.f5.params[j]? = some t → args[j]? = some v → Value.okWide Tryd.prog W .any base t v := hval0
  have hA : DataW.TrodAll enc Tryd.prog W 0 (fun _ => true) true Tryd.f5.params.toList args.toList ds ps := hA0
  rw [Tryd.params5] at hA hval
  obtain ⟨v0, vs0, d0, ds0, p0, q0, hargs, rfl, rfl, h0, r0⟩ := trodAll_cons hA
  obtain ⟨v1, vs1, d1, ds1, p1, q1, rfl, rfl, rfl, h1, r1⟩ := trodAll_cons r0
  obtain ⟨rfl, rfl, rfl⟩ := trodAll_nil r1
  obtain rfl : args = #[v0, v1] := by cases args; simp_all
  obtain ⟨x0, rfl, w0_0, w0_1, w0_2, w0_3⟩ := Open.open_four_ints Tryd.underlying24 (by kernel_rfl) (by kernel_rfl) Tryd.underlying3 Tryd.underlying3 Tryd.underlying3 Tryd.underlying22 (hval 0 24 v0 rfl rfl) h0
  obtain ⟨A1, x1, c1, rfl, b1, m1, R1, g1⟩ := Open.open_rows (k := 1) Bools.encB (fun _ => True) Tryd.underlying46 (by kernel_rfl) (by decide) Bools.encB_length (fun n cs y h hl => Bools.one_bool Tryd.underlying4 n cs y h hl) (hval 1 46 v1 rfl rfl) h1
  refine (walk x0 A1 x1 c1 w0_0 w0_1 w0_2 w0_3 W R1 (Nat.le_trans b1 m1) (held hL)).mono fun e W' h => ?_
  exact h

theorem over : Rows.poolStackRow.holds Tryd.pinned (OpenSpec.ofChange Rows.poolStackSpec) :=
  OpenClaim.holds_of_wide 5 Tryd.f5 rfl rfl rfl rfl rfl rfl rfl ⟨rfl, rfl, rfl, rfl, rfl⟩ rfl rfl rfl rfl rfl (by kernel_rfl) Tryd.func5 (by kernel_rfl)
    (of_decide_eq_true (by kernel_rfl)) (by unfold Func.isWrapper; first | (rw [if_pos (by decide +kernel)]; kernel_rfl) | (rw [if_neg (by decide +kernel)]; exact ⟨rfl, rfl⟩))
    (fun os started H enc _ => lifted os started H enc)

theorem proved : Rows.PoolStackCardSaid :=
  Claim7.holds_tied_plain_at .later [] Rows.poolStackCard.laidKinds true Rows.poolStackCard.stood.harness Rows.poolStackCard.stood.looks
    over (fun _ h => by cases h) (by kernel_rfl) (fun _ h => by cases h) poolStack_row_tie rfl ⟨rfl, rfl⟩ (by kernel_rfl) rfl
    (fun f fn hf hfn => by
      obtain rfl : f = 5 := Option.some.inj ((show Tryd.prog.funcNamed Rows.poolStackRow.func = some 5 by kernel_rfl).symm.trans hf) |>.symm
      obtain rfl : fn = Tryd.f5 := (Option.some.inj (Tryd.func5.symm.trans hfn)).symm
      exact ⟨by kernel_rfl, fun j t ht => by
        rw [Tryd.params5] at ht
        have hm : t ∈ [24, 46] := by simpa using Array.mem_of_getElem? ht
        have hall : ([24, 46].all fun u => !Tryd.prog.wantsStandIn u) = true := by kernel_rfl
        exact (show Tryd.prog.wantsStandIn t = false by simpa using List.all_eq_true.1 hall t hm)⟩)
    (by kernel_rfl)
#print axioms proved
end Go.Proofs.YtmeghmlojnbmbaaDoor.PoolStack
