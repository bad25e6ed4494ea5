/- The document's words at the beginning (sundialref10.Words), held to the same plain list: a new list; what lay in memory ahead stays as it was. -/
import Derived.Test.YtaflbjlhmpoonaaBlankRef
namespace Go.Proofs.Ytaflbjlhmpoonaa.BlankRef
open Go.ChangeShapes Go.WideShapes Go.RowKit PM CM SM BM Lay Ints Plan Blank
set_option linter.unusedVariables false

/-- A new list of words: its value, what it holds, and that nothing else has turned. -/
def Words (w : World) (n : Nat) (l : List Int) (e : Ending) (w' : World) : Prop := ∃ (A : Option Addr) (c : Nat), e = .returned (.slice A n c) ∧ Row w' w'.heap.size A (flat (encZ .u64) l) ∧ Below w.heap.size w w'
theorem head_sets {n : Nat} (h : 4 ≤ n) : ((List.replicate n (0 : Int)).set 0 1).set 3 1 = headL n := by
  unfold headL
  have h0 := setI_in (l := List.replicate n (0 : Int)) (j := 0) (by simp; omega) 1
  have h1 := setI_in (l := (List.replicate n (0 : Int)).set 0 1) (j := 3) (by simp; omega) 1
  rw [← h1, ← h0]
  rfl

theorem stay {w W : World} {T S L : Nat} {G : Int} (hb : Below (w.heap.size + 1) (w.alloc (.cells #[.int .i64 (T : Int), .int .i64 (S : Int), .int .i64 (L : Int), .int .u64 G] 24)) W) : W.cell? ⟨w.heap.size, 0, none⟩ = some (.int .i64 (T : Int)) ∧ W.cell? ⟨w.heap.size, 1, none⟩ = some (.int .i64 (S : Int)) ∧ W.cell? ⟨w.heap.size, 2, none⟩ = some (.int .i64 (L : Int)) ∧ W.cell? ⟨w.heap.size, 3, none⟩ = some (.int .u64 G) ∧ Below (w.heap.size + 1) (w.alloc (.cells #[.int .i64 (T : Int), .int .i64 (S : Int), .int .i64 (L : Int), .int .u64 G] 24)) W :=
  have ⟨a, b, c, d⟩ := box4_later hb
  ⟨a, b, c, d, hb⟩

theorem infoWord : (Try.prog.info? 22).map (fun i => (i.zero, i.size, i.bytes)) = some (some (.int .u64 0), 1, 8) := by kernel_rfl
set_option maxHeartbeats 1000000 in
theorem Words_yes {T S L : Nat} {G : Int} (hr : rightB (T : Int) (S : Int) (L : Int) G = true) (hG : 0 ≤ G) (w : World) : Calls Try.prog 11 #[.agg #[.int .i64 (T : Int), .int .i64 (S : Int), .int .i64 (L : Int), .int .u64 G]] w (Words w (wordsN T S L) (layL (wordsN T S L) T S L (stI G 0) S)) := by
  obtain ⟨t1, t8, s1, s64, l1, l8⟩ := right_nat hr
  have HC := Lib.hid (words_cast (T := T) (S := S) (L := L) (by omega) (by omega) (by omega))
  have hm := words_small t8 s64 l8
  have hm4 : 4 ≤ wordsN T S L := by unfold wordsN; omega
  have HHS := Lib.hid (head_sets hm4)
  have HAT := Lib.hid fun (i a : Nat) (hi : 1 ≤ i) (h : i ≤ S) (ha : a ≤ 5) => at_nat (L := L) t8 s64 l8 hi h ha
  have HLAST := Lib.hid (fun k h => lay_last (T := T) (S := S) (L := L) (stI G 0) t8 s64 l8 k h)
  have HLEN := Lib.hid (lay_length (wordsN T S L) T S L (stI G 0))
  have HST := Lib.hid (Ref04.Of_any G 0 hG)
  generalize wordsN T S L = n at HC hm hm4 HHS HAT HLAST HLEN ⊢
  generalize stI G 0 = g at HLAST HST HLEN ⊢
  obtain ⟨i0, hi, hz0, hz1, hz2⟩ := info_parts infoWord
  obtain ⟨c_0, c_1, c_2, c_3⟩ := box4 w (.int .i64 (T : Int)) (.int .i64 (S : Int)) (.int .i64 (L : Int)) (.int .u64 G) 24
  clear hr hG t1 t8 l1 l8
  go_enter Try.func11, Try.ntmps11
  go_wp2_with fail
  refine (PlanRef.Words_any T S L G _).mono ?_
  rintro e w1 ⟨rfl, b1⟩
  rw [HC.out]
  simp only [World.size_alloc] at b1
  have B1 := Lib.hid (show Below (w.heap.size + 1) (w.alloc (.cells #[.int .i64 (T : Int), .int .i64 (S : Int), .int .i64 (L : Int), .int .u64 G] 24)) w1 from b1)
  clear b1 c_0 c_1 c_2 c_3
  go_wp2_with (first
    | (at_make; refine wpList_make_full _ rfl (.tmp 6) (.tmp 6) 32 rfl (w.heap.size + 1) 22 i0 _ 1 Try.underlying32 hi hz0 hz1 _ _ _ _ n rfl rfl rfl rfl (by rw [hz2]; omega) (by simp only [maxLen]; omega) (size_past B1.out) ?_; intro w2 hown hg2; have B2 := Lib.hid (B1.out.grown hg2 (size_past B1.out) (fun k hk => by cases hk)); rw [made_ints] at hown; have HO := Lib.hid hown; have e0 := own_int_at HO.out (by simp) (show (List.replicate n (0 : Int))[0]? = some 0 by rw [List.getElem?_replicate, if_pos (by omega)]); have e3 := own_int_at HO.out (by simp) (show (List.replicate n (0 : Int))[3]? = some 0 by rw [List.getElem?_replicate, if_pos (by omega)]); obtain ⟨e0, f0⟩ := e0; obtain ⟨e3, f3⟩ := e3; obtain ⟨c_0, c_1, c_2, c_3⟩ := box4_later B2.out; clear hown hg2))
  have HO3 := Lib.hid (own_int_set (own_int_set HO.out 0 1) 3 1)
  rw [HHS.out] at HO3
  have B3 := Lib.hid ((B2.out.setCell (p := ⟨w1.heap.size, 0, none⟩) (size_past B1.out) (.int .u64 1)).setCell (p := ⟨w1.heap.size, 3, none⟩) (size_past B1.out) (.int .u64 1))
  have HSZ := Lib.hid (size_past B1.out)
  clear e0 f0 e3 f3 c_0 c_1 c_2 c_3
  go_loopw [4] (fun iv wr => ∃ k : Nat, k ≤ S ∧ iv = .int .i64 ((k : Int) + 1) ∧ wr.ownsRow (w.heap.size + 1) 22 1 (.slice (some ⟨w1.heap.size, 0, none⟩) n n) n (flat (encZ .u64) (layL n T S L g k)) ∧ Below (w.heap.size + 1) (w.alloc (.cells #[.int .i64 (T : Int), .int .i64 (S : Int), .int .i64 (L : Int), .int .u64 G] 24)) wr)
    (fun iv _ => S + 1 - (intOf iv).toNat)
  case atStart => exact ⟨0, Nat.zero_le _, rfl, HO3.out, B3.out⟩
  case round =>
    obtain ⟨k, hk, rfl, ho, hb⟩ := hrel
    have HOK := Lib.hid ho
    have HBK := Lib.hid hb
    obtain ⟨c_0, c_1, c_2, c_3⟩ := box4_later hb
    clear ho hb
    by_cases hlt : (k : Int) + 1 ≤ (S : Int)
    · obtain ⟨a, ha, -, ha4, han⟩ := HAT.out (k + 1) 0 (by omega) (by omega) (by omega)
      have HA := Lib.hid (show atI (T : Int) (L : Int) ((k : Int) + 1) 0 = (a : Int) from ha)
      obtain ⟨b, hbb, -, hb4, hbn⟩ := HAT.out (k + 1) 5 (by omega) (by omega) (by omega)
      have HBB := Lib.hid (show atI (T : Int) (L : Int) ((k : Int) + 1) 5 = (b : Int) from hbb)
      clear ha hbb
      have ha0 : (0 : Int) ≤ (a : Int) := by omega
      have ha1 : (a : Int) < (n : Int) := by omega
      have hb0 : (0 : Int) ≤ (b : Int) := by omega
      have hb1 : (b : Int) < (n : Int) := by omega
      have HX := Lib.hid (show ∃ x, (layL n T S L g k)[a]? = some x from ⟨_, List.getElem?_eq_getElem (by rw [HLEN.out]; exact han)⟩)
      obtain ⟨c_0, c_1, c_2, c_3⟩ := box4_later (HBK.out.drew)
      go_wp2
      clear c_0 c_1 c_2 c_3
      go_region_held3 (fun W => W.cell? ⟨w.heap.size, 0, none⟩ = some (.int .i64 (T : Int)) ∧ W.cell? ⟨w.heap.size, 1, none⟩ = some (.int .i64 (S : Int)) ∧ W.cell? ⟨w.heap.size, 2, none⟩ = some (.int .i64 (L : Int)) ∧ W.cell? ⟨w.heap.size, 3, none⟩ = some (.int .u64 G) ∧ Below (w.heap.size + 1) (w.alloc (.cells #[.int .i64 (T : Int), .int .i64 (S : Int), .int .i64 (L : Int), .int .u64 G] 24)) W)
        ((first | (with_reducible exact stay HBK.out.drew) | (with_reducible exact stay HB3.out) | exact stay (HB3.out.setCell (p := ⟨w1.heap.size, a, none⟩) HSZ.out _)))
        (first
          | (go_at_call 25; refine (PlanRef.Slot_any T S L G ((k : Int) + 1) 0 _).mono ?_; rintro e w3 ⟨rfl, hb3⟩; rw [HA.out]; have HB3 := Lib.hid (past_later HBK.out.drew hb3); have HO3 := Lib.hid (own_later HOK.out ((Below.refl _ _).drew.trans hb3)); obtain ⟨x, hx⟩ := HX.out; obtain ⟨e0, f0⟩ := own_int_at HO3.out (HLEN.out k).symm hx; clear hb3)
          | (go_at_call 24; refine (HST.out _).mono ?_; rintro e w4 ⟨rfl, rfl⟩))
      have HO4 := Lib.hid (own_int_set HO3.out a g)
      have HB4 := Lib.hid (HB3.out.setCell (p := ⟨w1.heap.size, a, none⟩) HSZ.out (.int .u64 g))
      have hkn : k < S := by omega
      have HLA := Lib.hid (show setI (layL n T S L g k) (a : Int) g = (layL n T S L g k).set a g from setI_in (by rw [HLEN.out]; exact han) g)
      clear HOK HBK HO3 HB3 hx e0 f0
      clear x
      obtain ⟨c_0, c_1, c_2, c_3⟩ := box4_later HB4.out
      by_cases hl : (k : Int) + 1 < (S : Int)
      · have HLB := Lib.hid (show layL n T S L g (k + 1) = ((layL n T S L g k).set a g).set b ((k : Int) + 1 + 1) by
          rw [lay_succ, HA.out, HBB.out, HLA.out, setI_in (by rw [List.length_set, HLEN.out]; exact hbn), below_some hl])
        have HY := Lib.hid (show ∃ x, ((layL n T S L g k).set a g)[b]? = some x from ⟨_, List.getElem?_eq_getElem (by rw [List.length_set, HLEN.out]; exact hbn)⟩)
        go_wp2_with fail
        refine (PlanRef.Slot_any T S L G ((k : Int) + 1) 5 _).mono ?_
        rintro e w5 ⟨rfl, hb5⟩
        rw [HBB.out]
        have HB5 := Lib.hid (past_later HB4.out hb5)
        have HO5 := Lib.hid (own_later HO4.out hb5)
        obtain ⟨y, hy⟩ := HY.out
        obtain ⟨e0, f0⟩ := own_int_at HO5.out (by rw [List.length_set, HLEN.out]) hy
        clear hb5 hy c_0 c_1 c_2 c_3
        go_wp2
        go_roundw
        case rel => exact ⟨k + 1, by omega, by go_num, by rw [HLB.out]; exact own_int_set HO5.out b _, HB5.out.setCell (p := ⟨w1.heap.size, b, none⟩) HSZ.out _⟩
        case measure => simp [intOf]; omega
      · have HLB := Lib.hid (show layL n T S L g (k + 1) = (layL n T S L g k).set a g by rw [HLAST.out k (by omega), HA.out, HLA.out])
        go_wp2
        go_roundw
        case rel => exact ⟨k + 1, by omega, by go_num, by rw [HLB.out]; exact HO4.out, HB4.out⟩
        case measure => simp [intOf]; omega
    · obtain rfl : k = S := by omega
      go_wp2
      go_ret
      exact ⟨_, n, rfl, Row.of_own HOK.out, below_past HBK.out⟩
end Go.Proofs.Ytaflbjlhmpoonaa.BlankRef
