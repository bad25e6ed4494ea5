/- What the task of package epoch asks for. -/
import Derived.Test.YtbnckdleacieiaaDoorEpochWalks
namespace Go.Proofs.YtbnckdleacieiaaDoor.Epoch
set_option maxRecDepth 20000
open Go.ChangeShapes Go.WideShapes Go.RowKit CM DM PM EM Lay Plan Go.Proofs.YtbnckdleacieiaaDoor.Task
set_option linter.unusedVariables false
set_option linter.unusedSimpArgs false

/-- All that the region reads, in any later world. -/
theorem stay {w W : World} {p : Nat} {T S L G e t : Int} (h : Box w p T S L G ⟨3, e, t⟩) (hb : Below w.heap.size w W) : W.cell? ⟨p, 0, none⟩ = some (.int .i64 T) ∧ W.cell? ⟨p, 1, none⟩ = some (.int .i64 S) ∧ W.cell? ⟨p, 2, none⟩ = some (.int .i64 L) ∧ W.cell? ⟨p, 3, none⟩ = some (.int .u64 G) ∧ W.cell? ⟨p, 4, none⟩ = some (.int .i64 3) ∧ W.cell? ⟨p, 5, none⟩ = some (.int .u64 e) ∧ W.cell? ⟨p, 6, none⟩ = some (.int .i64 t) := h.later hb
theorem stay_past {w W : World} {p : Nat} {T S L G e t : Int} (h : Box w p T S L G ⟨3, e, t⟩) (hb : Below (w.alloc (.cells #[.int .i64 0, .int .i64 0, .int .u64 0, .int .u64 0, .int .u64 0] 38)).heap.size (w.alloc (.cells #[.int .i64 0, .int .i64 0, .int .u64 0, .int .u64 0, .int .u64 0] 38)) W) : W.cell? ⟨p, 0, none⟩ = some (.int .i64 T) ∧ W.cell? ⟨p, 1, none⟩ = some (.int .i64 S) ∧ W.cell? ⟨p, 2, none⟩ = some (.int .i64 L) ∧ W.cell? ⟨p, 3, none⟩ = some (.int .u64 G) ∧ W.cell? ⟨p, 4, none⟩ = some (.int .i64 3) ∧ W.cell? ⟨p, 5, none⟩ = some (.int .u64 e) ∧ W.cell? ⟨p, 6, none⟩ = some (.int .i64 t) := stay h ((box_below _ _).trans (hb.mono (by simp)))
theorem stay_start {w : World} {p : Nat} {T S L G e t : Int} (h : Box w p T S L G ⟨3, e, t⟩) : (fun W : World => W.cell? ⟨p, 0, none⟩ = some (.int .i64 T) ∧ W.cell? ⟨p, 1, none⟩ = some (.int .i64 S) ∧ W.cell? ⟨p, 2, none⟩ = some (.int .i64 L) ∧ W.cell? ⟨p, 3, none⟩ = some (.int .u64 G) ∧ W.cell? ⟨p, 4, none⟩ = some (.int .i64 3) ∧ W.cell? ⟨p, 5, none⟩ = some (.int .u64 e) ∧ W.cell? ⟨p, 6, none⟩ = some (.int .i64 t)) (w.alloc (.cells #[.int .i64 0, .int .i64 0, .int .u64 0, .int .u64 0, .int .u64 0] 38)).drew := stay_past h (Below.refl _ _).drew
theorem stay_set {w W : World} {p : Nat} {T S L G e t : Int} (h : Box w p T S L G ⟨3, e, t⟩) (hb : Below (w.alloc (.cells #[.int .i64 0, .int .i64 0, .int .u64 0, .int .u64 0, .int .u64 0] 38)).heap.size (w.alloc (.cells #[.int .i64 0, .int .i64 0, .int .u64 0, .int .u64 0, .int .u64 0] 38)) W) (u0 u1 u2 u3 u4 : Value) :
    (fun W : World => W.cell? ⟨p, 0, none⟩ = some (.int .i64 T) ∧ W.cell? ⟨p, 1, none⟩ = some (.int .i64 S) ∧ W.cell? ⟨p, 2, none⟩ = some (.int .i64 L) ∧ W.cell? ⟨p, 3, none⟩ = some (.int .u64 G) ∧ W.cell? ⟨p, 4, none⟩ = some (.int .i64 3) ∧ W.cell? ⟨p, 5, none⟩ = some (.int .u64 e) ∧ W.cell? ⟨p, 6, none⟩ = some (.int .i64 t)) (((((W.setCell ⟨w.heap.size, 0, none⟩ u0).setCell ⟨w.heap.size, 1, none⟩ u1).setCell ⟨w.heap.size, 2, none⟩ u2).setCell ⟨w.heap.size, 3, none⟩ u3).setCell ⟨w.heap.size, 4, none⟩ u4) :=
  stay h (set5 hb u0 u1 u2 u3 u4).2

theorem next_0 {p : Nat} {w : World} {T S L G e t : Int} (h : Lies w p T S L G ⟨0, e, t⟩) : Calls Tryd.prog 10 #[.pointer (some ⟨p, 0, none⟩)] w (Told w none) := by
  obtain ⟨_, _, _, _, c4, _, _⟩ := h.box
  simp only at c4
  have hp : p < w.heap.size := World.block_lt_of_cell? _ _ c4
  have H4 := fun o => cell_later (box_below w o) c4
  have HB := Lib.hid (box_below w)
  clear h c4
  go_enter Tryd.func10, Tryd.ntmps10
  go_wp2
  exact bodyPost_ret (v := .tuple #[.agg #[.int .i64 0, .int .i64 0, .int .u64 0, .int .u64 0, .int .u64 0], .bool false]) (by simp [results, Tryd.results10, go_sem]) rfl ⟨rfl, HB.out _⟩
theorem next_1 {p : Nat} {w : World} {T S L G e t : Int} (h : Lies w p T S L G ⟨1, e, t⟩) : Calls Tryd.prog 10 #[.pointer (some ⟨p, 0, none⟩)] w (Told w none) := by
  obtain ⟨_, _, _, _, c4, _, _⟩ := h.box
  simp only at c4
  have hp : p < w.heap.size := World.block_lt_of_cell? _ _ c4
  have H4 := fun o => cell_later (box_below w o) c4
  have HB := Lib.hid (box_below w)
  clear h c4
  go_enter Tryd.func10, Tryd.ntmps10
  go_wp2
  exact bodyPost_ret (v := .tuple #[.agg #[.int .i64 0, .int .i64 0, .int .u64 0, .int .u64 0, .int .u64 0], .bool false]) (by simp [results, Tryd.results10, go_sem]) rfl ⟨rfl, HB.out _⟩
theorem next_2 {p : Nat} {w : World} {T S L G e t : Int} (h : Lies w p T S L G ⟨2, e, t⟩) : Calls Tryd.prog 10 #[.pointer (some ⟨p, 0, none⟩)] w (Told w (some (1, 0, 0, 0, 0))) := by
  obtain ⟨_, _, _, _, c4, _, _⟩ := h.box
  simp only at c4
  have hp : p < w.heap.size := World.block_lt_of_cell? _ _ c4
  have H4 := fun o => cell_later (box_below w o) c4
  have HB := Lib.hid (box_below w)
  clear h c4
  go_enter Tryd.func10, Tryd.ntmps10
  go_wp2
  exact bodyPost_ret (v := .tuple #[.agg #[.int .i64 1, .int .i64 0, .int .u64 0, .int .u64 0, .int .u64 0], .bool true]) (by simp [results, Tryd.results10, go_sem]) rfl ⟨rfl, HB.out _⟩
theorem next_4 {p : Nat} {w : World} {T S L G e t : Int} (h : Lies w p T S L G ⟨4, e, t⟩) : Calls Tryd.prog 10 #[.pointer (some ⟨p, 0, none⟩)] w (Told w (some (3, 0, e, (e + 1) % 18446744073709551616, 0))) := by
  obtain ⟨_, _, _, _, c4, c5, _⟩ := h.box
  simp only at c4 c5
  have hp : p < w.heap.size := World.block_lt_of_cell? _ _ c4
  have H4 := fun o => cell_later (box_below w o) c4
  have H5 := fun o => cell_later (box_below w o) c5
  have HB := Lib.hid (box_below w)
  clear h c4 c5
  go_enter Tryd.func10, Tryd.ntmps10
  go_wp2
  go_region
  go_wp2
  exact bodyPost_ret (v := .tuple #[.agg #[.int .i64 3, .int .i64 0, .int .u64 e, .int .u64 ((e + 1) % 18446744073709551616), .int .u64 0], .bool true]) (by simp [results, Tryd.results10, go_sem, IntKind.wrap_u64]) rfl ⟨rfl, (HB.out _).drew⟩
theorem next_3 {p : Nat} {w : World} {T S L G e t : Int} (h : Lies w p T S L G ⟨3, e, t⟩) : Calls Tryd.prog 10 #[.pointer (some ⟨p, 0, none⟩)] w (Told w (some (1, ofI T 0 t, 0, 0, 0))) := by
  have HX := Lib.hid h.box
  have H4 := fun o => cell_later (box_below w o) h.box.2.2.2.2.1
  simp only at H4
  have hp : p < w.heap.size := World.block_lt_of_cell? _ _ h.box.1
  have HPN := Lib.hid fun W : World => Plan.Pin_any T S L G t W
  generalize ofI T 0 t = d at HPN ⊢
  clear h
  go_enter Tryd.func10, Tryd.ntmps10
  go_wp2
  go_region_held3 (fun W => W.cell? ⟨p, 0, none⟩ = some (.int .i64 T) ∧ W.cell? ⟨p, 1, none⟩ = some (.int .i64 S) ∧ W.cell? ⟨p, 2, none⟩ = some (.int .i64 L) ∧ W.cell? ⟨p, 3, none⟩ = some (.int .u64 G) ∧ W.cell? ⟨p, 4, none⟩ = some (.int .i64 3) ∧ W.cell? ⟨p, 5, none⟩ = some (.int .u64 e) ∧ W.cell? ⟨p, 6, none⟩ = some (.int .i64 t))
    ((first | (with_reducible exact stay_start HX.out) | (with_reducible assumption) | (with_reducible exact stay_past HX.out HB2.out) | (with_reducible exact stay_set HX.out HB2.out _ _ _ _ _)))
    ((go_at_call 7; refine (HPN.out _).mono ?_; rintro r w2 ⟨rfl, hb⟩; have HB2 := Lib.hid (show Below (w.alloc (.cells #[.int .i64 0, .int .i64 0, .int .u64 0, .int .u64 0, .int .u64 0] 38)).heap.size (w.alloc (.cells #[.int .i64 0, .int .i64 0, .int .u64 0, .int .u64 0, .int .u64 0] 38)) w2 from (Below.refl _ _).drew.trans hb); obtain ⟨⟨r0, r1, r2, r3, r4⟩, g0, g1, g2, g3, g4⟩ := res5 HB2.out; clear hb))
  obtain ⟨⟨s0, s1, s2, s3, s4⟩, hB⟩ := set5 HB2.out (.int .i64 1) (.int .i64 d) (.int .u64 0) (.int .u64 0) (.int .u64 0)
  have HB := Lib.hid hB
  clear hB r0 r1 r2 r3 r4 g0 g1 g2 g3 g4
  go_wp2
  exact bodyPost_ret (v := .tuple #[.agg #[.int .i64 1, .int .i64 d, .int .u64 0, .int .u64 0, .int .u64 0], .bool true]) (by simp [results, Tryd.results10, go_sem, s0, s1, s2, s3, s4]) rfl ⟨rfl, HB.out⟩
theorem Adv_next {p : Nat} {w : World} {T S L G : Int} {s : St} (h : Advs w p T S L G s) : Calls Tryd.prog 10 #[.pointer (some ⟨p, 0, none⟩)] w (Told w (advA T s)) := by
  obtain ⟨h, hs, _⟩ := h
  obtain ⟨st, e, t⟩ := s
  simp only at hs
  rcases hs with rfl | rfl | rfl | rfl | rfl
  · rw [advA_0]; exact next_0 h
  · rw [advA_1]; exact next_1 h
  · rw [advA_2]; exact next_2 h
  · rw [advA_3]; exact next_3 h
  · rw [advA_4]; exact next_4 h
end Go.Proofs.YtbnckdleacieiaaDoor.Epoch
