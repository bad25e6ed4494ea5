/- The task of package epoch (layer 14), held to plain arithmetic: what it asks for, what it becomes; all else in memory stays as it was. -/
import Derived.Test.YtbnckdleacieiaaDoorEpochMath
import Derived.Test.YtbnckdleacieiaaDoorPlanWalks
import Derived.Test.YtbnckdleacieiaaDoorCellsMath
import Derived.Test.YtbnckdleacieiaaDoorDeeds
import Derived.Test.YtbnckdleacieiaaDoorJumps
import Derived.Deep.RegionHeld3
namespace Go.Proofs.YtbnckdleacieiaaDoor.Epoch
set_option maxRecDepth 20000
open Go.ChangeShapes Go.WideShapes Go.RowKit CM DM PM EM Lay Plan Go.Proofs.YtbnckdleacieiaaDoor.Task
set_option linter.unusedVariables false
set_option linter.unusedSimpArgs false

/-- What a task is asked for. -/
def ToldD (w : World) (d : D) (more : Bool) (e : Ending) (w' : World) : Prop :=
  e = .returned (.tuple #[.agg #[.int .i64 d.1, .int .i64 d.2.1, .int .u64 d.2.2.1, .int .u64 d.2.2.2.1, .int .u64 d.2.2.2.2], .bool more]) ∧ Below w.heap.size w w'
def Told (w : World) (x : Option D) : Ending → World → Prop := ToldD w (x.getD (0, 0, 0, 0, 0)) x.isSome

/-- A task that lets the epoch go on, in block p. -/
def Lies (w : World) (p : Nat) (T S L G : Int) (s : St) : Prop := w.heap[p]? = some (.cells #[.int .i64 T, .int .i64 S, .int .i64 L, .int .u64 G, .int .i64 s.st, .int .u64 s.ep, .int .i64 s.th] 55 (0, 0))
def Advs (w : World) (p : Nat) (T S L G : Int) (s : St) : Prop := Lies w p T S L G s ∧ Ok T s
theorem Advs.only {w w' : World} {p : Nat} {T S L G : Int} {s : St} {R : Nat → Prop} (h : Advs w p T S L G s) (ho : Only R w w') (hp : ¬ R p) : Advs w' p T S L G s := ⟨ho.heap h.1 hp, h.2⟩
theorem Advs.lt {w : World} {p : Nat} {T S L G : Int} {s : St} (h : Advs w p T S L G s) : p < w.heap.size := (Array.getElem?_eq_some_iff.1 h.1).1
/-- Its cells. -/
def Box (w : World) (p : Nat) (T S L G : Int) (s : St) : Prop :=
  w.cell? ⟨p, 0, none⟩ = some (.int .i64 T) ∧ w.cell? ⟨p, 1, none⟩ = some (.int .i64 S) ∧ w.cell? ⟨p, 2, none⟩ = some (.int .i64 L) ∧ w.cell? ⟨p, 3, none⟩ = some (.int .u64 G) ∧
    w.cell? ⟨p, 4, none⟩ = some (.int .i64 s.st) ∧ w.cell? ⟨p, 5, none⟩ = some (.int .u64 s.ep) ∧ w.cell? ⟨p, 6, none⟩ = some (.int .i64 s.th)
theorem Box.later {w w' : World} {p : Nat} {T S L G : Int} {s : St} (h : Box w p T S L G s) (hb : Below w.heap.size w w') : Box w' p T S L G s :=
  ⟨cell_later hb h.1, cell_later hb h.2.1, cell_later hb h.2.2.1, cell_later hb h.2.2.2.1, cell_later hb h.2.2.2.2.1, cell_later hb h.2.2.2.2.2.1, cell_later hb h.2.2.2.2.2.2⟩
theorem Lies.box {w : World} {p : Nat} {T S L G : Int} {s : St} (h : Lies w p T S L G s) : Box w p T S L G s := by
  refine ⟨?_, ?_, ?_, ?_, ?_, ?_, ?_⟩
  · have := (cell_heap h 0).1; simpa using this
  · have := (cell_heap h 1).1; simpa using this
  · have := (cell_heap h 2).1; simpa using this
  · have := (cell_heap h 3).1; simpa using this
  · have := (cell_heap h 4).1; simpa using this
  · have := (cell_heap h 5).1; simpa using this
  · have := (cell_heap h 6).1; simpa using this
theorem Lies.set_st {w : World} {p : Nat} {T S L G st e t : Int} (h : Lies w p T S L G ⟨st, e, t⟩) (v : Int) : Lies (w.setCell ⟨p, 4, none⟩ (.int .i64 v)) p T S L G ⟨v, e, t⟩ := by
  unfold Lies at h ⊢; simpa using set_heap (j := 4) h (.int .i64 v)
theorem Lies.set_ep {w : World} {p : Nat} {T S L G st e t : Int} (h : Lies w p T S L G ⟨st, e, t⟩) (v : Int) : Lies (w.setCell ⟨p, 5, none⟩ (.int .u64 v)) p T S L G ⟨st, v, t⟩ := by
  unfold Lies at h ⊢; simpa using set_heap (j := 5) h (.int .u64 v)
theorem Lies.set_th {w : World} {p : Nat} {T S L G st e t : Int} (h : Lies w p T S L G ⟨st, e, t⟩) (v : Int) : Lies (w.setCell ⟨p, 6, none⟩ (.int .i64 v)) p T S L G ⟨st, e, v⟩ := by
  unfold Lies at h ⊢; simpa using set_heap (j := 6) h (.int .i64 v)
theorem Lies.thawed {w : World} {p : Nat} {T S L G : Int} {s : St} (h : Lies w p T S L G s) (j : Nat) : w.frozen? ⟨p, j, none⟩ = false := (cell_heap h j).2

/-- Where the count ends: the step is stored, the thread perhaps ahead of it. -/
theorem ends_st {p : Nat} {w : World} {T S L G st e t : Int} (h : Lies w p T S L G ⟨st, e, t⟩) (v : Int) : Lies (w.setCell ⟨p, 4, none⟩ (.int .i64 v)).drew p T S L G ⟨v, e, t⟩ ∧ Only (fun k => k = p) w (w.setCell ⟨p, 4, none⟩ (.int .i64 v)).drew :=
  ⟨(h.set_st v : Lies _ p T S L G _), (only_setCell (R := fun k => k = p) w (p := ⟨p, 4, none⟩) rfl (.int .i64 v)).drew⟩
/-- Counting from where it stands, the word not known. -/
theorem count_ask {p : Nat} {w : World} {T S L G st e t : Int} (h : Lies w p T S L G ⟨st, e, t⟩) (ht : t < T) : Calls Tryd.prog 23 #[.pointer (some ⟨p, 0, none⟩), .int .u64 0, .bool false] w fun r w' =>
    r = .returned (.tuple #[]) ∧ Lies w' p T S L G (goI T e t) ∧ Only (fun k => k = p) w w' := by
  obtain ⟨c0, c1, c2, c3, c4, c5, c6⟩ := h.box
  have f4 := h.thawed 4
  simp only at c4 c5 c6
  have HK := Lib.hid fun v => ends_st h v
  rw [go_ask ht]
  clear h
  go_enter Tryd.func23, Tryd.ntmps23
  go_wp2_with fail
  refine Jumps.wp_scope_ahead 0 rfl ?_
  go_wp2
  refine wp_loop_rounds 1 ?_
  rw [rounds_succ]
  go_wp2
  go_region
  go_wp2
  go_step3
  try refine And.intro rfl ?_
  go_wp2
  try rw [Jumps.jump_normal]
  try rw [Exit.noGoto_normal]
  refine bodyPost_end (results_none rfl _ _ _) rfl ?_
  exact ⟨rfl, HK.out _⟩
/-- Counting from where it stands, the word not known. -/
theorem count_turn {p : Nat} {w : World} {T S L G st e t : Int} (h : Lies w p T S L G ⟨st, e, t⟩) (ht : ¬ t < T) : Calls Tryd.prog 23 #[.pointer (some ⟨p, 0, none⟩), .int .u64 0, .bool false] w fun r w' =>
    r = .returned (.tuple #[]) ∧ Lies w' p T S L G (goI T e t) ∧ Only (fun k => k = p) w w' := by
  obtain ⟨c0, c1, c2, c3, c4, c5, c6⟩ := h.box
  have f4 := h.thawed 4
  simp only at c4 c5 c6
  have HK := Lib.hid fun v => ends_st h v
  rw [go_turn ht]
  clear h
  go_enter Tryd.func23, Tryd.ntmps23
  go_wp2_with fail
  refine Jumps.wp_scope_ahead 0 rfl ?_
  go_wp2
  refine wp_loop_rounds 1 ?_
  rw [rounds_succ]
  go_wp2
  go_region
  go_wp2
  go_step3
  try refine And.intro rfl ?_
  go_wp2
  try rw [Jumps.jump_normal]
  try rw [Exit.noGoto_normal]
  refine bodyPost_end (results_none rfl _ _ _) rfl ?_
  exact ⟨rfl, HK.out _⟩
theorem count_first {p : Nat} {w : World} {T S L G st e t : Int} (h : Lies w p T S L G ⟨st, e, t⟩) : Calls Tryd.prog 23 #[.pointer (some ⟨p, 0, none⟩), .int .u64 0, .bool false] w fun r w' =>
    r = .returned (.tuple #[]) ∧ Lies w' p T S L G (goI T e t) ∧ Only (fun k => k = p) w w' := by
  by_cases ht : t < T
  · exact count_ask h ht
  · exact count_turn h ht
/-- The word known: it holds the epoch back. -/
theorem count_held {p : Nat} {w : World} {T S L G st e t f : Int} (h : Lies w p T S L G ⟨st, e, t⟩) (ht : t < T) (h0 : ¬ f = 0) (h1 : ¬ f = e) : Calls Tryd.prog 23 #[.pointer (some ⟨p, 0, none⟩), .int .u64 f, .bool true] w fun r w' =>
    r = .returned (.tuple #[]) ∧ Lies w' p T S L G ⟨0, e, t⟩ ∧ Only (fun k => k = p) w w' := by
  obtain ⟨c0, c1, c2, c3, c4, c5, c6⟩ := h.box
  have f4 := h.thawed 4
  simp only at c4 c5 c6
  have HK := Lib.hid fun v => ends_st h v
  have h2 : (f != 0) = true := by simpa using h0
  have h3 : (f != e) = true := by simpa using h1
  clear h
  go_enter Tryd.func23, Tryd.ntmps23
  go_wp2_with fail
  refine Jumps.wp_scope_ahead 0 rfl ?_
  go_wp2
  refine wp_loop_rounds 1 ?_
  rw [rounds_succ]
  go_wp2
  go_region
  go_wp2
  go_step3
  try refine And.intro rfl ?_
  go_wp2
  try rw [Jumps.jump_normal]
  try rw [Exit.noGoto_normal]
  refine bodyPost_end (results_none rfl _ _ _) rfl ?_
  exact ⟨rfl, HK.out _⟩
theorem count_zero_ask {p : Nat} {w : World} {T S L G st e t f : Int} (h : Lies w p T S L G ⟨st, e, t⟩) (ht : t < T) (_ : True) (h2 : wrap64 (t + 1) < T) : Calls Tryd.prog 23 #[.pointer (some ⟨p, 0, none⟩), .int .u64 0, .bool true] w fun r w' =>
    r = .returned (.tuple #[]) ∧ Lies w' p T S L G (goI T e (wrap64 (t + 1))) ∧ Only (fun k => k = p) w w' := by
  obtain ⟨c0, c1, c2, c3, c4, c5, c6⟩ := h.box
  have f6 := h.thawed 6
  simp only at c4 c5 c6
  have g4 := fun v => (h.set_th v).thawed 4
  have HK := Lib.hid fun v u => And.intro (ends_st (h.set_th v) u).1 ((only_setCell (R := fun k => k = p) w (p := ⟨p, 6, none⟩) rfl (.int .i64 v)).trans (ends_st (h.set_th v) u).2)
  rw [go_ask h2]
  clear h
  go_enter Tryd.func23, Tryd.ntmps23
  go_wp2_with fail
  refine Jumps.wp_scope_ahead 0 rfl ?_
  go_wp2
  refine wp_loop_rounds 2 ?_
  rw [rounds_succ]
  go_wp2
  go_region
  go_wp2
  rw [rounds_succ]
  go_wp2
  go_region
  go_wp2
  go_step3
  try refine And.intro rfl ?_
  go_wp2
  try rw [Jumps.jump_normal]
  try rw [Exit.noGoto_normal]
  refine bodyPost_end (results_none rfl _ _ _) rfl ?_
  exact ⟨rfl, (HK.out _ _).1, (HK.out _ _).2.drew⟩
theorem count_zero_turn {p : Nat} {w : World} {T S L G st e t f : Int} (h : Lies w p T S L G ⟨st, e, t⟩) (ht : t < T) (_ : True) (h2 : ¬ wrap64 (t + 1) < T) : Calls Tryd.prog 23 #[.pointer (some ⟨p, 0, none⟩), .int .u64 0, .bool true] w fun r w' =>
    r = .returned (.tuple #[]) ∧ Lies w' p T S L G (goI T e (wrap64 (t + 1))) ∧ Only (fun k => k = p) w w' := by
  obtain ⟨c0, c1, c2, c3, c4, c5, c6⟩ := h.box
  have f6 := h.thawed 6
  simp only at c4 c5 c6
  have g4 := fun v => (h.set_th v).thawed 4
  have HK := Lib.hid fun v u => And.intro (ends_st (h.set_th v) u).1 ((only_setCell (R := fun k => k = p) w (p := ⟨p, 6, none⟩) rfl (.int .i64 v)).trans (ends_st (h.set_th v) u).2)
  rw [go_turn h2]
  clear h
  go_enter Tryd.func23, Tryd.ntmps23
  go_wp2_with fail
  refine Jumps.wp_scope_ahead 0 rfl ?_
  go_wp2
  refine wp_loop_rounds 2 ?_
  rw [rounds_succ]
  go_wp2
  go_region
  go_wp2
  rw [rounds_succ]
  go_wp2
  go_region
  go_wp2
  go_step3
  try refine And.intro rfl ?_
  go_wp2
  try rw [Jumps.jump_normal]
  try rw [Exit.noGoto_normal]
  refine bodyPost_end (results_none rfl _ _ _) rfl ?_
  exact ⟨rfl, (HK.out _ _).1, (HK.out _ _).2.drew⟩
theorem count_same_ask {p : Nat} {w : World} {T S L G st e t f : Int} (h : Lies w p T S L G ⟨st, f, t⟩) (ht : t < T) (h3 : (f != 0) = true) (h6 : (f != f) = false) (h2 : wrap64 (t + 1) < T) : Calls Tryd.prog 23 #[.pointer (some ⟨p, 0, none⟩), .int .u64 f, .bool true] w fun r w' =>
    r = .returned (.tuple #[]) ∧ Lies w' p T S L G (goI T f (wrap64 (t + 1))) ∧ Only (fun k => k = p) w w' := by
  obtain ⟨c0, c1, c2, c3, c4, c5, c6⟩ := h.box
  have f6 := h.thawed 6
  simp only at c4 c5 c6
  have g4 := fun v => (h.set_th v).thawed 4
  have HK := Lib.hid fun v u => And.intro (ends_st (h.set_th v) u).1 ((only_setCell (R := fun k => k = p) w (p := ⟨p, 6, none⟩) rfl (.int .i64 v)).trans (ends_st (h.set_th v) u).2)
  rw [go_ask h2]
  clear h
  go_enter Tryd.func23, Tryd.ntmps23
  go_wp2_with fail
  refine Jumps.wp_scope_ahead 0 rfl ?_
  go_wp2
  refine wp_loop_rounds 2 ?_
  rw [rounds_succ]
  go_wp2
  go_region
  go_wp2
  rw [rounds_succ]
  go_wp2
  go_region
  go_wp2
  go_step3
  try refine And.intro rfl ?_
  go_wp2
  try rw [Jumps.jump_normal]
  try rw [Exit.noGoto_normal]
  refine bodyPost_end (results_none rfl _ _ _) rfl ?_
  exact ⟨rfl, (HK.out _ _).1, (HK.out _ _).2.drew⟩
theorem count_same_turn {p : Nat} {w : World} {T S L G st e t f : Int} (h : Lies w p T S L G ⟨st, f, t⟩) (ht : t < T) (h3 : (f != 0) = true) (h6 : (f != f) = false) (h2 : ¬ wrap64 (t + 1) < T) : Calls Tryd.prog 23 #[.pointer (some ⟨p, 0, none⟩), .int .u64 f, .bool true] w fun r w' =>
    r = .returned (.tuple #[]) ∧ Lies w' p T S L G (goI T f (wrap64 (t + 1))) ∧ Only (fun k => k = p) w w' := by
  obtain ⟨c0, c1, c2, c3, c4, c5, c6⟩ := h.box
  have f6 := h.thawed 6
  simp only at c4 c5 c6
  have g4 := fun v => (h.set_th v).thawed 4
  have HK := Lib.hid fun v u => And.intro (ends_st (h.set_th v) u).1 ((only_setCell (R := fun k => k = p) w (p := ⟨p, 6, none⟩) rfl (.int .i64 v)).trans (ends_st (h.set_th v) u).2)
  rw [go_turn h2]
  clear h
  go_enter Tryd.func23, Tryd.ntmps23
  go_wp2_with fail
  refine Jumps.wp_scope_ahead 0 rfl ?_
  go_wp2
  refine wp_loop_rounds 2 ?_
  rw [rounds_succ]
  go_wp2
  go_region
  go_wp2
  rw [rounds_succ]
  go_wp2
  go_region
  go_wp2
  go_step3
  try refine And.intro rfl ?_
  go_wp2
  try rw [Jumps.jump_normal]
  try rw [Exit.noGoto_normal]
  refine bodyPost_end (results_none rfl _ _ _) rfl ?_
  exact ⟨rfl, (HK.out _ _).1, (HK.out _ _).2.drew⟩
/-- The word known. -/
theorem count_on {p : Nat} {w : World} {T S L G e t f : Int} (h : Lies w p T S L G ⟨3, e, t⟩) (ht : t < T) : Calls Tryd.prog 23 #[.pointer (some ⟨p, 0, none⟩), .int .u64 f, .bool true] w fun r w' =>
    r = .returned (.tuple #[]) ∧ Lies w' p T S L G (advT T ⟨3, e, t⟩ f) ∧ Only (fun k => k = p) w w' := by
  by_cases h0 : f = 0
  · subst h0
    rw [advT_3 (.inl rfl)]
    by_cases h2 : wrap64 (t + 1) < T
    · exact count_zero_ask (f := 0) h ht trivial h2
    · exact count_zero_turn (f := 0) h ht trivial h2
  · by_cases h1 : f = e
    · subst h1
      rw [advT_3 (.inr rfl)]
      by_cases h2 : wrap64 (t + 1) < T
      · exact count_same_ask (e := 0) h ht (by simpa using h0) (by simp) h2
      · exact count_same_turn (e := 0) h ht (by simpa using h0) (by simp) h2
    · rw [advT_3n (fun q => q.elim h0 h1)]
      exact count_held h ht h0 h1

theorem tell_0 {p : Nat} {w : World} {T S L G e t f : Int} (h : Lies w p T S L G ⟨0, e, t⟩) : Calls Tryd.prog 11 #[.pointer (some ⟨p, 0, none⟩), .int .u64 f] w fun r w' =>
    r = .returned (.tuple #[]) ∧ Lies w' p T S L G ⟨0, e, t⟩ ∧ Only (fun k => k = p) w w' := by
  obtain ⟨_, _, _, _, c4, _, _⟩ := h.box
  have H := Lib.hid h
  simp only at c4
  clear h
  go_enter Tryd.func11, Tryd.ntmps11
  go_wp2
  refine bodyPost_end (results_none rfl _ _ _) rfl ?_
  exact ⟨rfl, H.out, Only.refl _ _⟩
theorem tell_1 {p : Nat} {w : World} {T S L G e t f : Int} (h : Lies w p T S L G ⟨1, e, t⟩) : Calls Tryd.prog 11 #[.pointer (some ⟨p, 0, none⟩), .int .u64 f] w fun r w' =>
    r = .returned (.tuple #[]) ∧ Lies w' p T S L G ⟨1, e, t⟩ ∧ Only (fun k => k = p) w w' := by
  obtain ⟨_, _, _, _, c4, _, _⟩ := h.box
  have H := Lib.hid h
  simp only at c4
  clear h
  go_enter Tryd.func11, Tryd.ntmps11
  go_wp2
  refine bodyPost_end (results_none rfl _ _ _) rfl ?_
  exact ⟨rfl, H.out, Only.refl _ _⟩
theorem tell_2 {p : Nat} {w : World} {T S L G e t f : Int} (h : Lies w p T S L G ⟨2, e, t⟩) : Calls Tryd.prog 11 #[.pointer (some ⟨p, 0, none⟩), .int .u64 f] w fun r w' =>
    r = .returned (.tuple #[]) ∧ Lies w' p T S L G (goI T f t) ∧ Only (fun k => k = p) w w' := by
  obtain ⟨_, _, _, _, c4, c5, _⟩ := h.box
  have f5 := h.thawed 5
  have H := Lib.hid (count_first (h.set_ep f))
  have HO := Lib.hid (only_setCell (R := fun k => k = p) w (p := ⟨p, 5, none⟩) rfl (.int .u64 f))
  simp only at c4 c5
  clear h
  go_enter Tryd.func11, Tryd.ntmps11
  go_wp2_with fail
  refine H.out.mono ?_
  rintro r w1 ⟨rfl, h1, h2⟩
  go_wp2
  refine bodyPost_end (results_none rfl _ _ _) rfl ?_
  exact ⟨rfl, h1, HO.out.trans h2⟩
theorem tell_3 {p : Nat} {w : World} {T S L G e t f : Int} (h : Lies w p T S L G ⟨3, e, t⟩) (ht : t < T) : Calls Tryd.prog 11 #[.pointer (some ⟨p, 0, none⟩), .int .u64 f] w fun r w' =>
    r = .returned (.tuple #[]) ∧ Lies w' p T S L G (advT T ⟨3, e, t⟩ f) ∧ Only (fun k => k = p) w w' := by
  obtain ⟨_, _, _, _, c4, _, _⟩ := h.box
  have H := Lib.hid (count_on (f := f) h ht)
  simp only at c4
  clear h ht
  generalize advT T ⟨3, e, t⟩ f = s at H ⊢
  go_enter Tryd.func11, Tryd.ntmps11
  go_wp2_with fail
  refine H.out.mono ?_
  rintro r w1 ⟨rfl, h1, h2⟩
  go_wp2
  refine bodyPost_end (results_none rfl _ _ _) rfl ?_
  exact ⟨rfl, h1, h2⟩
theorem tell_4n {p : Nat} {w : World} {T S L G e t f : Int} (h : Lies w p T S L G ⟨4, e, t⟩) (he : ¬ f = e) : Calls Tryd.prog 11 #[.pointer (some ⟨p, 0, none⟩), .int .u64 f] w fun r w' =>
    r = .returned (.tuple #[]) ∧ Lies w' p T S L G ⟨0, e, t⟩ ∧ Only (fun k => k = p) w w' := by
  obtain ⟨_, _, _, _, c4, c5, _⟩ := h.box
  have f4 := h.thawed 4
  have H := Lib.hid (And.intro (h.set_st 0) (only_setCell (R := fun k => k = p) w (p := ⟨p, 4, none⟩) rfl (.int .i64 0)))
  have he2 : (f == e) = false := by simpa using he
  simp only at c4 c5
  clear h
  go_enter Tryd.func11, Tryd.ntmps11
  go_wp2
  refine bodyPost_end (results_none rfl _ _ _) rfl ?_
  exact ⟨rfl, H.out⟩
theorem tell_4 {p : Nat} {w : World} {T S L G e t : Int} (h : Lies w p T S L G ⟨4, e, t⟩) : Calls Tryd.prog 11 #[.pointer (some ⟨p, 0, none⟩), .int .u64 e] w fun r w' =>
    r = .returned (.tuple #[]) ∧ Lies w' p T S L G ⟨1, e, t⟩ ∧ Only (fun k => k = p) w w' := by
  obtain ⟨_, _, _, _, c4, c5, _⟩ := h.box
  have f4 := h.thawed 4
  have g4 := (h.set_st 0).thawed 4
  have H := Lib.hid (And.intro ((h.set_st 0).set_st 1) ((only_setCell (R := fun k => k = p) w (p := ⟨p, 4, none⟩) rfl (.int .i64 0)).setCell (p := ⟨p, 4, none⟩) (.inl rfl) (.int .i64 1)))
  simp only at c4 c5
  clear h
  go_enter Tryd.func11, Tryd.ntmps11
  go_wp2
  refine bodyPost_end (results_none rfl _ _ _) rfl ?_
  exact ⟨rfl, H.out⟩
theorem Adv_tell {p : Nat} {w : World} {T S L G : Int} {s : St} (h : Advs w p T S L G s) {f : Int} (hf : 0 ≤ f ∧ f < 18446744073709551616) : Calls Tryd.prog 11 #[.pointer (some ⟨p, 0, none⟩), .int .u64 f] w fun e w' =>
    e = .returned (.tuple #[]) ∧ Advs w' p T S L G (advT T s f) ∧ Only (fun k => k = p) w w' := by
  have HK := advT_ok h.2 hf
  have key : Calls Tryd.prog 11 #[.pointer (some ⟨p, 0, none⟩), .int .u64 f] w fun e w' => e = .returned (.tuple #[]) ∧ Lies w' p T S L G (advT T s f) ∧ Only (fun k => k = p) w w' := by
    obtain ⟨h, hs, he, h2, h3⟩ := h
    obtain ⟨st, e, t⟩ := s
    simp only at hs h2 h3
    rcases hs with rfl | rfl | rfl | rfl | rfl
    · rw [advT_0]; exact tell_0 h
    · rw [advT_1]; exact tell_1 h
    · rw [advT_2]; obtain rfl := h2 rfl; exact tell_2 h
    · exact tell_3 h (h3 rfl)
    · by_cases hfe : f = e
      · subst hfe; rw [advT_4]; exact tell_4 h
      · rw [advT_4n hfe]; exact tell_4n h hfe
  exact key.mono fun e w' ⟨a, b, c⟩ => ⟨a, ⟨b, HK⟩, c⟩

theorem Won_any {p : Nat} {w : World} {T S L G : Int} {s : St} (h : Advs w p T S L G s) : Calls Tryd.prog 13 #[.pointer (some ⟨p, 0, none⟩)] w fun e w' => e = .returned (.bool (wonB s)) ∧ w = w' := by
  obtain ⟨_, _, _, _, c4, _, _⟩ := h.1.box
  obtain ⟨st, e, t⟩ := s
  simp only at c4
  clear h
  by_cases h1 : st = 1
  · subst h1
    rw [won_1]
    go_enter Tryd.func13, Tryd.ntmps13
    go_wp2
    go_ret
    exact ⟨rfl, rfl⟩
  · rw [won_n (s := ⟨st, e, t⟩) h1]
    have h2 : (st == 1) = false := by simpa using h1
    go_enter Tryd.func13, Tryd.ntmps13
    go_wp2
    go_ret
    exact ⟨rfl, rfl⟩
theorem Advance_any (T S L G : Int) (w : World) : Calls Tryd.prog 9 #[.agg #[.int .i64 T, .int .i64 S, .int .i64 L, .int .u64 G]] w fun e w' => ∃ p, e = .returned (.pointer (some ⟨p, 0, none⟩)) ∧ Advs w' p T S L G ⟨2, 0, 0⟩ ∧ w.heap.size ≤ p ∧ Below w.heap.size w w' := by
  have HE := Lib.hid (show ∀ o cs, ((w.alloc o).alloc cs).heap[w.heap.size + 1]? = some cs from fun o cs => by have := new_heap (w.alloc o) cs; rwa [World.size_alloc] at this)
  have HOK := Lib.hid (ok_new T)
  obtain ⟨c_0, c_1, c_2, c_3⟩ := box4 w (.int .i64 T) (.int .i64 S) (.int .i64 L) (.int .u64 G) 24
  go_enter Tryd.func9, Tryd.ntmps9
  go_wp2
  go_ret
  exact ⟨_, rfl, ⟨HE.out _ _, HOK.out⟩, by simp, ((Below.refl _ _).alloc (Nat.le_refl _) _).alloc (by simp) _⟩
end Go.Proofs.YtbnckdleacieiaaDoor.Epoch
