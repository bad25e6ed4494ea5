/- The tasks of package pin (layer 13), each held to plain arithmetic: what they ask for, what they become; all else in memory stays as it was. -/
import Derived.Test.YtcgaoileocpncaaDoorPinMath
import Derived.Test.YtcgaoileocpncaaDoorPlanWalks
import Derived.Test.YtcgaoileocpncaaDoorCellsMath
import Derived.Test.YtcgaoileocpncaaDoorDeeds
import Derived.Deep.RegionHeld3
namespace Go.Proofs.YtcgaoileocpncaaDoor.Pin
set_option maxRecDepth 20000
open Go.ChangeShapes Go.WideShapes Go.RowKit CM DM PM PiM Lay Plan Go.Proofs.YtcgaoileocpncaaDoor.Task
set_option linter.unusedVariables false
set_option linter.unusedSimpArgs false

/-- What a task is asked for. -/
def ToldD (w : World) (d : D) (more : Bool) (e : Ending) (w' : World) : Prop :=
  e = .returned (.tuple #[.agg #[.int .i64 d.1, .int .i64 d.2.1, .int .u64 d.2.2.1, .int .u64 d.2.2.2.1, .int .u64 d.2.2.2.2], .bool more]) ∧ Below w.heap.size w w'
def Told (w : World) (x : Option D) : Ending → World → Prop := ToldD w (x.getD (0, 0, 0, 0, 0)) x.isSome

/-- A task in block p, as it lies. -/
def Lies (w : World) (p : Nat) (t : TypeId) (s : St) : Prop := w.heap[p]? = some (.cells #[.int .i64 s.st, .int .i64 s.pl, .int .u64 s.word] t (0, 0)) ∧ Ok s
/-- A task that pins a thread, in block p; one that lets it leave. (Of no plan any more.) -/
def Pins (w : World) (p : Nat) (T S L G i : Int) (s : St) : Prop := Lies w p 54 s
def Unpins (w : World) (p : Nat) (T S L G i : Int) (s : St) : Prop := Lies w p 64 s
theorem Lies.only {w w' : World} {p : Nat} {t : TypeId} {s : St} {R : Nat → Prop} (h : Lies w p t s) (ho : Only R w w') (hp : ¬ R p) : Lies w' p t s := ⟨ho.heap h.1 hp, h.2⟩
theorem Lies.lt {w : World} {p : Nat} {t : TypeId} {s : St} (h : Lies w p t s) : p < w.heap.size := (Array.getElem?_eq_some_iff.1 h.1).1
theorem Pins.only {w w' : World} {p : Nat} {T S L G i : Int} {s : St} {R : Nat → Prop} (h : Pins w p T S L G i s) (ho : Only R w w') (hp : ¬ R p) : Pins w' p T S L G i s := Lies.only h ho hp
theorem Unpins.only {w w' : World} {p : Nat} {T S L G i : Int} {s : St} {R : Nat → Prop} (h : Unpins w p T S L G i s) (ho : Only R w w') (hp : ¬ R p) : Unpins w' p T S L G i s := Lies.only h ho hp
theorem Pins.lt {w : World} {p : Nat} {T S L G i : Int} {s : St} (h : Pins w p T S L G i s) : p < w.heap.size := Lies.lt h
theorem Unpins.lt {w : World} {p : Nat} {T S L G i : Int} {s : St} (h : Unpins w p T S L G i s) : p < w.heap.size := Lies.lt h
theorem Lies.cells {w : World} {p : Nat} {t : TypeId} {s : St} (h : Lies w p t s) : w.cell? ⟨p, 0, none⟩ = some (.int .i64 s.st) ∧ w.cell? ⟨p, 1, none⟩ = some (.int .i64 s.pl) ∧ w.cell? ⟨p, 2, none⟩ = some (.int .u64 s.word) ∧ w.frozen? ⟨p, 0, none⟩ = false ∧ w.frozen? ⟨p, 2, none⟩ = false := by
  have c0 := (cell_heap h.1 0).1
  have c1 := (cell_heap h.1 1).1
  have c2 := (cell_heap h.1 2).1
  exact ⟨by simpa using c0, by simpa using c1, by simpa using c2, (cell_heap h.1 0).2, (cell_heap h.1 2).2⟩

theorem deed_done {p : Nat} {w : World} (h0 : w.cell? ⟨p, 0, none⟩ = some (.int .i64 0)) : Calls Tryd.prog 23 #[.pointer (some ⟨p, 0, none⟩)] w (Told w none) := by
  have hp : p < w.heap.size := World.block_lt_of_cell? _ _ h0
  have H1 := fun o => cell_later (box_below w o) h0
  have HB := Lib.hid (box_below w)
  go_enter Tryd.func23, Tryd.ntmps23
  go_wp2
  exact bodyPost_ret (v := .tuple #[.agg #[.int .i64 0, .int .i64 0, .int .u64 0, .int .u64 0, .int .u64 0], .bool false]) (by simp [results, Tryd.results23, go_sem]) rfl ⟨rfl, HB.out _⟩
theorem deed_look {p : Nat} {w : World} (h0 : w.cell? ⟨p, 0, none⟩ = some (.int .i64 1)) : Calls Tryd.prog 23 #[.pointer (some ⟨p, 0, none⟩)] w (Told w (some (1, 0, 0, 0, 0))) := by
  have hp : p < w.heap.size := World.block_lt_of_cell? _ _ h0
  have H1 := fun o => cell_later (box_below w o) h0
  have HB := Lib.hid (box_below w)
  go_enter Tryd.func23, Tryd.ntmps23
  go_wp2
  exact bodyPost_ret (v := .tuple #[.agg #[.int .i64 1, .int .i64 0, .int .u64 0, .int .u64 0, .int .u64 0], .bool true]) (by simp [results, Tryd.results23, go_sem]) rfl ⟨rfl, HB.out _⟩
theorem deed_write {p : Nat} {w : World} {a v : Int} (h0 : w.cell? ⟨p, 0, none⟩ = some (.int .i64 2)) (h1 : w.cell? ⟨p, 1, none⟩ = some (.int .i64 a)) (h2 : w.cell? ⟨p, 2, none⟩ = some (.int .u64 v)) :
    Calls Tryd.prog 23 #[.pointer (some ⟨p, 0, none⟩)] w (Told w (some (2, a, v, 0, 0))) := by
  have hp : p < w.heap.size := World.block_lt_of_cell? _ _ h0
  have H1 := fun o => cell_later (box_below w o) h0
  have H2 := fun o => cell_later (box_below w o) h1
  have H3 := fun o => cell_later (box_below w o) h2
  have HB := Lib.hid (box_below w)
  go_enter Tryd.func23, Tryd.ntmps23
  go_wp2
  go_region
  go_wp2
  exact bodyPost_ret (v := .tuple #[.agg #[.int .i64 2, .int .i64 a, .int .u64 v, .int .u64 0, .int .u64 0], .bool true]) (by simp [results, Tryd.results23, go_sem]) rfl ⟨rfl, (HB.out _).drew⟩
theorem deed_any {p : Nat} {w : World} {t : TypeId} {s : St} (h : Lies w p t s) : Calls Tryd.prog 23 #[.pointer (some ⟨p, 0, none⟩)] w (Told w (pinA s)) := by
  obtain ⟨h0, h1, h2, _, _⟩ := h.cells
  obtain ⟨hs, _⟩ := h.2
  obtain ⟨st, a, v⟩ := s
  simp only at h0 h1 h2 hs
  rcases hs with rfl | rfl | rfl
  · rw [pinA_0]; exact deed_done h0
  · rw [pinA_1]; exact deed_look h0
  · rw [pinA_2]; exact deed_write h0 h1 h2
theorem goOn_any {p : Nat} {w : World} {t : TypeId} {s : St} (h : Lies w p t s) {f : Int} (hf : 0 ≤ f ∧ f < 18446744073709551616) : Calls Tryd.prog 24 #[.pointer (some ⟨p, 0, none⟩), .int .u64 f] w fun e w' => e = .returned (.tuple #[]) ∧ Lies w' p t (pinT s f) ∧ Only (fun k => k = p) w w' := by
  have HK := Lib.hid (pinT_ok h.2 hf)
  obtain ⟨h0, h1, h2, f0, f2⟩ := h.cells
  obtain ⟨hs, _⟩ := h.2
  have hb := h.1
  obtain ⟨st, a, v⟩ := s
  simp only at h0 h1 h2 hs hb
  have hO : ∀ j v, Only (fun k => k = p) w (w.setCell ⟨p, j, none⟩ v) := fun j v => only_setCell (R := fun k => k = p) w (p := ⟨p, j, none⟩) rfl v
  rcases hs with rfl | rfl | rfl
  · rw [pinT_0] at HK ⊢
    have HE := Lib.hid (show (w.setCell ⟨p, 0, none⟩ (.int .i64 0)).heap[p]? = some (.cells #[.int .i64 0, .int .i64 a, .int .u64 v] t (0, 0)) from by simpa using set_heap (j := 0) hb (.int .i64 0))
    have HO := Lib.hid (hO 0 (.int .i64 0))
    clear h hb hO hf
    go_enter Tryd.func24, Tryd.ntmps24
    go_wp2
    refine bodyPost_end (results_none rfl _ _ _) rfl ?_
    exact ⟨rfl, ⟨HE.out, HK.out⟩, HO.out⟩
  · rw [pinT_1] at HK ⊢
    have hE := set_heap (j := 2) (set_heap (j := 0) hb (.int .i64 2)) (.int .u64 f)
    have HE := Lib.hid (show ((w.setCell ⟨p, 0, none⟩ (.int .i64 2)).setCell ⟨p, 2, none⟩ (.int .u64 f)).heap[p]? = some (.cells #[.int .i64 2, .int .i64 a, .int .u64 f] t (0, 0)) from by simpa using hE)
    have HO := Lib.hid ((hO 0 (.int .i64 2)).setCell (p := ⟨p, 2, none⟩) (.inl rfl) (.int .u64 f))
    clear h hb hO hE hf
    go_enter Tryd.func24, Tryd.ntmps24
    go_wp2
    exact bodyPost_ret (v := .tuple #[]) (results_none rfl _ _ _) rfl ⟨rfl, ⟨HE.out, HK.out⟩, HO.out⟩
  · rw [pinT_2] at HK ⊢
    have HE := Lib.hid (show (w.setCell ⟨p, 0, none⟩ (.int .i64 0)).heap[p]? = some (.cells #[.int .i64 0, .int .i64 a, .int .u64 v] t (0, 0)) from by simpa using set_heap (j := 0) hb (.int .i64 0))
    have HO := Lib.hid (hO 0 (.int .i64 0))
    clear h hb hO hf
    go_enter Tryd.func24, Tryd.ntmps24
    go_wp2
    refine bodyPost_end (results_none rfl _ _ _) rfl ?_
    exact ⟨rfl, ⟨HE.out, HK.out⟩, HO.out⟩
theorem Pin_next {p : Nat} {w : World} {T S L G i : Int} {s : St} (h : Pins w p T S L G i s) : Calls Tryd.prog 8 #[.pointer (some ⟨p, 0, none⟩)] w (Told w (pinA s)) := by
  have HD := Lib.hid fun o => deed_any (h.only (only_below (fun _ => False) (box_below w o)) id)
  unfold Told at HD ⊢
  generalize (pinA s).isSome = bo at HD ⊢
  generalize (pinA s).getD (0, 0, 0, 0, 0) = d at HD ⊢
  clear h
  go_enter Tryd.func8, Tryd.ntmps8
  go_wp2_with fail
  refine (HD.out _).mono ?_
  rintro e w1 ⟨rfl, hb⟩
  obtain ⟨⟨r0, r1, r2, r3, r4⟩, g0, g1, g2, g3, g4⟩ := res5 hb
  obtain ⟨⟨s0, s1, s2, s3, s4⟩, hB⟩ := set5 hb (.int .i64 d.1) (.int .i64 d.2.1) (.int .u64 d.2.2.1) (.int .u64 d.2.2.2.1) (.int .u64 d.2.2.2.2)
  have HB := Lib.hid hB
  clear hB hb
  go_wp2
  exact bodyPost_ret (v := .tuple #[.agg #[.int .i64 d.1, .int .i64 d.2.1, .int .u64 d.2.2.1, .int .u64 d.2.2.2.1, .int .u64 d.2.2.2.2], .bool bo]) (by simp [results, Tryd.results8, go_sem, s0, s1, s2, s3, s4]) rfl ⟨rfl, HB.out⟩
theorem Pin_tell {p : Nat} {w : World} {T S L G i : Int} {s : St} (h : Pins w p T S L G i s) {f : Int} (hf : 0 ≤ f ∧ f < 18446744073709551616) : Calls Tryd.prog 9 #[.pointer (some ⟨p, 0, none⟩), .int .u64 f] w fun e w' =>
    e = .returned (.tuple #[]) ∧ Pins w' p T S L G i (pinT s f) ∧ Only (fun k => k = p) w w' := by
  have HG := Lib.hid (goOn_any h hf)
  clear h hf
  go_enter Tryd.func9, Tryd.ntmps9
  go_wp2_with fail
  refine (HG.out).mono ?_
  rintro e w' ⟨rfl, h1, h2⟩
  go_wp2
  refine bodyPost_end (results_none rfl _ _ _) rfl ?_
  exact ⟨rfl, h1, h2⟩
theorem Pin_any (T S L G i : Int) (w : World) : Calls Tryd.prog 7 #[.agg #[.int .i64 T, .int .i64 S, .int .i64 L, .int .u64 G], .int .i64 i] w fun e w' => ∃ p, e = .returned (.pointer (some ⟨p, 0, none⟩)) ∧ Pins w' p T S L G i ⟨1, ofI T 0 i, 0⟩ ∧ w.heap.size ≤ p ∧ Below w.heap.size w w' := by
  obtain ⟨c_0, c_1, c_2, c_3⟩ := box4 w (.int .i64 T) (.int .i64 S) (.int .i64 L) (.int .u64 G) 24
  have HB0 := Lib.hid (box_below w (.cells #[.int .i64 T, .int .i64 S, .int .i64 L, .int .u64 G] 24))
  have HE := Lib.hid (fun W : World => new_heap W (.cells #[.int .i64 1, .int .i64 (ofI T 0 i), .int .u64 0] 54))
  go_enter Tryd.func7, Tryd.ntmps7
  go_wp2_with fail
  refine (Plan.Pin_any T S L G i _).mono ?_
  rintro e w' ⟨rfl, b1⟩
  have HB1 := Lib.hid (HB0.out.trans (b1.mono HB0.out.size))
  clear b1 c_0 c_1 c_2 c_3
  go_wp2
  go_ret
  exact ⟨_, rfl, ⟨HE.out _, ok_1 _⟩, HB1.out.size, HB1.out.trans ((box_below _ _).mono HB1.out.size)⟩
theorem Leave_next {p : Nat} {w : World} {T S L G i : Int} {s : St} (h : Unpins w p T S L G i s) : Calls Tryd.prog 14 #[.pointer (some ⟨p, 0, none⟩)] w (Told w (pinA s)) := by
  have HD := Lib.hid fun o => deed_any (h.only (only_below (fun _ => False) (box_below w o)) id)
  unfold Told at HD ⊢
  generalize (pinA s).isSome = bo at HD ⊢
  generalize (pinA s).getD (0, 0, 0, 0, 0) = d at HD ⊢
  clear h
  go_enter Tryd.func14, Tryd.ntmps14
  go_wp2_with fail
  refine (HD.out _).mono ?_
  rintro e w1 ⟨rfl, hb⟩
  obtain ⟨⟨r0, r1, r2, r3, r4⟩, g0, g1, g2, g3, g4⟩ := res5 hb
  obtain ⟨⟨s0, s1, s2, s3, s4⟩, hB⟩ := set5 hb (.int .i64 d.1) (.int .i64 d.2.1) (.int .u64 d.2.2.1) (.int .u64 d.2.2.2.1) (.int .u64 d.2.2.2.2)
  have HB := Lib.hid hB
  clear hB hb
  go_wp2
  exact bodyPost_ret (v := .tuple #[.agg #[.int .i64 d.1, .int .i64 d.2.1, .int .u64 d.2.2.1, .int .u64 d.2.2.2.1, .int .u64 d.2.2.2.2], .bool bo]) (by simp [results, Tryd.results14, go_sem, s0, s1, s2, s3, s4]) rfl ⟨rfl, HB.out⟩
theorem Leave_tell {p : Nat} {w : World} {T S L G i : Int} {s : St} (h : Unpins w p T S L G i s) {f : Int} (hf : 0 ≤ f ∧ f < 18446744073709551616) : Calls Tryd.prog 15 #[.pointer (some ⟨p, 0, none⟩), .int .u64 f] w fun e w' =>
    e = .returned (.tuple #[]) ∧ Unpins w' p T S L G i (pinT s f) ∧ Only (fun k => k = p) w w' := by
  have HG := Lib.hid (goOn_any h hf)
  clear h hf
  go_enter Tryd.func15, Tryd.ntmps15
  go_wp2_with fail
  refine (HG.out).mono ?_
  rintro e w' ⟨rfl, h1, h2⟩
  go_wp2
  refine bodyPost_end (results_none rfl _ _ _) rfl ?_
  exact ⟨rfl, h1, h2⟩
theorem Leave_any (T S L G i : Int) (w : World) : Calls Tryd.prog 13 #[.agg #[.int .i64 T, .int .i64 S, .int .i64 L, .int .u64 G], .int .i64 i] w fun e w' => ∃ p, e = .returned (.pointer (some ⟨p, 0, none⟩)) ∧ Unpins w' p T S L G i ⟨2, ofI T 0 i, 0⟩ ∧ w.heap.size ≤ p ∧ Below w.heap.size w w' := by
  obtain ⟨c_0, c_1, c_2, c_3⟩ := box4 w (.int .i64 T) (.int .i64 S) (.int .i64 L) (.int .u64 G) 24
  have HB0 := Lib.hid (box_below w (.cells #[.int .i64 T, .int .i64 S, .int .i64 L, .int .u64 G] 24))
  have HE := Lib.hid (fun W : World => new_heap W (.cells #[.int .i64 2, .int .i64 (ofI T 0 i), .int .u64 0] 64))
  go_enter Tryd.func13, Tryd.ntmps13
  go_wp2_with fail
  refine (Plan.Pin_any T S L G i _).mono ?_
  rintro e w' ⟨rfl, b1⟩
  have HB1 := Lib.hid (HB0.out.trans (b1.mono HB0.out.size))
  clear b1 c_0 c_1 c_2 c_3
  go_wp2
  go_ret
  exact ⟨_, rfl, ⟨HE.out _, ok_2 _⟩, HB1.out.size, HB1.out.trans ((box_below _ _).mono HB1.out.size)⟩
theorem Epoch_any {p : Nat} {w : World} {T S L G i : Int} {s : St} (h : Pins w p T S L G i s) : Calls Tryd.prog 21 #[.pointer (some ⟨p, 0, none⟩)] w fun e w' => e = .returned (.int .u64 (pinE s)) ∧ w = w' := by
  obtain ⟨c0, _, c2, _, _⟩ := h.cells
  obtain ⟨st, a, v⟩ := s
  simp only at c0 c2
  clear h
  by_cases h0 : st = 0
  · subst h0
    rw [pinE_0]
    go_enter Tryd.func21, Tryd.ntmps21
    go_wp2
    go_ret
    exact ⟨rfl, rfl⟩
  · rw [pinE_n (s := ⟨st, a, v⟩) h0]
    have h1 : (st != 0) = true := by simpa using h0
    go_enter Tryd.func21, Tryd.ntmps21
    go_wp2
    go_ret
    exact ⟨rfl, rfl⟩
end Go.Proofs.YtcgaoileocpncaaDoor.Pin
