import Derived.Test.YtlagghghbpbcbaaGreatDoorStartComesAllP1
import Derived.Test.YtlagghghbpbcbaaGreatDoorStartComesAllP12
import Derived.Test.YtlagghghbpbcbaaGreatDoorStartComesAllP16
import Derived.Deep.RegionHeld3
import Derived.Test.YtlagghghbpbcbaaGreatDoorStartComesAllP5
import Derived.Test.YtlagghghbpbcbaaGreatDoorStartComesAllP10
/- The tasks of package pin (layer 13), each held to plain arithmetic: what they ask for, what they become; all else in memory stays as it was. -/
namespace Go.Proofs.YtlagghghbpbcbaaGreatDoor.Pin
set_option maxRecDepth 20000
open Go.ChangeShapes Go.WideShapes Go.RowKit CM DM PM PiM Lay Plan Go.Proofs.YtlagghghbpbcbaaGreatDoor.Task
set_option linter.unusedVariables false
set_option linter.unusedSimpArgs false

/-- What a task is asked for. -/
def ToldD (w : World) (d : D) (more : Bool) (e : Ending) (w' : World) : Prop :=
  e = .returned (.tuple #[.agg #[.int .i64 d.1, .int .i64 d.2.1, .int .u64 d.2.2.1, .int .u64 d.2.2.2.1, .int .u64 d.2.2.2.2], .bool more]) ∧ Below w.heap.size w w'
def Told (w : World) (x : Option D) : Ending → World → Prop := ToldD w (x.getD (0, 0, 0, 0, 0)) x.isSome

/-- A task in block p, as it lies. -/
def Lies (w : World) (p : Nat) (t : TypeId) (s : St) : Prop := w.heap[p]? = some (.cells #[.int .i64 s.st, .int .i64 s.pl, .int .u64 s.word] t (0, 0)) ∧ Ok s
/-- A task that pins a thread, in block p; one that lets it leave. (Of no plan any more.) -/
def Pins (w : World) (p : Nat) (T S L G i : Int) (s : St) : Prop := Lies w p 126 s
def Unpins (w : World) (p : Nat) (T S L G i : Int) (s : St) : Prop := Lies w p 170 s
theorem Lies.only {w w' : World} {p : Nat} {t : TypeId} {s : St} {R : Nat → Prop} (h : Lies w p t s) (ho : Only R w w') (hp : ¬ R p) : Lies w' p t s := ⟨ho.heap h.1 hp, h.2⟩
theorem Lies.lt {w : World} {p : Nat} {t : TypeId} {s : St} (h : Lies w p t s) : p < w.heap.size := (Array.getElem?_eq_some_iff.1 h.1).1
theorem Pins.only {w w' : World} {p : Nat} {T S L G i : Int} {s : St} {R : Nat → Prop} (h : Pins w p T S L G i s) (ho : Only R w w') (hp : ¬ R p) : Pins w' p T S L G i s := Lies.only h ho hp
theorem Unpins.only {w w' : World} {p : Nat} {T S L G i : Int} {s : St} {R : Nat → Prop} (h : Unpins w p T S L G i s) (ho : Only R w w') (hp : ¬ R p) : Unpins w' p T S L G i s := Lies.only h ho hp
theorem Pins.lt {w : World} {p : Nat} {T S L G i : Int} {s : St} (h : Pins w p T S L G i s) : p < w.heap.size := Lies.lt h
theorem Unpins.lt {w : World} {p : Nat} {T S L G i : Int} {s : St} (h : Unpins w p T S L G i s) : p < w.heap.size := Lies.lt h
theorem Lies.cells {w : World} {p : Nat} {t : TypeId} {s : St} (h : Lies w p t s) : w.cell? ⟨p, 0, none⟩ = some (.int .i64 s.st) ∧ w.cell? ⟨p, 1, none⟩ = some (.int .i64 s.pl) ∧ w.cell? ⟨p, 2, none⟩ = some (.int .u64 s.word) ∧ w.frozen? ⟨p, 0, none⟩ = false ∧ w.frozen? ⟨p, 2, none⟩ = false := by
  have c0 := (cell_heap h.1 0).1
  have c1 := (cell_heap h.1 1).1
  have c2 := (cell_heap h.1 2).1
  exact ⟨by simpa using c0, by simpa using c1, by simpa using c2, (cell_heap h.1 0).2, (cell_heap h.1 2).2⟩

theorem deed_done {p : Nat} {w : World} (h0 : w.cell? ⟨p, 0, none⟩ = some (.int .i64 0)) : Calls Tryz.prog 191 #[.pointer (some ⟨p, 0, none⟩)] w (Told w none) := by
  have hp : p < w.heap.size := World.block_lt_of_cell? _ _ h0
  have H1 := fun o => cell_later (box_below w o) h0
  have HB := Lib.hid (box_below w)
  go_enter Tryz.func191, Tryz.ntmps191
  go_wp2
  exact bodyPost_ret (v := .tuple #[.agg #[.int .i64 0, .int .i64 0, .int .u64 0, .int .u64 0, .int .u64 0], .bool false]) (by simp [results, Tryz.results191, go_sem]) rfl ⟨rfl, HB.out _⟩
theorem deed_look {p : Nat} {w : World} (h0 : w.cell? ⟨p, 0, none⟩ = some (.int .i64 1)) : Calls Tryz.prog 191 #[.pointer (some ⟨p, 0, none⟩)] w (Told w (some (1, 0, 0, 0, 0))) := by
  have hp : p < w.heap.size := World.block_lt_of_cell? _ _ h0
  have H1 := fun o => cell_later (box_below w o) h0
  have HB := Lib.hid (box_below w)
  go_enter Tryz.func191, Tryz.ntmps191
  go_wp2
  exact bodyPost_ret (v := .tuple #[.agg #[.int .i64 1, .int .i64 0, .int .u64 0, .int .u64 0, .int .u64 0], .bool true]) (by simp [results, Tryz.results191, go_sem]) rfl ⟨rfl, HB.out _⟩
theorem deed_write {p : Nat} {w : World} {a v : Int} (h0 : w.cell? ⟨p, 0, none⟩ = some (.int .i64 2)) (h1 : w.cell? ⟨p, 1, none⟩ = some (.int .i64 a)) (h2 : w.cell? ⟨p, 2, none⟩ = some (.int .u64 v)) :
    Calls Tryz.prog 191 #[.pointer (some ⟨p, 0, none⟩)] w (Told w (some (2, a, v, 0, 0))) := by
  have hp : p < w.heap.size := World.block_lt_of_cell? _ _ h0
  have H1 := fun o => cell_later (box_below w o) h0
  have H2 := fun o => cell_later (box_below w o) h1
  have H3 := fun o => cell_later (box_below w o) h2
  have HB := Lib.hid (box_below w)
  go_enter Tryz.func191, Tryz.ntmps191
  go_wp2
  go_region
  go_wp2
  exact bodyPost_ret (v := .tuple #[.agg #[.int .i64 2, .int .i64 a, .int .u64 v, .int .u64 0, .int .u64 0], .bool true]) (by simp [results, Tryz.results191, go_sem]) rfl ⟨rfl, (HB.out _).drew⟩
theorem deed_any {p : Nat} {w : World} {t : TypeId} {s : St} (h : Lies w p t s) : Calls Tryz.prog 191 #[.pointer (some ⟨p, 0, none⟩)] w (Told w (pinA s)) := by
  obtain ⟨h0, h1, h2, _, _⟩ := h.cells
  obtain ⟨hs, _⟩ := h.2
  obtain ⟨st, a, v⟩ := s
  simp only at h0 h1 h2 hs
  rcases hs with rfl | rfl | rfl
  · rw [pinA_0]; exact deed_done h0
  · rw [pinA_1]; exact deed_look h0
  · rw [pinA_2]; exact deed_write h0 h1 h2
theorem goOn_any {p : Nat} {w : World} {t : TypeId} {s : St} (h : Lies w p t s) {f : Int} (hf : 0 ≤ f ∧ f < 18446744073709551616) : Calls Tryz.prog 192 #[.pointer (some ⟨p, 0, none⟩), .int .u64 f] w fun e w' => e = .returned (.tuple #[]) ∧ Lies w' p t (pinT s f) ∧ Only (fun k => k = p) w w' := by
  have HK := Lib.hid (pinT_ok h.2 hf)
  obtain ⟨h0, h1, h2, f0, f2⟩ := h.cells
  obtain ⟨hs, _⟩ := h.2
  have hb := h.1
  obtain ⟨st, a, v⟩ := s
  simp only at h0 h1 h2 hs hb
  have hO : ∀ j v, Only (fun k => k = p) w (w.setCell ⟨p, j, none⟩ v) := fun j v => only_setCell (R := fun k => k = p) w (p := ⟨p, j, none⟩) rfl v
  rcases hs with rfl | rfl | rfl
  · rw [pinT_0] at HK ⊢
    have HE := Lib.hid (show (w.setCell ⟨p, 0, none⟩ (.int .i64 0)).heap[p]? = some (.cells #[.int .i64 0, .int .i64 a, .int .u64 v] t (0, 0)) from by simpa using set_heap (j := 0) hb (.int .i64 0))
    have HO := Lib.hid (hO 0 (.int .i64 0))
    clear h hb hO hf
    go_enter Tryz.func192, Tryz.ntmps192
    go_wp2
    refine bodyPost_end (results_none rfl _ _ _) rfl ?_
    exact ⟨rfl, ⟨HE.out, HK.out⟩, HO.out⟩
  · rw [pinT_1] at HK ⊢
    have hE := set_heap (j := 2) (set_heap (j := 0) hb (.int .i64 2)) (.int .u64 f)
    have HE := Lib.hid (show ((w.setCell ⟨p, 0, none⟩ (.int .i64 2)).setCell ⟨p, 2, none⟩ (.int .u64 f)).heap[p]? = some (.cells #[.int .i64 2, .int .i64 a, .int .u64 f] t (0, 0)) from by simpa using hE)
    have HO := Lib.hid ((hO 0 (.int .i64 2)).setCell (p := ⟨p, 2, none⟩) (.inl rfl) (.int .u64 f))
    clear h hb hO hE hf
    go_enter Tryz.func192, Tryz.ntmps192
    go_wp2
    exact bodyPost_ret (v := .tuple #[]) (results_none rfl _ _ _) rfl ⟨rfl, ⟨HE.out, HK.out⟩, HO.out⟩
  · rw [pinT_2] at HK ⊢
    have HE := Lib.hid (show (w.setCell ⟨p, 0, none⟩ (.int .i64 0)).heap[p]? = some (.cells #[.int .i64 0, .int .i64 a, .int .u64 v] t (0, 0)) from by simpa using set_heap (j := 0) hb (.int .i64 0))
    have HO := Lib.hid (hO 0 (.int .i64 0))
    clear h hb hO hf
    go_enter Tryz.func192, Tryz.ntmps192
    go_wp2
    refine bodyPost_end (results_none rfl _ _ _) rfl ?_
    exact ⟨rfl, ⟨HE.out, HK.out⟩, HO.out⟩
theorem Pin_next {p : Nat} {w : World} {T S L G i : Int} {s : St} (h : Pins w p T S L G i s) : Calls Tryz.prog 189 #[.pointer (some ⟨p, 0, none⟩)] w (Told w (pinA s)) := by
  have HD := Lib.hid fun o => deed_any (h.only (only_below (fun _ => False) (box_below w o)) id)
  unfold Told at HD ⊢
  generalize (pinA s).isSome = bo at HD ⊢
  generalize (pinA s).getD (0, 0, 0, 0, 0) = d at HD ⊢
  clear h
  go_enter Tryz.func189, Tryz.ntmps189
  go_wp2_with fail
  refine (HD.out _).mono ?_
  rintro e w1 ⟨rfl, hb⟩
  obtain ⟨⟨r0, r1, r2, r3, r4⟩, g0, g1, g2, g3, g4⟩ := res5 hb
  obtain ⟨⟨s0, s1, s2, s3, s4⟩, hB⟩ := set5 hb (.int .i64 d.1) (.int .i64 d.2.1) (.int .u64 d.2.2.1) (.int .u64 d.2.2.2.1) (.int .u64 d.2.2.2.2)
  have HB := Lib.hid hB
  clear hB hb
  go_wp2
  exact bodyPost_ret (v := .tuple #[.agg #[.int .i64 d.1, .int .i64 d.2.1, .int .u64 d.2.2.1, .int .u64 d.2.2.2.1, .int .u64 d.2.2.2.2], .bool bo]) (by simp [results, Tryz.results189, go_sem, s0, s1, s2, s3, s4]) rfl ⟨rfl, HB.out⟩
theorem Pin_tell {p : Nat} {w : World} {T S L G i : Int} {s : St} (h : Pins w p T S L G i s) {f : Int} (hf : 0 ≤ f ∧ f < 18446744073709551616) : Calls Tryz.prog 190 #[.pointer (some ⟨p, 0, none⟩), .int .u64 f] w fun e w' =>
    e = .returned (.tuple #[]) ∧ Pins w' p T S L G i (pinT s f) ∧ Only (fun k => k = p) w w' := by
  have HG := Lib.hid (goOn_any h hf)
  clear h hf
  go_enter Tryz.func190, Tryz.ntmps190
  go_wp2_with fail
  refine (HG.out).mono ?_
  rintro e w' ⟨rfl, h1, h2⟩
  go_wp2
  refine bodyPost_end (results_none rfl _ _ _) rfl ?_
  exact ⟨rfl, h1, h2⟩
theorem Pin_any (T S L G i : Int) (w : World) : Calls Tryz.prog 43 #[.agg #[.int .i64 T, .int .i64 S, .int .i64 L, .int .u64 G], .int .i64 i] w fun e w' => ∃ p, e = .returned (.pointer (some ⟨p, 0, none⟩)) ∧ Pins w' p T S L G i ⟨1, ofI T 0 i, 0⟩ ∧ w.heap.size ≤ p ∧ Below w.heap.size w w' := by
  obtain ⟨c_0, c_1, c_2, c_3⟩ := box4 w (.int .i64 T) (.int .i64 S) (.int .i64 L) (.int .u64 G) 24
  have HB0 := Lib.hid (box_below w (.cells #[.int .i64 T, .int .i64 S, .int .i64 L, .int .u64 G] 24))
  have HE := Lib.hid (fun W : World => new_heap W (.cells #[.int .i64 1, .int .i64 (ofI T 0 i), .int .u64 0] 126))
  go_enter Tryz.func43, Tryz.ntmps43
  go_wp2_with fail
  refine (Plan.Pin_any T S L G i _).mono ?_
  rintro e w' ⟨rfl, b1⟩
  have HB1 := Lib.hid (HB0.out.trans (b1.mono HB0.out.size))
  clear b1 c_0 c_1 c_2 c_3
  go_wp2
  go_ret
  exact ⟨_, rfl, ⟨HE.out _, ok_1 _⟩, HB1.out.size, HB1.out.trans ((box_below _ _).mono HB1.out.size)⟩
theorem Leave_next {p : Nat} {w : World} {T S L G i : Int} {s : St} (h : Unpins w p T S L G i s) : Calls Tryz.prog 220 #[.pointer (some ⟨p, 0, none⟩)] w (Told w (pinA s)) := by
  have HD := Lib.hid fun o => deed_any (h.only (only_below (fun _ => False) (box_below w o)) id)
  unfold Told at HD ⊢
  generalize (pinA s).isSome = bo at HD ⊢
  generalize (pinA s).getD (0, 0, 0, 0, 0) = d at HD ⊢
  clear h
  go_enter Tryz.func220, Tryz.ntmps220
  go_wp2_with fail
  refine (HD.out _).mono ?_
  rintro e w1 ⟨rfl, hb⟩
  obtain ⟨⟨r0, r1, r2, r3, r4⟩, g0, g1, g2, g3, g4⟩ := res5 hb
  obtain ⟨⟨s0, s1, s2, s3, s4⟩, hB⟩ := set5 hb (.int .i64 d.1) (.int .i64 d.2.1) (.int .u64 d.2.2.1) (.int .u64 d.2.2.2.1) (.int .u64 d.2.2.2.2)
  have HB := Lib.hid hB
  clear hB hb
  go_wp2
  exact bodyPost_ret (v := .tuple #[.agg #[.int .i64 d.1, .int .i64 d.2.1, .int .u64 d.2.2.1, .int .u64 d.2.2.2.1, .int .u64 d.2.2.2.2], .bool bo]) (by simp [results, Tryz.results220, go_sem, s0, s1, s2, s3, s4]) rfl ⟨rfl, HB.out⟩
theorem Leave_tell {p : Nat} {w : World} {T S L G i : Int} {s : St} (h : Unpins w p T S L G i s) {f : Int} (hf : 0 ≤ f ∧ f < 18446744073709551616) : Calls Tryz.prog 221 #[.pointer (some ⟨p, 0, none⟩), .int .u64 f] w fun e w' =>
    e = .returned (.tuple #[]) ∧ Unpins w' p T S L G i (pinT s f) ∧ Only (fun k => k = p) w w' := by
  have HG := Lib.hid (goOn_any h hf)
  clear h hf
  go_enter Tryz.func221, Tryz.ntmps221
  go_wp2_with fail
  refine (HG.out).mono ?_
  rintro e w' ⟨rfl, h1, h2⟩
  go_wp2
  refine bodyPost_end (results_none rfl _ _ _) rfl ?_
  exact ⟨rfl, h1, h2⟩
theorem Leave_any (T S L G i : Int) (w : World) : Calls Tryz.prog 113 #[.agg #[.int .i64 T, .int .i64 S, .int .i64 L, .int .u64 G], .int .i64 i] w fun e w' => ∃ p, e = .returned (.pointer (some ⟨p, 0, none⟩)) ∧ Unpins w' p T S L G i ⟨2, ofI T 0 i, 0⟩ ∧ w.heap.size ≤ p ∧ Below w.heap.size w w' := by
  obtain ⟨c_0, c_1, c_2, c_3⟩ := box4 w (.int .i64 T) (.int .i64 S) (.int .i64 L) (.int .u64 G) 24
  have HB0 := Lib.hid (box_below w (.cells #[.int .i64 T, .int .i64 S, .int .i64 L, .int .u64 G] 24))
  have HE := Lib.hid (fun W : World => new_heap W (.cells #[.int .i64 2, .int .i64 (ofI T 0 i), .int .u64 0] 170))
  go_enter Tryz.func113, Tryz.ntmps113
  go_wp2_with fail
  refine (Plan.Pin_any T S L G i _).mono ?_
  rintro e w' ⟨rfl, b1⟩
  have HB1 := Lib.hid (HB0.out.trans (b1.mono HB0.out.size))
  clear b1 c_0 c_1 c_2 c_3
  go_wp2
  go_ret
  exact ⟨_, rfl, ⟨HE.out _, ok_2 _⟩, HB1.out.size, HB1.out.trans ((box_below _ _).mono HB1.out.size)⟩
end Go.Proofs.YtlagghghbpbcbaaGreatDoor.Pin

/- The tasks of package pool (layer 12), each held to plain arithmetic: what they ask for, what they become; all else in memory stays as it was. -/
namespace Go.Proofs.YtlagghghbpbcbaaGreatDoor.Pool
set_option maxRecDepth 20000
open Go.ChangeShapes Go.WideShapes Go.RowKit CM DM PM PoM Lay Plan Go.Proofs.YtlagghghbpbcbaaGreatDoor.Task
set_option linter.unusedVariables false
set_option linter.unusedSimpArgs false

/-- What a task is asked for. -/
def ToldD (w : World) (d : D) (more : Bool) (e : Ending) (w' : World) : Prop :=
  e = .returned (.tuple #[.agg #[.int .i64 d.1, .int .i64 d.2.1, .int .u64 d.2.2.1, .int .u64 d.2.2.2.1, .int .u64 d.2.2.2.2], .bool more]) ∧ Below w.heap.size w w'
def Told (w : World) (x : Option D) : Ending → World → Prop := ToldD w (x.getD (0, 0, 0, 0, 0)) x.isSome

theorem past3 {w : World} {p j : Nat} {v : Value} (h : w.cell? ⟨p, j, none⟩ = some v) (o1 o2 o3 : Obj) : (((w.alloc o1).alloc o2).alloc o3).cell? ⟨p, j, none⟩ = some v :=
  cell_later (box_below _ o3) (cell_later (box_below _ o2) (cell_later (box_below w o1) h))
theorem below3 (w : World) (o1 o2 o3 : Obj) : Below w.heap.size w (((w.alloc o1).alloc o2).alloc o3) := (((Below.refl _ _).alloc (Nat.le_refl _) _).alloc (by simp) _).alloc (by simp; omega) _
theorem deed_look {p : Nat} {w : World} (h0 : w.cell? ⟨p, 0, none⟩ = some (.int .i64 1)) (kd i a b y v : Int) : Calls Tryz.prog 184 #[.pointer (some ⟨p, 0, none⟩), .agg #[.int .i64 kd, .int .i64 i, .int .u64 a, .int .u64 b, .int .u64 y], .int .u64 v] w (Told w (some (1, 3, 0, 0, 0))) := by
  have hp : p < w.heap.size := World.block_lt_of_cell? _ _ h0
  have H3 := past3 h0
  have HB := Lib.hid (below3 w)
  go_enter Tryz.func184, Tryz.ntmps184
  go_wp2
  exact bodyPost_ret (v := .tuple #[.agg #[.int .i64 1, .int .i64 3, .int .u64 0, .int .u64 0, .int .u64 0], .bool true]) (by simp [results, Tryz.results184, go_sem]) rfl ⟨rfl, HB.out _ _ _⟩
theorem deed_link {p : Nat} {w : World} (h0 : w.cell? ⟨p, 0, none⟩ = some (.int .i64 2)) (kd i a b y v : Int) : Calls Tryz.prog 184 #[.pointer (some ⟨p, 0, none⟩), .agg #[.int .i64 kd, .int .i64 i, .int .u64 a, .int .u64 b, .int .u64 y], .int .u64 v] w (Told w (some (kd, i, a, b, y))) := by
  have hp : p < w.heap.size := World.block_lt_of_cell? _ _ h0
  have H3 := past3 h0
  have HB := Lib.hid (below3 w)
  go_enter Tryz.func184, Tryz.ntmps184
  go_wp2
  exact bodyPost_ret (v := .tuple #[.agg #[.int .i64 kd, .int .i64 i, .int .u64 a, .int .u64 b, .int .u64 y], .bool true]) (by simp [results, Tryz.results184, go_sem]) rfl ⟨rfl, HB.out _ _ _⟩
theorem deed_done {p : Nat} {w : World} (h0 : w.cell? ⟨p, 0, none⟩ = some (.int .i64 0)) (kd i a b y v : Int) : Calls Tryz.prog 184 #[.pointer (some ⟨p, 0, none⟩), .agg #[.int .i64 kd, .int .i64 i, .int .u64 a, .int .u64 b, .int .u64 y], .int .u64 v] w (Told w none) := by
  have hp : p < w.heap.size := World.block_lt_of_cell? _ _ h0
  have H3 := past3 h0
  have HB := Lib.hid (below3 w)
  go_enter Tryz.func184, Tryz.ntmps184
  go_wp2
  exact bodyPost_ret (v := .tuple #[.agg #[.int .i64 0, .int .i64 0, .int .u64 0, .int .u64 0, .int .u64 0], .bool false]) (by simp [results, Tryz.results184, go_sem]) rfl ⟨rfl, HB.out _ _ _⟩
theorem deed_turn {p : Nat} {w : World} {s : Int} (h0 : w.cell? ⟨p, 0, none⟩ = some (.int .i64 3)) (h1 : w.cell? ⟨p, 1, none⟩ = some (.int .u64 s)) (hs : 0 ≤ s ∧ s < 18446744073709551616) (kd i a b y v : Int) (hv : 0 ≤ v ∧ v < 18446744073709551616) :
    Calls Tryz.prog 184 #[.pointer (some ⟨p, 0, none⟩), .agg #[.int .i64 kd, .int .i64 i, .int .u64 a, .int .u64 b, .int .u64 y], .int .u64 v] w (Told w (some (3, 3, s, turnI s v, 0))) := by
  have hp : p < w.heap.size := World.block_lt_of_cell? _ _ h0
  have H3 := past3 h0
  have H4 := past3 h1
  have HB := Lib.hid (below3 w)
  have HH := Lib.hid fun W : World => Field.High_any s hs.1 hs.2 W
  have HP := Lib.hid fun W : World => Field.Pair_any (s / 4294967296 + 1) v (by omega) hv.1 hv.2 W
  have e1 : IntKind.u64.wrap (s / 4294967296 + 1) = s / 4294967296 + 1 := by rw [IntKind.wrap_u64]; omega
  have e2 : (s / 4294967296 + 1) % 4294967296 * 4294967296 + v % 4294967296 = turnI s v := rfl
  rw [e2] at HP
  generalize turnI s v = r at HP ⊢
  clear hs hv e2
  go_enter Tryz.func184, Tryz.ntmps184
  go_wp2
  go_region_held3 (fun w' => (w'.cell? ⟨p, 1, none⟩ = some (.int .u64 s)))
    ((first | assumption | exact cell_later ((Below.refl _ _).drew) (H4 _ _ _)))
    (first
      | (go_at_call 48; refine (HH.out _).mono ?_; rintro e w1 ⟨rfl, rfl⟩)
      | (go_at_call 47; refine (HP.out _).mono ?_; rintro e w2 ⟨rfl, rfl⟩))
  go_wp2
  exact bodyPost_ret (v := .tuple #[.agg #[.int .i64 3, .int .i64 3, .int .u64 s, .int .u64 r, .int .u64 0], .bool true]) (by simp [results, Tryz.results184, go_sem]) rfl ⟨rfl, (HB.out _ _ _).drew⟩

/-- The words of a task: its step, its head, its plan, its last word. -/
def Box (w : World) (p : Nat) (s : St) (T S L G : Int) (v : Value) : Prop :=
  w.cell? ⟨p, 0, none⟩ = some (.int .i64 s.st) ∧ w.cell? ⟨p, 1, none⟩ = some (.int .u64 s.was) ∧ w.cell? ⟨p, 2, none⟩ = some (.int .i64 T) ∧ w.cell? ⟨p, 3, none⟩ = some (.int .i64 S) ∧ w.cell? ⟨p, 4, none⟩ = some (.int .i64 L) ∧
    w.cell? ⟨p, 5, none⟩ = some (.int .u64 G) ∧ w.cell? ⟨p, 6, none⟩ = some v
theorem Box.later {w w' : World} {p : Nat} {s : St} {T S L G : Int} {v : Value} (h : Box w p s T S L G v) (hb : Below w.heap.size w w') : Box w' p s T S L G v :=
  ⟨cell_later hb h.1, cell_later hb h.2.1, cell_later hb h.2.2.1, cell_later hb h.2.2.2.1, cell_later hb h.2.2.2.2.1, cell_later hb h.2.2.2.2.2.1, cell_later hb h.2.2.2.2.2.2⟩
theorem box_of_heap {w : World} {p : Nat} {s : St} {T S L G : Int} {v : Value} {t : TypeId} (h : w.heap[p]? = some (.cells #[.int .i64 s.st, .int .u64 s.was, .int .i64 T, .int .i64 S, .int .i64 L, .int .u64 G, v] t (0, 0))) : Box w p s T S L G v := by
  refine ⟨?_, ?_, ?_, ?_, ?_, ?_, ?_⟩
  · have := (cell_heap h 0).1; simpa using this
  · have := (cell_heap h 1).1; simpa using this
  · have := (cell_heap h 2).1; simpa using this
  · have := (cell_heap h 3).1; simpa using this
  · have := (cell_heap h 4).1; simpa using this
  · have := (cell_heap h 5).1; simpa using this
  · have := (cell_heap h 6).1; simpa using this
/-- A task that takes a slot, in block p. -/
def Pops (w : World) (p : Nat) (T S L G : Int) (s : St) : Prop := w.heap[p]? = some (.cells #[.int .i64 s.st, .int .u64 s.was, .int .i64 T, .int .i64 S, .int .i64 L, .int .u64 G, .int .u64 s.low] 146 (0, 0)) ∧ Ok s
theorem Pops.only {w w' : World} {p : Nat} {T S L G : Int} {s : St} {R : Nat → Prop} (h : Pops w p T S L G s) (ho : Only R w w') (hp : ¬ R p) : Pops w' p T S L G s := ⟨ho.heap h.1 hp, h.2⟩
theorem Pops.lt {w : World} {p : Nat} {T S L G : Int} {s : St} (h : Pops w p T S L G s) : p < w.heap.size := (Array.getElem?_eq_some_iff.1 h.1).1

theorem top_any {p : Nat} {w : World} {v : Int} (h1 : w.cell? ⟨p, 1, none⟩ = some (.int .u64 v)) (hv : 0 ≤ v ∧ v < 18446744073709551616) : Calls Tryz.prog 112 #[.pointer (some ⟨p, 0, none⟩)] w fun e w' => e = .returned (.int .i64 (v % 4294967296)) ∧ w = w' := by
  have HL := Lib.hid fun W : World => Field.Low_any v hv.1 hv.2 W
  have hm : 0 ≤ v % 4294967296 ∧ v % 4294967296 < 4294967296 := by omega
  generalize v % 4294967296 = u at HL hm ⊢
  clear hv
  go_enter Tryz.func112, Tryz.ntmps112
  go_wp2_with fail
  refine (HL.out _).mono ?_
  rintro e w' ⟨rfl, rfl⟩
  go_wp2
  go_ret
  exact ⟨ret_i64 (by first | rfl | omega), rfl⟩
theorem Index_done {p : Nat} {w : World} {T S L G w0 b : Int} (h : Pops w p T S L G ⟨0, w0, b⟩) : Calls Tryz.prog 102 #[.pointer (some ⟨p, 0, none⟩)] w fun e w' => e = .returned (.int .i64 (w0 % 4294967296)) ∧ w = w' := by
  obtain ⟨c0, c1, _⟩ := box_of_heap h.1
  have HT := Lib.hid (top_any c1 h.2.2.1)
  simp only at c0
  go_enter Tryz.func102, Tryz.ntmps102
  go_wp2_with fail
  refine (HT.out).mono ?_
  rintro e w' ⟨rfl, rfl⟩
  go_wp2
  go_ret
  exact ⟨rfl, rfl⟩
theorem Index_busy {p : Nat} {w : World} {T S L G : Int} {s : St} (h : Pops w p T S L G s) (h0 : ¬ s.st = 0) : Calls Tryz.prog 102 #[.pointer (some ⟨p, 0, none⟩)] w fun e w' => e = .returned (.int .i64 0) ∧ w = w' := by
  obtain ⟨c0, c1, _⟩ := box_of_heap h.1
  have h1 : (s.st != 0) = true := by simpa using h0
  clear h
  go_enter Tryz.func102, Tryz.ntmps102
  go_wp2
  go_ret
  exact ⟨rfl, rfl⟩
theorem Index_any {p : Nat} {w : World} {T S L G : Int} {s : St} (h : Pops w p T S L G s) : Calls Tryz.prog 102 #[.pointer (some ⟨p, 0, none⟩)] w fun e w' => e = .returned (.int .i64 (popI s)) ∧ w = w' := by
  by_cases h0 : s.st = 0
  · obtain ⟨st, w0, b⟩ := s
    simp only at h0
    subst h0
    rw [popI_0]
    exact Index_done h
  · rw [popI_n h0]
    exact Index_busy h h0
theorem goOn_any {p : Nat} {w : World} {s : St} {x2 x3 x4 x5 x6 : Value} {t : TypeId} (h : w.heap[p]? = some (.cells #[.int .i64 s.st, .int .u64 s.was, x2, x3, x4, x5, x6] t (0, 0))) (hs : s.st = 0 ∨ s.st = 1 ∨ s.st = 2 ∨ s.st = 3) (f : Int) : Calls Tryz.prog 185 #[.pointer (some ⟨p, 0, none⟩), .int .u64 f] w fun e w' =>
    e = .returned (.tuple #[]) ∧ w'.heap[p]? = some (.cells #[.int .i64 (pushT s f).st, .int .u64 (pushT s f).was, x2, x3, x4, x5, x6] t (0, 0)) ∧ Only (fun k => k = p) w w' := by
  obtain ⟨st, wa, lo⟩ := s
  simp only at h hs
  have c0 := (cell_heap h 0).1
  have c1 := (cell_heap h 1).1
  have f0 := (cell_heap h 0).2
  have f1 := (cell_heap h 1).2
  simp at c0 c1
  have hO : ∀ j v, Only (fun k => k = p) w (w.setCell ⟨p, j, none⟩ v) := fun j v => only_setCell (R := fun k => k = p) w (p := ⟨p, j, none⟩) rfl v
  have hS : ∀ v, (w.setCell ⟨p, 0, none⟩ (.int .i64 v)).heap[p]? = some (.cells #[.int .i64 v, .int .u64 wa, x2, x3, x4, x5, x6] t (0, 0)) := fun v => by simpa using set_heap (j := 0) h (.int .i64 v)
  rcases hs with rfl | rfl | rfl | rfl
  · rw [pushT_0]
    have HE := Lib.hid (And.intro (hS 0) (hO 0 (.int .i64 0)))
    clear h hO hS
    go_enter Tryz.func185, Tryz.ntmps185
    go_wp2
    refine bodyPost_end (results_none rfl _ _ _) rfl ?_
    exact ⟨rfl, HE.out⟩
  · rw [pushT_1]
    have HE := Lib.hid (show ((w.setCell ⟨p, 0, none⟩ (.int .i64 2)).setCell ⟨p, 1, none⟩ (.int .u64 f)).heap[p]? = some (.cells #[.int .i64 2, .int .u64 f, x2, x3, x4, x5, x6] t (0, 0)) ∧ Only (fun k => k = p) w ((w.setCell ⟨p, 0, none⟩ (.int .i64 2)).setCell ⟨p, 1, none⟩ (.int .u64 f)) from
      ⟨by simpa using set_heap (j := 1) (hS 2) (.int .u64 f), (hO 0 _).setCell (.inl rfl) _⟩)
    clear h hO hS
    go_enter Tryz.func185, Tryz.ntmps185
    go_wp2
    refine bodyPost_end (results_none rfl _ _ _) rfl ?_
    exact ⟨rfl, HE.out⟩
  · rw [pushT_2]
    have HE := Lib.hid (And.intro (hS 3) (hO 0 (.int .i64 3)))
    clear h hO hS
    go_enter Tryz.func185, Tryz.ntmps185
    go_wp2
    refine bodyPost_end (results_none rfl _ _ _) rfl ?_
    exact ⟨rfl, HE.out⟩
  · by_cases he : f = wa
    · subst he
      rw [pushT_3]
      have HE := Lib.hid (And.intro (hS 0) (hO 0 (.int .i64 0)))
      have hb : (f != f) = false := by simp
      clear h hO hS
      go_enter Tryz.func185, Tryz.ntmps185
      go_wp2
      refine bodyPost_end (results_none rfl _ _ _) rfl ?_
      exact ⟨rfl, HE.out⟩
    · rw [pushT_3n he]
      have HE := Lib.hid (And.intro (hS 1) (hO 0 (.int .i64 1)))
      have hb : (f != wa) = true := by simpa using he
      clear h hO hS
      go_enter Tryz.func185, Tryz.ntmps185
      go_wp2
      refine bodyPost_end (results_none rfl _ _ _) rfl ?_
      exact ⟨rfl, HE.out⟩
theorem Pop_tell {p : Nat} {w : World} {T S L G : Int} {s : St} (h : Pops w p T S L G s) {f : Int} (hf : 0 ≤ f ∧ f < 18446744073709551616) : Calls Tryz.prog 183 #[.pointer (some ⟨p, 0, none⟩), .int .u64 f] w fun e w' =>
    e = .returned (.tuple #[]) ∧ Pops w' p T S L G (popT s f) ∧ Only (fun k => k = p) w w' := by
  have HK := Lib.hid (popT_ok h.2 hf)
  obtain ⟨st, wa, lo⟩ := s
  obtain ⟨hb, ⟨hs, hw, hl⟩⟩ := h
  simp only at hb hs hw hl
  have c0 := (cell_heap hb 0).1
  have c6 := (cell_heap hb 6).1
  have f6 := (cell_heap hb 6).2
  simp at c0 c6
  rcases hs with rfl | rfl | rfl | rfl
  · rw [popT_0] at HK ⊢
    have HG := Lib.hid (goOn_any (s := ⟨0, wa, lo⟩) hb (.inl rfl) f)
    rw [pushT_0] at HG
    clear hb hf hw hl
    go_enter Tryz.func183, Tryz.ntmps183
    go_wp2_with fail
    refine (HG.out).mono ?_
    rintro e w' ⟨rfl, h1, h2⟩
    have q0 := (cell_heap h1 0).1
    simp at q0
    have H1 := Lib.hid (And.intro h1 h2)
    clear h1 h2
    go_wp2
    refine bodyPost_end (results_none rfl _ _ _) rfl ?_
    exact ⟨rfl, ⟨H1.out.1, HK.out⟩, H1.out.2⟩
  · have HG := Lib.hid (goOn_any (s := ⟨1, wa, lo⟩) hb (.inr (.inl rfl)) f)
    rw [pushT_1] at HG
    have HF := Lib.hid hf
    by_cases he : f % 4294967296 = 0
    · rw [popT_1n he] at HK ⊢
      have HE := Lib.hid he
      clear hb hf hw hl he
      go_enter Tryz.func183, Tryz.ntmps183
      go_wp2_with fail
      refine (HG.out).mono ?_
      rintro e w' ⟨rfl, h1, h2⟩
      have q0 := (cell_heap h1 0).1
      have q1 := (cell_heap h1 1).1
      have g0 := (cell_heap h1 0).2
      simp at q0 q1
      have HT := Lib.hid (top_any q1 HF.out)
      rw [HE.out] at HT
      have H1 := Lib.hid (And.intro h1 h2)
      clear h1 h2
      go_wp2_with fail
      refine (HT.out).mono ?_
      rintro e w' ⟨rfl, rfl⟩
      go_wp2
      refine bodyPost_end (results_none rfl _ _ _) rfl ?_
      exact ⟨rfl, ⟨by simpa using set_heap (j := 0) H1.out.1 (.int .i64 0), HK.out⟩, H1.out.2.setCell (.inl rfl) _⟩
    · rw [popT_1 he] at HK ⊢
      have HE := Lib.hid (show (f % 4294967296 == 0) = false by simpa using he)
      clear hb hf hw hl
      go_enter Tryz.func183, Tryz.ntmps183
      go_wp2_with fail
      refine (HG.out).mono ?_
      rintro e w' ⟨rfl, h1, h2⟩
      have q0 := (cell_heap h1 0).1
      have q1 := (cell_heap h1 1).1
      simp at q0 q1
      have HT := Lib.hid (top_any q1 HF.out)
      have H1 := Lib.hid (And.intro h1 h2)
      have hee := HE.out
      generalize f % 4294967296 = u at HT hee he
      clear h1 h2
      go_wp2_with fail
      refine (HT.out).mono ?_
      rintro e w' ⟨rfl, rfl⟩
      go_wp2
      refine bodyPost_end (results_none rfl _ _ _) rfl ?_
      exact ⟨rfl, ⟨H1.out.1, HK.out⟩, H1.out.2⟩
  · rw [popT_2] at HK ⊢
    have hb2 : (w.setCell ⟨p, 6, none⟩ (.int .u64 f)).heap[p]? = some (.cells #[.int .i64 2, .int .u64 wa, .int .i64 T, .int .i64 S, .int .i64 L, .int .u64 G, .int .u64 f] 146 (0, 0)) := by simpa using set_heap (j := 6) hb (.int .u64 f)
    have HG := Lib.hid (goOn_any (s := ⟨2, wa, lo⟩) hb2 (.inr (.inr (.inl rfl))) f)
    rw [pushT_2] at HG
    have HO := Lib.hid (only_setCell (R := fun k => k = p) w (p := ⟨p, 6, none⟩) rfl (.int .u64 f))
    clear hb hb2 hf hw hl
    go_enter Tryz.func183, Tryz.ntmps183
    go_wp2_with fail
    refine (HG.out).mono ?_
    rintro e w' ⟨rfl, h1, h2⟩
    have q0 := (cell_heap h1 0).1
    simp at q0
    have H1 := Lib.hid (And.intro h1 (HO.out.trans h2))
    clear h1 h2
    go_wp2
    refine bodyPost_end (results_none rfl _ _ _) rfl ?_
    exact ⟨rfl, ⟨H1.out.1, HK.out⟩, H1.out.2⟩
  · have HG := Lib.hid (goOn_any (s := ⟨3, wa, lo⟩) hb (.inr (.inr (.inr rfl))) f)
    by_cases he : f = wa
    · subst he
      rw [popT_3] at HK ⊢
      rw [pushT_3] at HG
      clear hb hf hw hl
      go_enter Tryz.func183, Tryz.ntmps183
      go_wp2_with fail
      refine (HG.out).mono ?_
      rintro e w' ⟨rfl, h1, h2⟩
      have q0 := (cell_heap h1 0).1
      simp at q0
      have H1 := Lib.hid (And.intro h1 h2)
      clear h1 h2
      go_wp2
      refine bodyPost_end (results_none rfl _ _ _) rfl ?_
      exact ⟨rfl, ⟨H1.out.1, HK.out⟩, H1.out.2⟩
    · rw [popT_3n he] at HK ⊢
      rw [pushT_3n he] at HG
      clear hb hf hw hl he
      go_enter Tryz.func183, Tryz.ntmps183
      go_wp2_with fail
      refine (HG.out).mono ?_
      rintro e w' ⟨rfl, h1, h2⟩
      have q0 := (cell_heap h1 0).1
      simp at q0
      have H1 := Lib.hid (And.intro h1 h2)
      clear h1 h2
      go_wp2
      refine bodyPost_end (results_none rfl _ _ _) rfl ?_
      exact ⟨rfl, ⟨H1.out.1, HK.out⟩, H1.out.2⟩
end Go.Proofs.YtlagghghbpbcbaaGreatDoor.Pool

/- What the tasks of package pool ask for; new ones. -/
namespace Go.Proofs.YtlagghghbpbcbaaGreatDoor.Pool
set_option maxRecDepth 20000
open Go.ChangeShapes Go.WideShapes Go.RowKit CM DM PM PoM Lay Plan Go.Proofs.YtlagghghbpbcbaaGreatDoor.Task
set_option linter.unusedVariables false
set_option linter.unusedSimpArgs false

/-- All that the region reads, in any later world. -/
theorem stay {w W : World} {p : Nat} {s : St} {T S L G : Int} {v : Value} (h : Box w p s T S L G v) (hb : Below w.heap.size w W) : W.cell? ⟨p, 0, none⟩ = some (.int .i64 s.st) ∧ W.cell? ⟨p, 1, none⟩ = some (.int .u64 s.was) ∧ W.cell? ⟨p, 2, none⟩ = some (.int .i64 T) ∧ W.cell? ⟨p, 3, none⟩ = some (.int .i64 S) ∧ W.cell? ⟨p, 4, none⟩ = some (.int .i64 L) ∧ W.cell? ⟨p, 5, none⟩ = some (.int .u64 G) ∧ W.cell? ⟨p, 6, none⟩ = some v := h.later hb
theorem stay_past {w W : World} {p : Nat} {s : St} {T S L G : Int} {v : Value} (h : Box w p s T S L G v) (hb : Below (w.alloc (.cells #[.int .i64 0, .int .i64 0, .int .u64 0, .int .u64 0, .int .u64 0] 63)).heap.size (w.alloc (.cells #[.int .i64 0, .int .i64 0, .int .u64 0, .int .u64 0, .int .u64 0] 63)) W) : W.cell? ⟨p, 0, none⟩ = some (.int .i64 s.st) ∧ W.cell? ⟨p, 1, none⟩ = some (.int .u64 s.was) ∧ W.cell? ⟨p, 2, none⟩ = some (.int .i64 T) ∧ W.cell? ⟨p, 3, none⟩ = some (.int .i64 S) ∧ W.cell? ⟨p, 4, none⟩ = some (.int .i64 L) ∧ W.cell? ⟨p, 5, none⟩ = some (.int .u64 G) ∧ W.cell? ⟨p, 6, none⟩ = some v := stay h ((box_below _ _).trans (hb.mono (by simp)))
theorem stay_start {w : World} {p : Nat} {s : St} {T S L G : Int} {v : Value} (h : Box w p s T S L G v) : (fun W : World => W.cell? ⟨p, 0, none⟩ = some (.int .i64 s.st) ∧ W.cell? ⟨p, 1, none⟩ = some (.int .u64 s.was) ∧ W.cell? ⟨p, 2, none⟩ = some (.int .i64 T) ∧ W.cell? ⟨p, 3, none⟩ = some (.int .i64 S) ∧ W.cell? ⟨p, 4, none⟩ = some (.int .i64 L) ∧ W.cell? ⟨p, 5, none⟩ = some (.int .u64 G) ∧ W.cell? ⟨p, 6, none⟩ = some v) (w.alloc (.cells #[.int .i64 0, .int .i64 0, .int .u64 0, .int .u64 0, .int .u64 0] 63)).drew := stay_past h (Below.refl _ _).drew
theorem stay_set {w W : World} {p : Nat} {s : St} {T S L G : Int} {v : Value} (h : Box w p s T S L G v) (hb : Below (w.alloc (.cells #[.int .i64 0, .int .i64 0, .int .u64 0, .int .u64 0, .int .u64 0] 63)).heap.size (w.alloc (.cells #[.int .i64 0, .int .i64 0, .int .u64 0, .int .u64 0, .int .u64 0] 63)) W) (u0 u1 u2 u3 u4 : Value) :
    (fun W : World => W.cell? ⟨p, 0, none⟩ = some (.int .i64 s.st) ∧ W.cell? ⟨p, 1, none⟩ = some (.int .u64 s.was) ∧ W.cell? ⟨p, 2, none⟩ = some (.int .i64 T) ∧ W.cell? ⟨p, 3, none⟩ = some (.int .i64 S) ∧ W.cell? ⟨p, 4, none⟩ = some (.int .i64 L) ∧ W.cell? ⟨p, 5, none⟩ = some (.int .u64 G) ∧ W.cell? ⟨p, 6, none⟩ = some v) (((((W.setCell ⟨w.heap.size, 0, none⟩ u0).setCell ⟨w.heap.size, 1, none⟩ u1).setCell ⟨w.heap.size, 2, none⟩ u2).setCell ⟨w.heap.size, 3, none⟩ u3).setCell ⟨w.heap.size, 4, none⟩ u4) :=
  stay h (set5 hb u0 u1 u2 u3 u4).2

theorem deed_is {p : Nat} {w : World} {s : St} {x : Option D} {kd i a b y v : Int} (h0 : w.cell? ⟨p, 0, none⟩ = some (.int .i64 s.st)) (h1 : w.cell? ⟨p, 1, none⟩ = some (.int .u64 s.was)) (hs : Ok s) (hv : 0 ≤ v ∧ v < 18446744073709551616)
    (hx : x = if s.st = 1 then some (1, 3, 0, 0, 0) else if s.st = 2 then some (kd, i, a, b, y) else if s.st = 3 then some (3, 3, s.was, turnI s.was v, 0) else none) :
    Calls Tryz.prog 184 #[.pointer (some ⟨p, 0, none⟩), .agg #[.int .i64 kd, .int .i64 i, .int .u64 a, .int .u64 b, .int .u64 y], .int .u64 v] w (Told w x) := by
  obtain ⟨st, wa, lo⟩ := s
  obtain ⟨hs, hw, hl⟩ := hs
  simp only at h0 h1 hs hw hl hx
  subst hx
  rcases hs with rfl | rfl | rfl | rfl
  · exact deed_done h0 kd i a b y v
  · exact deed_look h0 kd i a b y v
  · exact deed_link h0 kd i a b y v
  · exact deed_turn h0 h1 hw kd i a b y v hv
theorem Pop_next {p : Nat} {w : World} {T S L G : Int} {s : St} (h : Pops w p T S L G s) : Calls Tryz.prog 182 #[.pointer (some ⟨p, 0, none⟩)] w (Told w (popA T L s)) := by
  have hbx := box_of_heap h.1
  obtain ⟨hs, hw, hl⟩ := h.2
  have HX := Lib.hid hbx
  have HT := Lib.hid fun (W : World) (h1 : W.cell? ⟨p, 1, none⟩ = some (.int .u64 s.was)) => top_any h1 hw
  have HL := Lib.hid fun W : World => Field.Low_any s.low hl.1 hl.2 W
  have HD := Lib.hid fun (W : World) (h0 : W.cell? ⟨p, 0, none⟩ = some (.int .i64 s.st)) (h1 : W.cell? ⟨p, 1, none⟩ = some (.int .u64 s.was)) =>
    deed_is (x := popA T L s) (kd := 1) (i := atI T L (s.was % 4294967296) 5) (a := 0) (b := 0) (y := 0) (v := s.low % 4294967296) h0 h1 h.2 (by omega) (by rw [turn_half]; rfl)
  unfold Told at HD ⊢
  generalize (popA T L s).isSome = bo at HD ⊢
  generalize (popA T L s).getD (0, 0, 0, 0, 0) = d at HD ⊢
  generalize s.low % 4294967296 = lo at HL HD
  generalize s.was % 4294967296 = ix at HT HD
  clear h hs hw hl hbx
  go_enter Tryz.func182, Tryz.ntmps182
  go_wp2
  go_region_held3 (fun W => W.cell? ⟨p, 0, none⟩ = some (.int .i64 s.st) ∧ W.cell? ⟨p, 1, none⟩ = some (.int .u64 s.was) ∧ W.cell? ⟨p, 2, none⟩ = some (.int .i64 T) ∧ W.cell? ⟨p, 3, none⟩ = some (.int .i64 S) ∧ W.cell? ⟨p, 4, none⟩ = some (.int .i64 L) ∧ W.cell? ⟨p, 5, none⟩ = some (.int .u64 G) ∧ W.cell? ⟨p, 6, none⟩ = some (.int .u64 s.low))
    ((first | (with_reducible exact stay_start HX.out) | (with_reducible assumption) | (with_reducible exact stay_past HX.out HB4.out) | (with_reducible exact stay_past HX.out HB2.out) | (with_reducible exact stay_set HX.out HB4.out _ _ _ _ _)))
    (first
      | (go_at_call 112; refine (HT.out _ (show (fun W : World => W.cell? ⟨p, 0, none⟩ = some (.int .i64 s.st) ∧ W.cell? ⟨p, 1, none⟩ = some (.int .u64 s.was) ∧ W.cell? ⟨p, 2, none⟩ = some (.int .i64 T) ∧ W.cell? ⟨p, 3, none⟩ = some (.int .i64 S) ∧ W.cell? ⟨p, 4, none⟩ = some (.int .i64 L) ∧ W.cell? ⟨p, 5, none⟩ = some (.int .u64 G) ∧ W.cell? ⟨p, 6, none⟩ = some (.int .u64 s.low)) _ by assumption).2.1).mono ?_; rintro e w1 ⟨rfl, rfl⟩)
      | (go_at_call 41; refine (Plan.Succ_any T S L G ix _).mono ?_; rintro e w2 ⟨rfl, hb⟩; have HB2 := Lib.hid (show Below (w.alloc (.cells #[.int .i64 0, .int .i64 0, .int .u64 0, .int .u64 0, .int .u64 0] 63)).heap.size (w.alloc (.cells #[.int .i64 0, .int .i64 0, .int .u64 0, .int .u64 0, .int .u64 0] 63)) w2 from (Below.refl _ _).drew.trans hb); clear hb)
      | (go_at_call 39; refine (HL.out _).mono ?_; rintro e w3 ⟨rfl, rfl⟩)
      | (go_at_call 184; refine (HD.out _ (show (fun W : World => W.cell? ⟨p, 0, none⟩ = some (.int .i64 s.st) ∧ W.cell? ⟨p, 1, none⟩ = some (.int .u64 s.was) ∧ W.cell? ⟨p, 2, none⟩ = some (.int .i64 T) ∧ W.cell? ⟨p, 3, none⟩ = some (.int .i64 S) ∧ W.cell? ⟨p, 4, none⟩ = some (.int .i64 L) ∧ W.cell? ⟨p, 5, none⟩ = some (.int .u64 G) ∧ W.cell? ⟨p, 6, none⟩ = some (.int .u64 s.low)) _ by assumption).1 (show (fun W : World => W.cell? ⟨p, 0, none⟩ = some (.int .i64 s.st) ∧ W.cell? ⟨p, 1, none⟩ = some (.int .u64 s.was) ∧ W.cell? ⟨p, 2, none⟩ = some (.int .i64 T) ∧ W.cell? ⟨p, 3, none⟩ = some (.int .i64 S) ∧ W.cell? ⟨p, 4, none⟩ = some (.int .i64 L) ∧ W.cell? ⟨p, 5, none⟩ = some (.int .u64 G) ∧ W.cell? ⟨p, 6, none⟩ = some (.int .u64 s.low)) _ by assumption).2.1).mono ?_; rintro e w4 ⟨rfl, hb⟩; have HB4 := Lib.hid (show Below (w.alloc (.cells #[.int .i64 0, .int .i64 0, .int .u64 0, .int .u64 0, .int .u64 0] 63)).heap.size (w.alloc (.cells #[.int .i64 0, .int .i64 0, .int .u64 0, .int .u64 0, .int .u64 0] 63)) w4 from HB2.out.trans (hb.mono HB2.out.size)); obtain ⟨⟨r0, r1, r2, r3, r4⟩, g0, g1, g2, g3, g4⟩ := res5 HB4.out; clear hb))
  obtain ⟨⟨s0, s1, s2, s3, s4⟩, hB⟩ := set5 HB4.out (.int .i64 d.1) (.int .i64 d.2.1) (.int .u64 d.2.2.1) (.int .u64 d.2.2.2.1) (.int .u64 d.2.2.2.2)
  have HB := Lib.hid hB
  clear hB r0 r1 r2 r3 r4 g0 g1 g2 g3 g4
  go_wp2
  exact bodyPost_ret (v := .tuple #[.agg #[.int .i64 d.1, .int .i64 d.2.1, .int .u64 d.2.2.1, .int .u64 d.2.2.2.1, .int .u64 d.2.2.2.2], .bool bo]) (by simp [results, Tryz.results182, go_sem, s0, s1, s2, s3, s4]) rfl ⟨rfl, HB.out⟩
theorem ok_new : Ok ⟨1, 0, 0⟩ := by refine ⟨.inr (.inl rfl), ⟨?_, ?_⟩, ?_, ?_⟩ <;> decide
theorem Pop_any (T S L G : Int) (w : World) : Calls Tryz.prog 72 #[.agg #[.int .i64 T, .int .i64 S, .int .i64 L, .int .u64 G]] w fun e w' => ∃ p, e = .returned (.pointer (some ⟨p, 0, none⟩)) ∧ Pops w' p T S L G ⟨1, 0, 0⟩ ∧ w.heap.size ≤ p ∧ Below w.heap.size w w' := by
  have HE := Lib.hid (show ∀ o cs, ((w.alloc o).alloc cs).heap[w.heap.size + 1]? = some cs from fun o cs => by have := new_heap (w.alloc o) cs; rwa [World.size_alloc] at this)
  obtain ⟨c_0, c_1, c_2, c_3⟩ := box4 w (.int .i64 T) (.int .i64 S) (.int .i64 L) (.int .u64 G) 24
  go_enter Tryz.func72, Tryz.ntmps72
  go_wp2
  go_ret
  exact ⟨_, rfl, ⟨HE.out _ _, ok_new⟩, by simp, ((Below.refl _ _).alloc (Nat.le_refl _) _).alloc (by simp) _⟩
end Go.Proofs.YtlagghghbpbcbaaGreatDoor.Pool
