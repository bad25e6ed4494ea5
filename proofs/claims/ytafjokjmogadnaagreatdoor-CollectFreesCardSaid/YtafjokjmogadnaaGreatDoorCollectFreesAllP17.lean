import Derived.Test.YtafjokjmogadnaaGreatDoorCollectFreesAllP1
import Derived.Test.YtafjokjmogadnaaGreatDoorCollectFreesAllP15
import Derived.Test.YtafjokjmogadnaaGreatDoorCollectFreesAllP16
import Derived.Test.YtafjokjmogadnaaGreatDoorCollectFreesAllP4
import Derived.Test.YtafjokjmogadnaaGreatDoorCollectFreesAllP9
import Derived.Deep.RegionHeld3
/- The tasks of package pool (layer 12), each held to plain arithmetic: what they ask for, what they become; all else in memory stays as it was. -/
namespace Go.Proofs.YtafjokjmogadnaaGreatDoor.Pool
set_option maxRecDepth 20000
open Go.ChangeShapes Go.WideShapes Go.RowKit CM DM PM PoM Lay Plan Go.Proofs.YtafjokjmogadnaaGreatDoor.Task
set_option linter.unusedVariables false
set_option linter.unusedSimpArgs false

/-- What a task is asked for. -/
def ToldD (w : World) (d : D) (more : Bool) (e : Ending) (w' : World) : Prop :=
  e = .returned (.tuple #[.agg #[.int .i64 d.1, .int .i64 d.2.1, .int .u64 d.2.2.1, .int .u64 d.2.2.2.1, .int .u64 d.2.2.2.2], .bool more]) ∧ Below w.heap.size w w'
def Told (w : World) (x : Option D) : Ending → World → Prop := ToldD w (x.getD (0, 0, 0, 0, 0)) x.isSome

theorem past3 {w : World} {p j : Nat} {v : Value} (h : w.cell? ⟨p, j, none⟩ = some v) (o1 o2 o3 : Obj) : (((w.alloc o1).alloc o2).alloc o3).cell? ⟨p, j, none⟩ = some v :=
  cell_later (box_below _ o3) (cell_later (box_below _ o2) (cell_later (box_below w o1) h))
theorem below3 (w : World) (o1 o2 o3 : Obj) : Below w.heap.size w (((w.alloc o1).alloc o2).alloc o3) := (((Below.refl _ _).alloc (Nat.le_refl _) _).alloc (by simp) _).alloc (by simp; omega) _
theorem deed_look {p : Nat} {w : World} (h0 : w.cell? ⟨p, 0, none⟩ = some (.int .i64 1)) (kd i a b y v : Int) : Calls Tryz.prog 148 #[.pointer (some ⟨p, 0, none⟩), .agg #[.int .i64 kd, .int .i64 i, .int .u64 a, .int .u64 b, .int .u64 y], .int .u64 v] w (Told w (some (1, 3, 0, 0, 0))) := by
  have hp : p < w.heap.size := World.block_lt_of_cell? _ _ h0
  have H3 := past3 h0
  have HB := Lib.hid (below3 w)
  go_enter Tryz.func148, Tryz.ntmps148
  go_wp2
  exact bodyPost_ret (v := .tuple #[.agg #[.int .i64 1, .int .i64 3, .int .u64 0, .int .u64 0, .int .u64 0], .bool true]) (by simp [results, Tryz.results148, go_sem]) rfl ⟨rfl, HB.out _ _ _⟩
theorem deed_link {p : Nat} {w : World} (h0 : w.cell? ⟨p, 0, none⟩ = some (.int .i64 2)) (kd i a b y v : Int) : Calls Tryz.prog 148 #[.pointer (some ⟨p, 0, none⟩), .agg #[.int .i64 kd, .int .i64 i, .int .u64 a, .int .u64 b, .int .u64 y], .int .u64 v] w (Told w (some (kd, i, a, b, y))) := by
  have hp : p < w.heap.size := World.block_lt_of_cell? _ _ h0
  have H3 := past3 h0
  have HB := Lib.hid (below3 w)
  go_enter Tryz.func148, Tryz.ntmps148
  go_wp2
  exact bodyPost_ret (v := .tuple #[.agg #[.int .i64 kd, .int .i64 i, .int .u64 a, .int .u64 b, .int .u64 y], .bool true]) (by simp [results, Tryz.results148, go_sem]) rfl ⟨rfl, HB.out _ _ _⟩
theorem deed_done {p : Nat} {w : World} (h0 : w.cell? ⟨p, 0, none⟩ = some (.int .i64 0)) (kd i a b y v : Int) : Calls Tryz.prog 148 #[.pointer (some ⟨p, 0, none⟩), .agg #[.int .i64 kd, .int .i64 i, .int .u64 a, .int .u64 b, .int .u64 y], .int .u64 v] w (Told w none) := by
  have hp : p < w.heap.size := World.block_lt_of_cell? _ _ h0
  have H3 := past3 h0
  have HB := Lib.hid (below3 w)
  go_enter Tryz.func148, Tryz.ntmps148
  go_wp2
  exact bodyPost_ret (v := .tuple #[.agg #[.int .i64 0, .int .i64 0, .int .u64 0, .int .u64 0, .int .u64 0], .bool false]) (by simp [results, Tryz.results148, go_sem]) rfl ⟨rfl, HB.out _ _ _⟩
theorem deed_turn {p : Nat} {w : World} {s : Int} (h0 : w.cell? ⟨p, 0, none⟩ = some (.int .i64 3)) (h1 : w.cell? ⟨p, 1, none⟩ = some (.int .u64 s)) (hs : 0 ≤ s ∧ s < 18446744073709551616) (kd i a b y v : Int) (hv : 0 ≤ v ∧ v < 18446744073709551616) :
    Calls Tryz.prog 148 #[.pointer (some ⟨p, 0, none⟩), .agg #[.int .i64 kd, .int .i64 i, .int .u64 a, .int .u64 b, .int .u64 y], .int .u64 v] w (Told w (some (3, 3, s, turnI s v, 0))) := by
  have hp : p < w.heap.size := World.block_lt_of_cell? _ _ h0
  have H3 := past3 h0
  have H4 := past3 h1
  have HB := Lib.hid (below3 w)
  have HH := Lib.hid fun W : World => Field.High_any s hs.1 hs.2 W
  have HP := Lib.hid fun W : World => Field.Pair_any (s / 4294967296 + 1) v (by omega) hv.1 hv.2 W
  have e1 : IntKind.u64.wrap (s / 4294967296 + 1) = s / 4294967296 + 1 := by rw [IntKind.wrap_u64]; omega
  have e2 : (s / 4294967296 + 1) % 4294967296 * 4294967296 + v % 4294967296 = turnI s v := rfl
  rw [e2] at HP
  generalize turnI s v = r at HP ⊢
  clear hs hv e2
  go_enter Tryz.func148, Tryz.ntmps148
  go_wp2
  go_region_held3 (fun w' => (w'.cell? ⟨p, 1, none⟩ = some (.int .u64 s)))
    ((first | assumption | exact cell_later ((Below.refl _ _).drew) (H4 _ _ _)))
    (first
      | (go_at_call 108; refine (HH.out _).mono ?_; rintro e w1 ⟨rfl, rfl⟩)
      | (go_at_call 36; refine (HP.out _).mono ?_; rintro e w2 ⟨rfl, rfl⟩))
  go_wp2
  exact bodyPost_ret (v := .tuple #[.agg #[.int .i64 3, .int .i64 3, .int .u64 s, .int .u64 r, .int .u64 0], .bool true]) (by simp [results, Tryz.results148, go_sem]) rfl ⟨rfl, (HB.out _ _ _).drew⟩

/-- The words of a task: its step, its head, its plan, its last word. -/
def Box (w : World) (p : Nat) (s : St) (T S L G : Int) (v : Value) : Prop :=
  w.cell? ⟨p, 0, none⟩ = some (.int .i64 s.st) ∧ w.cell? ⟨p, 1, none⟩ = some (.int .u64 s.was) ∧ w.cell? ⟨p, 2, none⟩ = some (.int .i64 T) ∧ w.cell? ⟨p, 3, none⟩ = some (.int .i64 S) ∧ w.cell? ⟨p, 4, none⟩ = some (.int .i64 L) ∧
    w.cell? ⟨p, 5, none⟩ = some (.int .u64 G) ∧ w.cell? ⟨p, 6, none⟩ = some v
theorem Box.later {w w' : World} {p : Nat} {s : St} {T S L G : Int} {v : Value} (h : Box w p s T S L G v) (hb : Below w.heap.size w w') : Box w' p s T S L G v :=
  ⟨cell_later hb h.1, cell_later hb h.2.1, cell_later hb h.2.2.1, cell_later hb h.2.2.2.1, cell_later hb h.2.2.2.2.1, cell_later hb h.2.2.2.2.2.1, cell_later hb h.2.2.2.2.2.2⟩
theorem box_of_heap {w : World} {p : Nat} {s : St} {T S L G : Int} {v : Value} {t : TypeId} (h : w.heap[p]? = some (.cells #[.int .i64 s.st, .int .u64 s.was, .int .i64 T, .int .i64 S, .int .i64 L, .int .u64 G, v] t (0, 0))) : Box w p s T S L G v := by
  refine ⟨?_, ?_, ?_, ?_, ?_, ?_, ?_⟩
  · have := (cell_heap h 0).1; simpa using this
  · have := (cell_heap h 1).1; simpa using this
  · have := (cell_heap h 2).1; simpa using this
  · have := (cell_heap h 3).1; simpa using this
  · have := (cell_heap h 4).1; simpa using this
  · have := (cell_heap h 5).1; simpa using this
  · have := (cell_heap h 6).1; simpa using this
/-- One that gives the slot i back. -/
def Pushes (w : World) (p : Nat) (T S L G i : Int) (s : St) : Prop := w.heap[p]? = some (.cells #[.int .i64 s.st, .int .u64 s.was, .int .i64 T, .int .i64 S, .int .i64 L, .int .u64 G, .int .i64 i] 145 (0, 0)) ∧ Ok s
theorem Pushes.only {w w' : World} {p : Nat} {T S L G i : Int} {s : St} {R : Nat → Prop} (h : Pushes w p T S L G i s) (ho : Only R w w') (hp : ¬ R p) : Pushes w' p T S L G i s := ⟨ho.heap h.1 hp, h.2⟩
theorem Pushes.lt {w : World} {p : Nat} {T S L G i : Int} {s : St} (h : Pushes w p T S L G i s) : p < w.heap.size := (Array.getElem?_eq_some_iff.1 h.1).1

theorem goOn_any {p : Nat} {w : World} {s : St} {x2 x3 x4 x5 x6 : Value} {t : TypeId} (h : w.heap[p]? = some (.cells #[.int .i64 s.st, .int .u64 s.was, x2, x3, x4, x5, x6] t (0, 0))) (hs : s.st = 0 ∨ s.st = 1 ∨ s.st = 2 ∨ s.st = 3) (f : Int) : Calls Tryz.prog 149 #[.pointer (some ⟨p, 0, none⟩), .int .u64 f] w fun e w' =>
    e = .returned (.tuple #[]) ∧ w'.heap[p]? = some (.cells #[.int .i64 (pushT s f).st, .int .u64 (pushT s f).was, x2, x3, x4, x5, x6] t (0, 0)) ∧ Only (fun k => k = p) w w' := by
  obtain ⟨st, wa, lo⟩ := s
  simp only at h hs
  have c0 := (cell_heap h 0).1
  have c1 := (cell_heap h 1).1
  have f0 := (cell_heap h 0).2
  have f1 := (cell_heap h 1).2
  simp at c0 c1
  have hO : ∀ j v, Only (fun k => k = p) w (w.setCell ⟨p, j, none⟩ v) := fun j v => only_setCell (R := fun k => k = p) w (p := ⟨p, j, none⟩) rfl v
  have hS : ∀ v, (w.setCell ⟨p, 0, none⟩ (.int .i64 v)).heap[p]? = some (.cells #[.int .i64 v, .int .u64 wa, x2, x3, x4, x5, x6] t (0, 0)) := fun v => by simpa using set_heap (j := 0) h (.int .i64 v)
  rcases hs with rfl | rfl | rfl | rfl
  · rw [pushT_0]
    have HE := Lib.hid (And.intro (hS 0) (hO 0 (.int .i64 0)))
    clear h hO hS
    go_enter Tryz.func149, Tryz.ntmps149
    go_wp2
    refine bodyPost_end (results_none rfl _ _ _) rfl ?_
    exact ⟨rfl, HE.out⟩
  · rw [pushT_1]
    have HE := Lib.hid (show ((w.setCell ⟨p, 0, none⟩ (.int .i64 2)).setCell ⟨p, 1, none⟩ (.int .u64 f)).heap[p]? = some (.cells #[.int .i64 2, .int .u64 f, x2, x3, x4, x5, x6] t (0, 0)) ∧ Only (fun k => k = p) w ((w.setCell ⟨p, 0, none⟩ (.int .i64 2)).setCell ⟨p, 1, none⟩ (.int .u64 f)) from
      ⟨by simpa using set_heap (j := 1) (hS 2) (.int .u64 f), (hO 0 _).setCell (.inl rfl) _⟩)
    clear h hO hS
    go_enter Tryz.func149, Tryz.ntmps149
    go_wp2
    refine bodyPost_end (results_none rfl _ _ _) rfl ?_
    exact ⟨rfl, HE.out⟩
  · rw [pushT_2]
    have HE := Lib.hid (And.intro (hS 3) (hO 0 (.int .i64 3)))
    clear h hO hS
    go_enter Tryz.func149, Tryz.ntmps149
    go_wp2
    refine bodyPost_end (results_none rfl _ _ _) rfl ?_
    exact ⟨rfl, HE.out⟩
  · by_cases he : f = wa
    · subst he
      rw [pushT_3]
      have HE := Lib.hid (And.intro (hS 0) (hO 0 (.int .i64 0)))
      have hb : (f != f) = false := by simp
      clear h hO hS
      go_enter Tryz.func149, Tryz.ntmps149
      go_wp2
      refine bodyPost_end (results_none rfl _ _ _) rfl ?_
      exact ⟨rfl, HE.out⟩
    · rw [pushT_3n he]
      have HE := Lib.hid (And.intro (hS 1) (hO 0 (.int .i64 1)))
      have hb : (f != wa) = true := by simpa using he
      clear h hO hS
      go_enter Tryz.func149, Tryz.ntmps149
      go_wp2
      refine bodyPost_end (results_none rfl _ _ _) rfl ?_
      exact ⟨rfl, HE.out⟩
theorem Push_tell {p : Nat} {w : World} {T S L G i : Int} {s : St} (h : Pushes w p T S L G i s) {f : Int} (hf : 0 ≤ f ∧ f < 18446744073709551616) : Calls Tryz.prog 147 #[.pointer (some ⟨p, 0, none⟩), .int .u64 f] w fun e w' =>
    e = .returned (.tuple #[]) ∧ Pushes w' p T S L G i (pushT s f) ∧ Only (fun k => k = p) w w' := by
  have HG := Lib.hid (goOn_any h.1 h.2.1 f)
  have HK := Lib.hid (pushT_ok h.2 hf)
  clear h hf
  go_enter Tryz.func147, Tryz.ntmps147
  go_wp2_with fail
  refine (HG.out).mono ?_
  rintro e w' ⟨rfl, h1, h2⟩
  go_wp2
  refine bodyPost_end (results_none rfl _ _ _) rfl ?_
  exact ⟨rfl, ⟨h1, HK.out⟩, h2⟩
end Go.Proofs.YtafjokjmogadnaaGreatDoor.Pool

/- What the tasks of package pool ask for; new ones. -/
namespace Go.Proofs.YtafjokjmogadnaaGreatDoor.Pool
set_option maxRecDepth 20000
open Go.ChangeShapes Go.WideShapes Go.RowKit CM DM PM PoM Lay Plan Go.Proofs.YtafjokjmogadnaaGreatDoor.Task
set_option linter.unusedVariables false
set_option linter.unusedSimpArgs false

/-- All that the region reads, in any later world. -/
theorem stay {w W : World} {p : Nat} {s : St} {T S L G : Int} {v : Value} (h : Box w p s T S L G v) (hb : Below w.heap.size w W) : W.cell? ⟨p, 0, none⟩ = some (.int .i64 s.st) ∧ W.cell? ⟨p, 1, none⟩ = some (.int .u64 s.was) ∧ W.cell? ⟨p, 2, none⟩ = some (.int .i64 T) ∧ W.cell? ⟨p, 3, none⟩ = some (.int .i64 S) ∧ W.cell? ⟨p, 4, none⟩ = some (.int .i64 L) ∧ W.cell? ⟨p, 5, none⟩ = some (.int .u64 G) ∧ W.cell? ⟨p, 6, none⟩ = some v := h.later hb
theorem stay_past {w W : World} {p : Nat} {s : St} {T S L G : Int} {v : Value} (h : Box w p s T S L G v) (hb : Below (w.alloc (.cells #[.int .i64 0, .int .i64 0, .int .u64 0, .int .u64 0, .int .u64 0] 34)).heap.size (w.alloc (.cells #[.int .i64 0, .int .i64 0, .int .u64 0, .int .u64 0, .int .u64 0] 34)) W) : W.cell? ⟨p, 0, none⟩ = some (.int .i64 s.st) ∧ W.cell? ⟨p, 1, none⟩ = some (.int .u64 s.was) ∧ W.cell? ⟨p, 2, none⟩ = some (.int .i64 T) ∧ W.cell? ⟨p, 3, none⟩ = some (.int .i64 S) ∧ W.cell? ⟨p, 4, none⟩ = some (.int .i64 L) ∧ W.cell? ⟨p, 5, none⟩ = some (.int .u64 G) ∧ W.cell? ⟨p, 6, none⟩ = some v := stay h ((box_below _ _).trans (hb.mono (by simp)))
theorem stay_start {w : World} {p : Nat} {s : St} {T S L G : Int} {v : Value} (h : Box w p s T S L G v) : (fun W : World => W.cell? ⟨p, 0, none⟩ = some (.int .i64 s.st) ∧ W.cell? ⟨p, 1, none⟩ = some (.int .u64 s.was) ∧ W.cell? ⟨p, 2, none⟩ = some (.int .i64 T) ∧ W.cell? ⟨p, 3, none⟩ = some (.int .i64 S) ∧ W.cell? ⟨p, 4, none⟩ = some (.int .i64 L) ∧ W.cell? ⟨p, 5, none⟩ = some (.int .u64 G) ∧ W.cell? ⟨p, 6, none⟩ = some v) (w.alloc (.cells #[.int .i64 0, .int .i64 0, .int .u64 0, .int .u64 0, .int .u64 0] 34)).drew := stay_past h (Below.refl _ _).drew
theorem stay_set {w W : World} {p : Nat} {s : St} {T S L G : Int} {v : Value} (h : Box w p s T S L G v) (hb : Below (w.alloc (.cells #[.int .i64 0, .int .i64 0, .int .u64 0, .int .u64 0, .int .u64 0] 34)).heap.size (w.alloc (.cells #[.int .i64 0, .int .i64 0, .int .u64 0, .int .u64 0, .int .u64 0] 34)) W) (u0 u1 u2 u3 u4 : Value) :
    (fun W : World => W.cell? ⟨p, 0, none⟩ = some (.int .i64 s.st) ∧ W.cell? ⟨p, 1, none⟩ = some (.int .u64 s.was) ∧ W.cell? ⟨p, 2, none⟩ = some (.int .i64 T) ∧ W.cell? ⟨p, 3, none⟩ = some (.int .i64 S) ∧ W.cell? ⟨p, 4, none⟩ = some (.int .i64 L) ∧ W.cell? ⟨p, 5, none⟩ = some (.int .u64 G) ∧ W.cell? ⟨p, 6, none⟩ = some v) (((((W.setCell ⟨w.heap.size, 0, none⟩ u0).setCell ⟨w.heap.size, 1, none⟩ u1).setCell ⟨w.heap.size, 2, none⟩ u2).setCell ⟨w.heap.size, 3, none⟩ u3).setCell ⟨w.heap.size, 4, none⟩ u4) :=
  stay h (set5 hb u0 u1 u2 u3 u4).2

theorem deed_is {p : Nat} {w : World} {s : St} {x : Option D} {kd i a b y v : Int} (h0 : w.cell? ⟨p, 0, none⟩ = some (.int .i64 s.st)) (h1 : w.cell? ⟨p, 1, none⟩ = some (.int .u64 s.was)) (hs : Ok s) (hv : 0 ≤ v ∧ v < 18446744073709551616)
    (hx : x = if s.st = 1 then some (1, 3, 0, 0, 0) else if s.st = 2 then some (kd, i, a, b, y) else if s.st = 3 then some (3, 3, s.was, turnI s.was v, 0) else none) :
    Calls Tryz.prog 148 #[.pointer (some ⟨p, 0, none⟩), .agg #[.int .i64 kd, .int .i64 i, .int .u64 a, .int .u64 b, .int .u64 y], .int .u64 v] w (Told w x) := by
  obtain ⟨st, wa, lo⟩ := s
  obtain ⟨hs, hw, hl⟩ := hs
  simp only at h0 h1 hs hw hl hx
  subst hx
  rcases hs with rfl | rfl | rfl | rfl
  · exact deed_done h0 kd i a b y v
  · exact deed_look h0 kd i a b y v
  · exact deed_link h0 kd i a b y v
  · exact deed_turn h0 h1 hw kd i a b y v hv
set_option maxRecDepth 10000 in
theorem Push_next {p : Nat} {w : World} {T S L G i : Int} {s : St} (h : Pushes w p T S L G i s) : Calls Tryz.prog 146 #[.pointer (some ⟨p, 0, none⟩)] w (Told w (pushA T L i s)) := by
  have hbx := box_of_heap h.1
  obtain ⟨hs, hw, hl⟩ := h.2
  have HX := Lib.hid hbx
  have HL := Lib.hid fun W : World => Field.Low_any s.was hw.1 hw.2 W
  have hu : 0 ≤ IntKind.u64.wrap i ∧ IntKind.u64.wrap i < 18446744073709551616 := by rw [IntKind.wrap_u64]; omega
  have ht : turnI s.was (IntKind.u64.wrap i) = turnI s.was i := by rw [IntKind.wrap_u64]; unfold turnI; omega
  have HD := Lib.hid fun (W : World) (h0 : W.cell? ⟨p, 0, none⟩ = some (.int .i64 s.st)) (h1 : W.cell? ⟨p, 1, none⟩ = some (.int .u64 s.was)) =>
    deed_is (x := pushA T L i s) (kd := 2) (i := atI T L i 5) (a := s.was % 4294967296) (b := 0) (y := 0) (v := IntKind.u64.wrap i) h0 h1 h.2 hu (by rw [ht]; rfl)
  unfold Told at HD ⊢
  generalize (pushA T L i s).isSome = bo at HD ⊢
  generalize (pushA T L i s).getD (0, 0, 0, 0, 0) = d at HD ⊢
  generalize s.was % 4294967296 = lo at HL HD
  clear h hs hw hl hbx hu ht
  go_enter Tryz.func146, Tryz.ntmps146
  go_wp2
  go_region_held3 (fun W => W.cell? ⟨p, 0, none⟩ = some (.int .i64 s.st) ∧ W.cell? ⟨p, 1, none⟩ = some (.int .u64 s.was) ∧ W.cell? ⟨p, 2, none⟩ = some (.int .i64 T) ∧ W.cell? ⟨p, 3, none⟩ = some (.int .i64 S) ∧ W.cell? ⟨p, 4, none⟩ = some (.int .i64 L) ∧ W.cell? ⟨p, 5, none⟩ = some (.int .u64 G) ∧ W.cell? ⟨p, 6, none⟩ = some (.int .i64 i))
    ((first | (with_reducible exact stay_start HX.out) | (with_reducible assumption) | (with_reducible exact stay_past HX.out HB4.out) | (with_reducible exact stay_past HX.out HB2.out) | (with_reducible exact stay_set HX.out HB4.out _ _ _ _ _)))
    (first
      | (go_at_call 43; refine (Plan.Succ_any T S L G i _).mono ?_; rintro e w2 ⟨rfl, hb⟩; have HB2 := Lib.hid (show Below (w.alloc (.cells #[.int .i64 0, .int .i64 0, .int .u64 0, .int .u64 0, .int .u64 0] 34)).heap.size (w.alloc (.cells #[.int .i64 0, .int .i64 0, .int .u64 0, .int .u64 0, .int .u64 0] 34)) w2 from (Below.refl _ _).drew.trans hb); clear hb)
      | (go_at_call 42; refine (HL.out _).mono ?_; rintro e w3 ⟨rfl, rfl⟩)
      | (go_at_call 148; refine (HD.out _ (show (fun W : World => W.cell? ⟨p, 0, none⟩ = some (.int .i64 s.st) ∧ W.cell? ⟨p, 1, none⟩ = some (.int .u64 s.was) ∧ W.cell? ⟨p, 2, none⟩ = some (.int .i64 T) ∧ W.cell? ⟨p, 3, none⟩ = some (.int .i64 S) ∧ W.cell? ⟨p, 4, none⟩ = some (.int .i64 L) ∧ W.cell? ⟨p, 5, none⟩ = some (.int .u64 G) ∧ W.cell? ⟨p, 6, none⟩ = some (.int .i64 i)) _ by assumption).1 (show (fun W : World => W.cell? ⟨p, 0, none⟩ = some (.int .i64 s.st) ∧ W.cell? ⟨p, 1, none⟩ = some (.int .u64 s.was) ∧ W.cell? ⟨p, 2, none⟩ = some (.int .i64 T) ∧ W.cell? ⟨p, 3, none⟩ = some (.int .i64 S) ∧ W.cell? ⟨p, 4, none⟩ = some (.int .i64 L) ∧ W.cell? ⟨p, 5, none⟩ = some (.int .u64 G) ∧ W.cell? ⟨p, 6, none⟩ = some (.int .i64 i)) _ by assumption).2.1).mono ?_; rintro e w4 ⟨rfl, hb⟩; have HB4 := Lib.hid (show Below (w.alloc (.cells #[.int .i64 0, .int .i64 0, .int .u64 0, .int .u64 0, .int .u64 0] 34)).heap.size (w.alloc (.cells #[.int .i64 0, .int .i64 0, .int .u64 0, .int .u64 0, .int .u64 0] 34)) w4 from HB2.out.trans (hb.mono HB2.out.size)); obtain ⟨⟨r0, r1, r2, r3, r4⟩, g0, g1, g2, g3, g4⟩ := res5 HB4.out; clear hb))
  obtain ⟨⟨s0, s1, s2, s3, s4⟩, hB⟩ := set5 HB4.out (.int .i64 d.1) (.int .i64 d.2.1) (.int .u64 d.2.2.1) (.int .u64 d.2.2.2.1) (.int .u64 d.2.2.2.2)
  have HB := Lib.hid hB
  clear hB r0 r1 r2 r3 r4 g0 g1 g2 g3 g4
  go_wp2
  exact bodyPost_ret (v := .tuple #[.agg #[.int .i64 d.1, .int .i64 d.2.1, .int .u64 d.2.2.1, .int .u64 d.2.2.2.1, .int .u64 d.2.2.2.2], .bool bo]) (by simp [results, Tryz.results146, go_sem, s0, s1, s2, s3, s4]) rfl ⟨rfl, HB.out⟩
theorem ok_new2 : Ok ⟨1, 0, 0⟩ := by refine ⟨.inr (.inl rfl), ⟨?_, ?_⟩, ?_, ?_⟩ <;> decide
theorem Push_any (T S L G i : Int) (w : World) : Calls Tryz.prog 102 #[.agg #[.int .i64 T, .int .i64 S, .int .i64 L, .int .u64 G], .int .i64 i] w fun e w' => ∃ p, e = .returned (.pointer (some ⟨p, 0, none⟩)) ∧ Pushes w' p T S L G i ⟨1, 0, 0⟩ ∧ w.heap.size ≤ p ∧ Below w.heap.size w w' := by
  have HE := Lib.hid (show ∀ o cs, ((w.alloc o).alloc cs).heap[w.heap.size + 1]? = some cs from fun o cs => by have := new_heap (w.alloc o) cs; rwa [World.size_alloc] at this)
  obtain ⟨c_0, c_1, c_2, c_3⟩ := box4 w (.int .i64 T) (.int .i64 S) (.int .i64 L) (.int .u64 G) 24
  go_enter Tryz.func102, Tryz.ntmps102
  go_wp2
  go_ret
  exact ⟨_, rfl, ⟨HE.out _ _, ok_new2⟩, by simp, ((Below.refl _ _).alloc (Nat.le_refl _) _).alloc (by simp) _⟩
end Go.Proofs.YtafjokjmogadnaaGreatDoor.Pool
