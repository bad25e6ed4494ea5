/- The tasks of package pool (layer 12), each held to plain arithmetic: what they ask for, what they become; all else in memory stays as it was. -/
import Derived.Test.YtcnbbflgccdfjaaPoolMath
import Derived.Test.YtcnbbflgccdfjaaFieldWalks
import Derived.Test.YtcnbbflgccdfjaaPlanWalks
import Derived.Test.YtcnbbflgccdfjaaCellsWalks
import Derived.Test.YtcnbbflgccdfjaaDeeds
import Derived.Deep.RegionHeld3
namespace Go.Proofs.Ytcnbbflgccdfjaa.Pool
set_option maxRecDepth 20000
open Go.ChangeShapes Go.WideShapes Go.RowKit CM DM PM PoM Lay Plan Go.Proofs.Ytcnbbflgccdfjaa.Task
set_option linter.unusedVariables false
set_option linter.unusedSimpArgs false

/-- What a task is asked for. -/
def ToldD (w : World) (d : D) (more : Bool) (e : Ending) (w' : World) : Prop :=
  e = .returned (.tuple #[.agg #[.int .i64 d.1, .int .i64 d.2.1, .int .u64 d.2.2.1, .int .u64 d.2.2.2.1, .int .u64 d.2.2.2.2], .bool more]) ∧ Below w.heap.size w w'
def Told (w : World) (x : Option D) : Ending → World → Prop := ToldD w (x.getD (0, 0, 0, 0, 0)) x.isSome

theorem past3 {w : World} {p j : Nat} {v : Value} (h : w.cell? ⟨p, j, none⟩ = some v) (o1 o2 o3 : Obj) : (((w.alloc o1).alloc o2).alloc o3).cell? ⟨p, j, none⟩ = some v :=
  cell_later (box_below _ o3) (cell_later (box_below _ o2) (cell_later (box_below w o1) h))
theorem below3 (w : World) (o1 o2 o3 : Obj) : Below w.heap.size w (((w.alloc o1).alloc o2).alloc o3) := (((Below.refl _ _).alloc (Nat.le_refl _) _).alloc (by simp) _).alloc (by simp; omega) _
theorem deed_look {p : Nat} {w : World} (h0 : w.cell? ⟨p, 0, none⟩ = some (.int .i64 1)) (kd i a b y v : Int) : Calls Try.prog 56 #[.pointer (some ⟨p, 0, none⟩), .agg #[.int .i64 kd, .int .i64 i, .int .u64 a, .int .u64 b, .int .u64 y], .int .u64 v] w (Told w (some (1, 3, 0, 0, 0))) := by
  have hp : p < w.heap.size := World.block_lt_of_cell? _ _ h0
  have H3 := past3 h0
  have HB := Lib.hid (below3 w)
  go_enter Try.func56, Try.ntmps56
  go_wp2
  exact bodyPost_ret (v := .tuple #[.agg #[.int .i64 1, .int .i64 3, .int .u64 0, .int .u64 0, .int .u64 0], .bool true]) (by simp [results, Try.results56, go_sem]) rfl ⟨rfl, HB.out _ _ _⟩
theorem deed_link {p : Nat} {w : World} (h0 : w.cell? ⟨p, 0, none⟩ = some (.int .i64 2)) (kd i a b y v : Int) : Calls Try.prog 56 #[.pointer (some ⟨p, 0, none⟩), .agg #[.int .i64 kd, .int .i64 i, .int .u64 a, .int .u64 b, .int .u64 y], .int .u64 v] w (Told w (some (kd, i, a, b, y))) := by
  have hp : p < w.heap.size := World.block_lt_of_cell? _ _ h0
  have H3 := past3 h0
  have HB := Lib.hid (below3 w)
  go_enter Try.func56, Try.ntmps56
  go_wp2
  exact bodyPost_ret (v := .tuple #[.agg #[.int .i64 kd, .int .i64 i, .int .u64 a, .int .u64 b, .int .u64 y], .bool true]) (by simp [results, Try.results56, go_sem]) rfl ⟨rfl, HB.out _ _ _⟩
theorem deed_done {p : Nat} {w : World} (h0 : w.cell? ⟨p, 0, none⟩ = some (.int .i64 0)) (kd i a b y v : Int) : Calls Try.prog 56 #[.pointer (some ⟨p, 0, none⟩), .agg #[.int .i64 kd, .int .i64 i, .int .u64 a, .int .u64 b, .int .u64 y], .int .u64 v] w (Told w none) := by
  have hp : p < w.heap.size := World.block_lt_of_cell? _ _ h0
  have H3 := past3 h0
  have HB := Lib.hid (below3 w)
  go_enter Try.func56, Try.ntmps56
  go_wp2
  exact bodyPost_ret (v := .tuple #[.agg #[.int .i64 0, .int .i64 0, .int .u64 0, .int .u64 0, .int .u64 0], .bool false]) (by simp [results, Try.results56, go_sem]) rfl ⟨rfl, HB.out _ _ _⟩
theorem deed_turn {p : Nat} {w : World} {s : Int} (h0 : w.cell? ⟨p, 0, none⟩ = some (.int .i64 3)) (h1 : w.cell? ⟨p, 1, none⟩ = some (.int .u64 s)) (hs : 0 ≤ s ∧ s < 18446744073709551616) (kd i a b y v : Int) (hv : 0 ≤ v ∧ v < 18446744073709551616) :
    Calls Try.prog 56 #[.pointer (some ⟨p, 0, none⟩), .agg #[.int .i64 kd, .int .i64 i, .int .u64 a, .int .u64 b, .int .u64 y], .int .u64 v] w (Told w (some (3, 3, s, turnI s v, 0))) := by
  have hp : p < w.heap.size := World.block_lt_of_cell? _ _ h0
  have H3 := past3 h0
  have H4 := past3 h1
  have HB := Lib.hid (below3 w)
  have HH := Lib.hid fun W : World => Field.High_any s hs.1 hs.2 W
  have HP := Lib.hid fun W : World => Field.Pair_any (s / 4294967296 + 1) v (by omega) hv.1 hv.2 W
  have e1 : IntKind.u64.wrap (s / 4294967296 + 1) = s / 4294967296 + 1 := by rw [IntKind.wrap_u64]; omega
  have e2 : (s / 4294967296 + 1) % 4294967296 * 4294967296 + v % 4294967296 = turnI s v := rfl
  rw [e2] at HP
  generalize turnI s v = r at HP ⊢
  clear hs hv e2
  go_enter Try.func56, Try.ntmps56
  go_wp2
  go_region_held3 (fun w' => (w'.cell? ⟨p, 1, none⟩ = some (.int .u64 s)))
    ((first | assumption | exact cell_later ((Below.refl _ _).drew) (H4 _ _ _)))
    (first
      | (go_at_call 27; refine (HH.out _).mono ?_; rintro e w1 ⟨rfl, rfl⟩)
      | (go_at_call 25; refine (HP.out _).mono ?_; rintro e w2 ⟨rfl, rfl⟩))
  go_wp2
  exact bodyPost_ret (v := .tuple #[.agg #[.int .i64 3, .int .i64 3, .int .u64 s, .int .u64 r, .int .u64 0], .bool true]) (by simp [results, Try.results56, go_sem]) rfl ⟨rfl, (HB.out _ _ _).drew⟩

/-- The words of a task: its step, its head, its plan, its last word. -/
def Box (w : World) (p : Nat) (s : St) (T S L G : Int) (v : Value) : Prop :=
  w.cell? ⟨p, 0, none⟩ = some (.int .i64 s.st) ∧ w.cell? ⟨p, 1, none⟩ = some (.int .u64 s.was) ∧ w.cell? ⟨p, 2, none⟩ = some (.int .i64 T) ∧ w.cell? ⟨p, 3, none⟩ = some (.int .i64 S) ∧ w.cell? ⟨p, 4, none⟩ = some (.int .i64 L) ∧
    w.cell? ⟨p, 5, none⟩ = some (.int .u64 G) ∧ w.cell? ⟨p, 6, none⟩ = some v
theorem Box.later {w w' : World} {p : Nat} {s : St} {T S L G : Int} {v : Value} (h : Box w p s T S L G v) (hb : Below w.heap.size w w') : Box w' p s T S L G v :=
  ⟨cell_later hb h.1, cell_later hb h.2.1, cell_later hb h.2.2.1, cell_later hb h.2.2.2.1, cell_later hb h.2.2.2.2.1, cell_later hb h.2.2.2.2.2.1, cell_later hb h.2.2.2.2.2.2⟩
theorem box_of_heap {w : World} {p : Nat} {s : St} {T S L G : Int} {v : Value} {t : TypeId} (h : w.heap[p]? = some (.cells #[.int .i64 s.st, .int .u64 s.was, .int .i64 T, .int .i64 S, .int .i64 L, .int .u64 G, v] t (0, 0))) : Box w p s T S L G v := by
  refine ⟨?_, ?_, ?_, ?_, ?_, ?_, ?_⟩
  · have := (cell_heap h 0).1; simpa using this
  · have := (cell_heap h 1).1; simpa using this
  · have := (cell_heap h 2).1; simpa using this
  · have := (cell_heap h 3).1; simpa using this
  · have := (cell_heap h 4).1; simpa using this
  · have := (cell_heap h 5).1; simpa using this
  · have := (cell_heap h 6).1; simpa using this
/-- One that gives the slot i back. -/
def Pushes (w : World) (p : Nat) (T S L G i : Int) (s : St) : Prop := w.heap[p]? = some (.cells #[.int .i64 s.st, .int .u64 s.was, .int .i64 T, .int .i64 S, .int .i64 L, .int .u64 G, .int .i64 i] 60 (0, 0)) ∧ Ok s
theorem Pushes.only {w w' : World} {p : Nat} {T S L G i : Int} {s : St} {R : Nat → Prop} (h : Pushes w p T S L G i s) (ho : Only R w w') (hp : ¬ R p) : Pushes w' p T S L G i s := ⟨ho.heap h.1 hp, h.2⟩
theorem Pushes.lt {w : World} {p : Nat} {T S L G i : Int} {s : St} (h : Pushes w p T S L G i s) : p < w.heap.size := (Array.getElem?_eq_some_iff.1 h.1).1

theorem goOn_any {p : Nat} {w : World} {s : St} {x2 x3 x4 x5 x6 : Value} {t : TypeId} (h : w.heap[p]? = some (.cells #[.int .i64 s.st, .int .u64 s.was, x2, x3, x4, x5, x6] t (0, 0))) (hs : s.st = 0 ∨ s.st = 1 ∨ s.st = 2 ∨ s.st = 3) (f : Int) : Calls Try.prog 59 #[.pointer (some ⟨p, 0, none⟩), .int .u64 f] w fun e w' =>
    e = .returned (.tuple #[]) ∧ w'.heap[p]? = some (.cells #[.int .i64 (pushT s f).st, .int .u64 (pushT s f).was, x2, x3, x4, x5, x6] t (0, 0)) ∧ Only (fun k => k = p) w w' := by
  obtain ⟨st, wa, lo⟩ := s
  simp only at h hs
  have c0 := (cell_heap h 0).1
  have c1 := (cell_heap h 1).1
  have f0 := (cell_heap h 0).2
  have f1 := (cell_heap h 1).2
  simp at c0 c1
  have hO : ∀ j v, Only (fun k => k = p) w (w.setCell ⟨p, j, none⟩ v) := fun j v => only_setCell (R := fun k => k = p) w (p := ⟨p, j, none⟩) rfl v
  have hS : ∀ v, (w.setCell ⟨p, 0, none⟩ (.int .i64 v)).heap[p]? = some (.cells #[.int .i64 v, .int .u64 wa, x2, x3, x4, x5, x6] t (0, 0)) := fun v => by simpa using set_heap (j := 0) h (.int .i64 v)
  rcases hs with rfl | rfl | rfl | rfl
  · rw [pushT_0]
    have HE := Lib.hid (And.intro (hS 0) (hO 0 (.int .i64 0)))
    clear h hO hS
    go_enter Try.func59, Try.ntmps59
    go_wp2
    refine bodyPost_end (results_none rfl _ _ _) rfl ?_
    exact ⟨rfl, HE.out⟩
  · rw [pushT_1]
    have HE := Lib.hid (show ((w.setCell ⟨p, 0, none⟩ (.int .i64 2)).setCell ⟨p, 1, none⟩ (.int .u64 f)).heap[p]? = some (.cells #[.int .i64 2, .int .u64 f, x2, x3, x4, x5, x6] t (0, 0)) ∧ Only (fun k => k = p) w ((w.setCell ⟨p, 0, none⟩ (.int .i64 2)).setCell ⟨p, 1, none⟩ (.int .u64 f)) from
      ⟨by simpa using set_heap (j := 1) (hS 2) (.int .u64 f), (hO 0 _).setCell (.inl rfl) _⟩)
    clear h hO hS
    go_enter Try.func59, Try.ntmps59
    go_wp2
    refine bodyPost_end (results_none rfl _ _ _) rfl ?_
    exact ⟨rfl, HE.out⟩
  · rw [pushT_2]
    have HE := Lib.hid (And.intro (hS 3) (hO 0 (.int .i64 3)))
    clear h hO hS
    go_enter Try.func59, Try.ntmps59
    go_wp2
    refine bodyPost_end (results_none rfl _ _ _) rfl ?_
    exact ⟨rfl, HE.out⟩
  · by_cases he : f = wa
    · subst he
      rw [pushT_3]
      have HE := Lib.hid (And.intro (hS 0) (hO 0 (.int .i64 0)))
      have hb : (f != f) = false := by simp
      clear h hO hS
      go_enter Try.func59, Try.ntmps59
      go_wp2
      refine bodyPost_end (results_none rfl _ _ _) rfl ?_
      exact ⟨rfl, HE.out⟩
    · rw [pushT_3n he]
      have HE := Lib.hid (And.intro (hS 1) (hO 0 (.int .i64 1)))
      have hb : (f != wa) = true := by simpa using he
      clear h hO hS
      go_enter Try.func59, Try.ntmps59
      go_wp2
      refine bodyPost_end (results_none rfl _ _ _) rfl ?_
      exact ⟨rfl, HE.out⟩
theorem Push_tell {p : Nat} {w : World} {T S L G i : Int} {s : St} (h : Pushes w p T S L G i s) {f : Int} (hf : 0 ≤ f ∧ f < 18446744073709551616) : Calls Try.prog 55 #[.pointer (some ⟨p, 0, none⟩), .int .u64 f] w fun e w' =>
    e = .returned (.tuple #[]) ∧ Pushes w' p T S L G i (pushT s f) ∧ Only (fun k => k = p) w w' := by
  have HG := Lib.hid (goOn_any h.1 h.2.1 f)
  have HK := Lib.hid (pushT_ok h.2 hf)
  clear h hf
  go_enter Try.func55, Try.ntmps55
  go_wp2_with fail
  refine (HG.out).mono ?_
  rintro e w' ⟨rfl, h1, h2⟩
  go_wp2
  refine bodyPost_end (results_none rfl _ _ _) rfl ?_
  exact ⟨rfl, ⟨h1, HK.out⟩, h2⟩
end Go.Proofs.Ytcnbbflgccdfjaa.Pool
