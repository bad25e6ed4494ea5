import Derived.Test.YtiejfhipkolmhaaGreatDoorFinishOutsAllP1
import Derived.Test.YtiejfhipkolmhaaGreatDoorFinishOutsAllP13
import Derived.Test.YtiejfhipkolmhaaGreatDoorFinishOutsAllP17
import Derived.Test.YtiejfhipkolmhaaGreatDoorFinishOutsAllP10
import Derived.Lib.MinMax
import Derived.Deep.DeepCutAuto
import Derived.Deep.RegionHeld3
/- Package mark (layer 22), held to plain arithmetic: what a marker asks for, what it becomes; all else in memory stays as it was. -/
namespace Go.Proofs.YtiejfhipkolmhaaGreatDoor.Mk
set_option maxRecDepth 20000
open Go.ChangeShapes Go.WideShapes Go.RowKit CM DM PM KM MkM Lay Plan Go.Proofs.YtiejfhipkolmhaaGreatDoor.Task
set_option linter.unusedVariables false
set_option linter.unusedSimpArgs false

/-- What a task is asked for. -/
def ToldD (w : World) (d : D) (more : Bool) (e : Ending) (w' : World) : Prop :=
  e = .returned (.tuple #[.agg #[.int .i64 d.1, .int .i64 d.2.1, .int .u64 d.2.2.1, .int .u64 d.2.2.2.1, .int .u64 d.2.2.2.2], .bool more]) ∧ Below w.heap.size w w'
def Told (w : World) (x : Option D) : Ending → World → Prop := ToldD w (x.getD (0, 0, 0, 0, 0)) x.isSome

/-- A marker in block p, word by word. -/
def Raw (w : World) (p : Nat) (T N L G r lf st wy : Int) : Prop := w.heap[p]? = some (.cells #[.int .i64 T, .int .i64 N, .int .i64 L, .int .u64 G, .int .u64 r, .int .i64 lf, .int .i64 st, .int .u64 wy] 112 (0, 0))
/-- A marker in block p. -/
def Marks (w : World) (p : Nat) (T N L G r : Int) (s : MkM.St) : Prop := Raw w p T N L G r s.lf s.st s.wy ∧ MkM.Ok s ∧ 0 ≤ r ∧ r < 18446744073709551616
section
variable {w w' : World} {p : Nat} {T N L G r lf st wy : Int}
theorem Raw.lt (h : Raw w p T N L G r lf st wy) : p < w.heap.size := (Array.getElem?_eq_some_iff.1 h).1
theorem Raw.only {R : Nat → Prop} (h : Raw w p T N L G r lf st wy) (ho : Only R w w') (hp : ¬ R p) : Raw w' p T N L G r lf st wy := ho.heap h hp
theorem Raw.cells (h : Raw w p T N L G r lf st wy) : w.cell? ⟨p, 0, none⟩ = some (.int .i64 T) ∧ w.cell? ⟨p, 1, none⟩ = some (.int .i64 N) ∧ w.cell? ⟨p, 2, none⟩ = some (.int .i64 L) ∧ w.cell? ⟨p, 3, none⟩ = some (.int .u64 G) ∧
    w.cell? ⟨p, 4, none⟩ = some (.int .u64 r) ∧ w.cell? ⟨p, 5, none⟩ = some (.int .i64 lf) ∧ w.cell? ⟨p, 6, none⟩ = some (.int .i64 st) ∧ w.cell? ⟨p, 7, none⟩ = some (.int .u64 wy) := by
  have hc := fun j => (cell_heap h j).1
  exact ⟨hc 0, hc 1, hc 2, hc 3, hc 4, hc 5, hc 6, hc 7⟩
theorem Raw.thawed (h : Raw w p T N L G r lf st wy) (j : Nat) : w.frozen? ⟨p, j, none⟩ = false := (cell_heap h j).2
theorem Raw.set_lf (h : Raw w p T N L G r lf st wy) (v : Int) : Raw (w.setCell ⟨p, 5, none⟩ (.int .i64 v)) p T N L G r v st wy := set_heap (j := 5) h (.int .i64 v)
theorem Raw.set_st (h : Raw w p T N L G r lf st wy) (v : Int) : Raw (w.setCell ⟨p, 6, none⟩ (.int .i64 v)) p T N L G r lf v wy := set_heap (j := 6) h (.int .i64 v)
theorem Raw.set_wy (h : Raw w p T N L G r lf st wy) (v : Int) : Raw (w.setCell ⟨p, 7, none⟩ (.int .u64 v)) p T N L G r lf st v := set_heap (j := 7) h (.int .u64 v)
theorem Raw.drew (h : Raw w p T N L G r lf st wy) : Raw w.drew p T N L G r lf st wy := h
theorem Marks.only {s : MkM.St} {R : Nat → Prop} (h : Marks w p T N L G r s) (ho : Only R w w') (hp : ¬ R p) : Marks w' p T N L G r s := ⟨h.1.only ho hp, h.2⟩
theorem Marks.later {s : MkM.St} (h : Marks w p T N L G r s) (hb : Below w.heap.size w w') : Marks w' p T N L G r s := h.only (only_below (fun _ => False) hb) id
theorem Marks.lt {s : MkM.St} (h : Marks w p T N L G r s) : p < w.heap.size := h.1.lt
theorem only_set (w : World) (p j : Nat) (v : Value) : Only (fun k => k = p) w (w.setCell ⟨p, j, none⟩ v) := only_setCell (R := fun k => k = p) w (p := ⟨p, j, none⟩) rfl v
end

theorem done_any {w : World} {p : Nat} {T N L G r lf st wy : Int} (h : Raw w p T N L G r lf st wy) : Calls Tryz.prog 147 #[.pointer (some ⟨p, 0, none⟩)] w fun e w' => e = .returned (.bool (decide (lf = 0))) ∧ w = w' := by
  obtain ⟨-, -, -, -, -, e5, -, -⟩ := h.cells
  clear h
  by_cases h0 : lf = 0
  · subst h0
    go_enter Tryz.func147, Tryz.ntmps147
    go_wp2
    go_ret
    exact ⟨rfl, rfl⟩
  · rw [decide_eq_false h0]
    have h1 : (lf == 0) = false := by simpa using h0
    go_enter Tryz.func147, Tryz.ntmps147
    go_wp2
    go_ret
    exact ⟨rfl, rfl⟩
theorem run_min2 (w : World) (ts : Array TypeId) (t : TypeId) (k k' : IntKind) (x y : Int) : (Builtin.min_ ts t #[.int k x, .int k' y]).run Tryz.prog w = .ok (.int k (min x y)) w := by
  have e1 : (if y < x then y else x) = min x y := by
    rw [Int.min_def]
    split <;> split <;> omega
  simp [Builtin.min_, Builtin.min2, e1]
theorem Mark_any (T N L G r tall : Int) (hL : -9223372036854775808 ≤ L ∧ L ≤ 9223372036854775807) (hr : 0 ≤ r ∧ r < 18446744073709551616) (w : World) : Calls Tryz.prog 45 #[.agg #[.int .i64 T, .int .i64 N, .int .i64 L, .int .u64 G], .int .u64 r, .int .i64 tall] w fun e w' => ∃ p, e = .returned (.pointer (some ⟨p, 0, none⟩)) ∧ Marks w' p T N L G r ⟨leftI tall L, 0, 0⟩ ∧ w.heap.size ≤ p ∧ Below w.heap.size w w' := by
  obtain ⟨c_0, c_1, c_2, c_3⟩ := box4 w (.int .i64 T) (.int .i64 N) (.int .i64 L) (.int .u64 G) 24
  have HB0 := Lib.hid (box_below w (.cells #[.int .i64 T, .int .i64 N, .int .i64 L, .int .u64 G] 24))
  have HOK := Lib.hid (left_ok (tall := tall) hL)
  unfold leftI at HOK ⊢
  have HE := Lib.hid (show Raw ((w.alloc (.cells #[.int .i64 T, .int .i64 N, .int .i64 L, .int .u64 G] 24)).alloc (.cells #[.int .i64 T, .int .i64 N, .int .i64 L, .int .u64 G, .int .u64 r, .int .i64 (max 0 (min tall L)), .int .i64 0, .int .u64 0] 112)) (w.heap.size + 1) T N L G r (max 0 (min tall L)) 0 0 from by
    have h := new_heap (w.alloc (.cells #[.int .i64 T, .int .i64 N, .int .i64 L, .int .u64 G] 24)) (.cells #[.int .i64 T, .int .i64 N, .int .i64 L, .int .u64 G, .int .u64 r, .int .i64 (max 0 (min tall L)), .int .i64 0, .int .u64 0] 112)
    simp only [World.size_alloc] at h
    exact h)
  have HR := Lib.hid hr
  clear hr hL
  go_enter Tryz.func45, Tryz.ntmps45
  go_wp2
  go_ret
  exact ⟨_, rfl, ⟨HE.out, HOK.out, HR.out⟩, Nat.le_succ _, HB0.out.trans ((box_below _ _).mono HB0.out.size)⟩
theorem next_done {w : World} {p : Nat} {T N L G r lf st wy : Int} (h : Raw w p T N L G r 0 st wy) : Calls Tryz.prog 145 #[.pointer (some ⟨p, 0, none⟩)] w (Told w none) := by
  have HD := Lib.hid fun o => done_any (h.only (only_below (fun _ => False) (box_below w o)) id)
  have HB := Lib.hid (box_below w)
  clear h
  go_enter Tryz.func145, Tryz.ntmps145
  go_wp2_with fail
  refine (HD.out _).mono ?_
  rintro e w' ⟨rfl, rfl⟩
  go_wp2
  exact bodyPost_ret (v := .tuple #[.agg #[.int .i64 0, .int .i64 0, .int .u64 0, .int .u64 0, .int .u64 0], .bool false]) (by simp [results, Tryz.results145, go_sem]) rfl ⟨rfl, HB.out _⟩
theorem stay_past {w : World} {p : Nat} {T N L G r lf st wy : Int} {W : World} (h : Raw w p T N L G r lf st wy) (hb : Below (w.alloc (.cells #[.int .i64 0, .int .i64 0, .int .u64 0, .int .u64 0, .int .u64 0] 44)).heap.size (w.alloc (.cells #[.int .i64 0, .int .i64 0, .int .u64 0, .int .u64 0, .int .u64 0] 44)) W) : W.cell? ⟨p, 0, none⟩ = some (.int .i64 T) ∧ W.cell? ⟨p, 1, none⟩ = some (.int .i64 N) ∧ W.cell? ⟨p, 2, none⟩ = some (.int .i64 L) ∧ W.cell? ⟨p, 3, none⟩ = some (.int .u64 G) ∧ W.cell? ⟨p, 4, none⟩ = some (.int .u64 r) ∧ W.cell? ⟨p, 5, none⟩ = some (.int .i64 lf) := by
  obtain ⟨e0, e1, e2, e3, e4, e5, -⟩ := h.cells
  have hb2 : Below w.heap.size w W := (box_below w (.cells #[.int .i64 0, .int .i64 0, .int .u64 0, .int .u64 0, .int .u64 0] 44)).trans (hb.mono (by simp))
  exact ⟨cell_later hb2 e0, cell_later hb2 e1, cell_later hb2 e2, cell_later hb2 e3, cell_later hb2 e4, cell_later hb2 e5⟩
theorem kD {w W : World} (h : Below (w.alloc (.cells #[.int .i64 0, .int .i64 0, .int .u64 0, .int .u64 0, .int .u64 0] 44)).heap.size (w.alloc (.cells #[.int .i64 0, .int .i64 0, .int .u64 0, .int .u64 0, .int .u64 0] 44)) W) : Below (w.alloc (.cells #[.int .i64 0, .int .i64 0, .int .u64 0, .int .u64 0, .int .u64 0] 44)).heap.size (w.alloc (.cells #[.int .i64 0, .int .i64 0, .int .u64 0, .int .u64 0, .int .u64 0] 44)) W.drew := h.drew
theorem kA {w W : World} {o : Obj} (h : Below (w.alloc (.cells #[.int .i64 0, .int .i64 0, .int .u64 0, .int .u64 0, .int .u64 0] 44)).heap.size (w.alloc (.cells #[.int .i64 0, .int .i64 0, .int .u64 0, .int .u64 0, .int .u64 0] 44)) W) : Below (w.alloc (.cells #[.int .i64 0, .int .i64 0, .int .u64 0, .int .u64 0, .int .u64 0] 44)).heap.size (w.alloc (.cells #[.int .i64 0, .int .i64 0, .int .u64 0, .int .u64 0, .int .u64 0] 44)) (W.alloc o) := h.alloc h.size o
theorem kB {w W W' : World} (h : Below (w.alloc (.cells #[.int .i64 0, .int .i64 0, .int .u64 0, .int .u64 0, .int .u64 0] 44)).heap.size (w.alloc (.cells #[.int .i64 0, .int .i64 0, .int .u64 0, .int .u64 0, .int .u64 0] 44)) W) (hb : Below W.heap.size W W') : Below (w.alloc (.cells #[.int .i64 0, .int .i64 0, .int .u64 0, .int .u64 0, .int .u64 0] 44)).heap.size (w.alloc (.cells #[.int .i64 0, .int .i64 0, .int .u64 0, .int .u64 0, .int .u64 0] 44)) W' := h.trans (hb.mono h.size)
theorem kS {w W : World} {j : Nat} {u0 u1 u2 u3 u4 : Value} (h : Below (w.alloc (.cells #[.int .i64 0, .int .i64 0, .int .u64 0, .int .u64 0, .int .u64 0] 44)).heap.size (w.alloc (.cells #[.int .i64 0, .int .i64 0, .int .u64 0, .int .u64 0, .int .u64 0] 44)) W) (hj : w.heap.size + 1 ≤ j) : Below (w.alloc (.cells #[.int .i64 0, .int .i64 0, .int .u64 0, .int .u64 0, .int .u64 0] 44)).heap.size (w.alloc (.cells #[.int .i64 0, .int .i64 0, .int .u64 0, .int .u64 0, .int .u64 0] 44)) ((((((W.setCell ⟨j, 0, none⟩ u0).setCell ⟨j, 1, none⟩ u1).setCell ⟨j, 2, none⟩ u2).setCell ⟨j, 3, none⟩ u3).setCell ⟨j, 4, none⟩ u4)) := by
  have hz : (w.alloc (.cells #[.int .i64 0, .int .i64 0, .int .u64 0, .int .u64 0, .int .u64 0] 44)).heap.size ≤ j := by rw [World.size_alloc]; exact hj
  exact ((((h.setCell hz _).setCell hz _).setCell hz _).setCell hz _).setCell hz _
theorem set_five {W : World} {j : Nat} {v0 v1 v2 v3 v4 u0 u1 u2 u3 u4 : Value} {t : TypeId} (h : W.heap[j]? = some (.cells #[v0, v1, v2, v3, v4] t (0, 0))) : ((((((W.setCell ⟨j, 0, none⟩ u0).setCell ⟨j, 1, none⟩ u1).setCell ⟨j, 2, none⟩ u2).setCell ⟨j, 3, none⟩ u3).setCell ⟨j, 4, none⟩ u4)).heap[j]? = some (.cells #[u0, u1, u2, u3, u4] t (0, 0)) :=
  set_heap (j := 4) (set_heap (j := 3) (set_heap (j := 2) (set_heap (j := 1) (set_heap (j := 0) h u0) u1) u2) u3) u4
theorem past_lt {w W : World} (h : Below (w.alloc (.cells #[.int .i64 0, .int .i64 0, .int .u64 0, .int .u64 0, .int .u64 0] 44)).heap.size (w.alloc (.cells #[.int .i64 0, .int .i64 0, .int .u64 0, .int .u64 0, .int .u64 0] 44)) W) : w.heap.size + 1 ≤ W.heap.size := by have := h.size; rwa [World.size_alloc] at this
theorem pA {w W : World} (hb : Below (w.alloc (.cells #[.int .i64 0, .int .i64 0, .int .u64 0, .int .u64 0, .int .u64 0] 44)).drew.heap.size (w.alloc (.cells #[.int .i64 0, .int .i64 0, .int .u64 0, .int .u64 0, .int .u64 0] 44)).drew W) : Below (w.alloc (.cells #[.int .i64 0, .int .i64 0, .int .u64 0, .int .u64 0, .int .u64 0] 44)).heap.size (w.alloc (.cells #[.int .i64 0, .int .i64 0, .int .u64 0, .int .u64 0, .int .u64 0] 44)) W := kB (kD (Below.refl _ _)) hb
theorem pB {w W : World} {o : Obj} (hb : Below ((w.alloc (.cells #[.int .i64 0, .int .i64 0, .int .u64 0, .int .u64 0, .int .u64 0] 44)).alloc o).drew.heap.size ((w.alloc (.cells #[.int .i64 0, .int .i64 0, .int .u64 0, .int .u64 0, .int .u64 0] 44)).alloc o).drew W) : Below (w.alloc (.cells #[.int .i64 0, .int .i64 0, .int .u64 0, .int .u64 0, .int .u64 0] 44)).heap.size (w.alloc (.cells #[.int .i64 0, .int .i64 0, .int .u64 0, .int .u64 0, .int .u64 0] 44)) W := kB (kD (kA (Below.refl _ _))) hb
theorem two_later {w W : World} {o : Obj} (hb : Below ((w.alloc (.cells #[.int .i64 0, .int .i64 0, .int .u64 0, .int .u64 0, .int .u64 0] 44)).alloc o).drew.heap.size ((w.alloc (.cells #[.int .i64 0, .int .i64 0, .int .u64 0, .int .u64 0, .int .u64 0] 44)).alloc o).drew W) : W.heap[w.heap.size + 1]? = some o := by
  have h := new_heap (w.alloc (.cells #[.int .i64 0, .int .i64 0, .int .u64 0, .int .u64 0, .int .u64 0] 44)) o
  simp only [World.size_alloc] at h
  exact (hb.block _ (by simp [World.drew])).trans h
theorem cells_five {W : World} {k : Nat} {v0 v1 v2 v3 v4 : Value} {t : TypeId} (h : W.heap[k]? = some (.cells #[v0, v1, v2, v3, v4] t (0, 0))) : (W.cell? ⟨k, 0, none⟩ = some v0 ∧ W.cell? ⟨k, 1, none⟩ = some v1 ∧ W.cell? ⟨k, 2, none⟩ = some v2 ∧ W.cell? ⟨k, 3, none⟩ = some v3 ∧ W.cell? ⟨k, 4, none⟩ = some v4) ∧
    W.frozen? ⟨k, 0, none⟩ = false ∧ W.frozen? ⟨k, 1, none⟩ = false ∧ W.frozen? ⟨k, 2, none⟩ = false ∧ W.frozen? ⟨k, 3, none⟩ = false ∧ W.frozen? ⟨k, 4, none⟩ = false :=
  ⟨⟨(cell_heap h 0).1, (cell_heap h 1).1, (cell_heap h 2).1, (cell_heap h 3).1, (cell_heap h 4).1⟩, (cell_heap h 0).2, (cell_heap h 1).2, (cell_heap h 2).2, (cell_heap h 3).2, (cell_heap h 4).2⟩
/-- The deed turned into a swap: the marker stays. -/
theorem turned {w W : World} {p k : Nat} {pl r wy : Int} (hk : W.heap[k]? = some (.cells #[.int .i64 1, .int .i64 pl, .int .u64 0, .int .u64 0, .int .u64 r] 44 (0, 0))) (hp : Below (w.alloc (.cells #[.int .i64 0, .int .i64 0, .int .u64 0, .int .u64 0, .int .u64 0] 44)).heap.size (w.alloc (.cells #[.int .i64 0, .int .i64 0, .int .u64 0, .int .u64 0, .int .u64 0] 44)) W) (hj : w.heap.size + 1 ≤ k) (h7 : W.cell? ⟨p, 7, none⟩ = some (.int .u64 wy)) (hn : ¬ k = p) :
    W.drew.cell? ⟨p, 7, none⟩ = some (.int .u64 wy) ∧ ((W.setCell ⟨k, 0, none⟩ (.int .i64 3))).drew.cell? ⟨p, 7, none⟩ = some (.int .u64 wy) ∧ (((W.setCell ⟨k, 0, none⟩ (.int .i64 3)).setCell ⟨k, 2, none⟩ (.int .u64 wy))).drew.cell? ⟨p, 7, none⟩ = some (.int .u64 wy) ∧ ((((W.setCell ⟨k, 0, none⟩ (.int .i64 3)).setCell ⟨k, 2, none⟩ (.int .u64 wy)).setCell ⟨k, 3, none⟩ (.int .u64 (wy + 1)))).drew.cell? ⟨p, 7, none⟩ = some (.int .u64 wy) ∧
      ((((W.setCell ⟨k, 0, none⟩ (.int .i64 3)).setCell ⟨k, 2, none⟩ (.int .u64 wy)).setCell ⟨k, 3, none⟩ (.int .u64 (wy + 1)))).drew.heap[k]? = some (.cells #[.int .i64 3, .int .i64 pl, .int .u64 wy, .int .u64 (wy + 1), .int .u64 r] 44 (0, 0)) ∧ Below (w.alloc (.cells #[.int .i64 0, .int .i64 0, .int .u64 0, .int .u64 0, .int .u64 0] 44)).heap.size (w.alloc (.cells #[.int .i64 0, .int .i64 0, .int .u64 0, .int .u64 0, .int .u64 0] 44)) ((((W.setCell ⟨k, 0, none⟩ (.int .i64 3)).setCell ⟨k, 2, none⟩ (.int .u64 wy)).setCell ⟨k, 3, none⟩ (.int .u64 (wy + 1)))).drew := by
  have hz : (w.alloc (.cells #[.int .i64 0, .int .i64 0, .int .u64 0, .int .u64 0, .int .u64 0] 44)).heap.size ≤ k := by rw [World.size_alloc]; exact hj
  have h1 := (only_set W k 0 (.int .i64 3)).cell h7 (fun e => hn e.symm)
  have h2 := (only_set _ k 2 (.int .u64 wy)).cell h1 (fun e => hn e.symm)
  have h3 := (only_set _ k 3 (.int .u64 (wy + 1))).cell h2 (fun e => hn e.symm)
  exact ⟨h7, h1, h2, h3, set_heap (j := 3) (set_heap (j := 2) (set_heap (j := 0) hk (.int .i64 3)) (.int .u64 wy)) (.int .u64 (wy + 1)), (((hp.setCell hz _).setCell hz _).setCell hz _).drew⟩
set_option maxHeartbeats 2000000 in
theorem next_look {w : World} {p : Nat} {T N L G r lf st wy : Int} (h : Raw w p T N L G r lf 0 wy) (hl : ¬ lf = 0) (hm : -9223372036854775808 ≤ lf - 1 ∧ lf - 1 ≤ 9223372036854775807) (hr : 0 ≤ r ∧ r < 18446744073709551616) (hy : 0 ≤ wy ∧ wy < 18446744073709551616 ∧ wy % 2 = 0) : Calls Tryz.prog 145 #[.pointer (some ⟨p, 0, none⟩)] w (Told w (some (1, nextI T L (idx r) (lf - 1), 0, 0, r))) := by
  have HD := Lib.hid (show ∀ o, Calls Tryz.prog 147 #[.pointer (some ⟨p, 0, none⟩)] (w.alloc o) fun e w' => e = .returned (.bool false) ∧ w.alloc o = w' from fun o => by
    have h := done_any (h.only (only_below (fun _ => False) (box_below w o)) id)
    rwa [decide_eq_false hl] at h)
  have HK := Lib.hid (show ∀ W, Below (w.alloc (.cells #[.int .i64 0, .int .i64 0, .int .u64 0, .int .u64 0, .int .u64 0] 44)).heap.size (w.alloc (.cells #[.int .i64 0, .int .i64 0, .int .u64 0, .int .u64 0, .int .u64 0] 44)) W → W.cell? ⟨p, 0, none⟩ = some (.int .i64 T) ∧ W.cell? ⟨p, 1, none⟩ = some (.int .i64 N) ∧ W.cell? ⟨p, 2, none⟩ = some (.int .i64 L) ∧ W.cell? ⟨p, 3, none⟩ = some (.int .u64 G) ∧ W.cell? ⟨p, 4, none⟩ = some (.int .u64 r) ∧ W.cell? ⟨p, 5, none⟩ = some (.int .i64 lf) from fun W hb => stay_past h hb)
  have HKY := Lib.hid (show ∀ W, Below (w.alloc (.cells #[.int .i64 0, .int .i64 0, .int .u64 0, .int .u64 0, .int .u64 0] 44)).heap.size (w.alloc (.cells #[.int .i64 0, .int .i64 0, .int .u64 0, .int .u64 0, .int .u64 0] 44)) W → W.cell? ⟨p, 6, none⟩ = some (.int .i64 0) ∧ W.cell? ⟨p, 7, none⟩ = some (.int .u64 wy) from fun W hb => by
    have hb2 : Below w.heap.size w W := (box_below w (.cells #[.int .i64 0, .int .i64 0, .int .u64 0, .int .u64 0, .int .u64 0] 44)).trans (hb.mono (by simp))
    exact ⟨cell_later hb2 h.cells.2.2.2.2.2.2.1, cell_later hb2 h.cells.2.2.2.2.2.2.2⟩)
  have HPK := Lib.hid (show ∀ k : Nat, w.heap.size + 1 ≤ k → ¬ k = p from fun k hk e => by have := h.lt; omega)
  have HMK := Lib.hid (show ∀ W, Calls Tryz.prog 148 #[.int .u64 wy] W fun e w' => e = .returned (.int .u64 (wy + 1)) ∧ W = w' from fun W => by
    have h := Refer.Mark_any wy hy.1 hy.2.1 W
    rwa [hy.2.2, Int.sub_zero] at h)
  have HIX := Lib.hid fun W => Refer.Index_any r hr.1 hr.2 W
  have HNX := Lib.hid fun W => Plan.Next_any T N L G (idx r) (lf - 1) W
  have hwr : IntKind.i64.wrap (lf - 1) = lf - 1 := by rw [IntKind.wrap_i64]; omega
  unfold idx at HNX ⊢
  generalize r % 4294967296 / 2 = i at HIX HNX ⊢
  generalize nextI T L i (lf - 1) = pl at HNX ⊢
  clear h hl hr hm hy
  have HS0 := Lib.hid (HK.out _ (kD (Below.refl _ _)))
  have HS1 := Lib.hid (HK.out _ (kD (kA (o := .cells #[.int .i64 0, .int .i64 0, .int .u64 0, .int .u64 0, .int .u64 0] 44) (Below.refl _ _))))
  go_enter Tryz.func145, Tryz.ntmps145
  go_wp2_with fail
  refine (HD.out _).mono ?_
  rintro e w' ⟨rfl, rfl⟩
  go_upto_region 3 with fail
  go_cut [4] (fun s4 wx => ∃ k, s4 = .pointer (some ⟨k, 0, none⟩) ∧ wx.heap[k]? = some (.cells #[.int .i64 1, .int .i64 pl, .int .u64 0, .int .u64 0, .int .u64 r] 44 (0, 0)) ∧ w.heap.size + 1 ≤ k ∧ Below (w.alloc (.cells #[.int .i64 0, .int .i64 0, .int .u64 0, .int .u64 0, .int .u64 0] 44)).heap.size (w.alloc (.cells #[.int .i64 0, .int .i64 0, .int .u64 0, .int .u64 0, .int .u64 0] 44)) wx)
  case first =>
    go_region_held3 (fun W => W.cell? ⟨p, 0, none⟩ = some (.int .i64 T) ∧ W.cell? ⟨p, 1, none⟩ = some (.int .i64 N) ∧ W.cell? ⟨p, 2, none⟩ = some (.int .i64 L) ∧ W.cell? ⟨p, 3, none⟩ = some (.int .u64 G) ∧ W.cell? ⟨p, 4, none⟩ = some (.int .u64 r) ∧ W.cell? ⟨p, 5, none⟩ = some (.int .i64 lf))
      ((first | (with_reducible exact HS0.out) | (with_reducible exact HS1.out) | (with_reducible assumption) | (with_reducible exact HK.out _ HP2.out) | (with_reducible exact HK.out _ (kA HP2.out)) | (with_reducible exact HK.out _ (kS HP2.out HJ2.out)) | (with_reducible exact HK.out _ (kS (kA HP2.out) HJ2.out))))
      (first
        | (go_at_call 4; refine (HIX.out _).mono ?_; rintro e w2 ⟨rfl, rfl⟩)
        | (go_at_call 28; refine (HNX.out _).mono ?_; rintro e w2 ⟨rfl, hb⟩; have hp2 : Below (w.alloc (.cells #[.int .i64 0, .int .i64 0, .int .u64 0, .int .u64 0, .int .u64 0] 44)).heap.size (w.alloc (.cells #[.int .i64 0, .int .i64 0, .int .u64 0, .int .u64 0, .int .u64 0] 44)) w2 := (by with_reducible exact pA hb); have HP2 := Lib.hid hp2; have HJ2 := Lib.hid (show w.heap.size + 1 ≤ w2.heap.size from past_lt HP2.out); have HZ2 := Lib.hid (new_heap w2 (.cells #[.int .i64 0, .int .i64 0, .int .u64 0, .int .u64 0, .int .u64 0] 44)); obtain ⟨⟨r0, r1, r2, r3, r4⟩, g0, g1, g2, g3, g4⟩ := cells_five HZ2.out; clear hb hp2)
        | (go_at_call 28; refine (HNX.out _).mono ?_; rintro e w2 ⟨rfl, hb⟩; have hp2 : Below (w.alloc (.cells #[.int .i64 0, .int .i64 0, .int .u64 0, .int .u64 0, .int .u64 0] 44)).heap.size (w.alloc (.cells #[.int .i64 0, .int .i64 0, .int .u64 0, .int .u64 0, .int .u64 0] 44)) w2 := (by with_reducible exact pB hb); have HP2 := Lib.hid hp2; have HJ2 := Lib.hid (Nat.le_refl (w.heap.size + 1)); have HZ2 := Lib.hid (show w2.heap[w.heap.size + 1]? = some (.cells #[.int .i64 0, .int .i64 0, .int .u64 0, .int .u64 0, .int .u64 0] 44) from two_later hb); obtain ⟨⟨r0, r1, r2, r3, r4⟩, g0, g1, g2, g3, g4⟩ := cells_five HZ2.out; clear hb hp2))
    all_goals go_wp2_with fail
    all_goals go_meet
    all_goals (case rel => first | (with_reducible exact ⟨_, rfl, new_heap _ _, HJ2.out, kA HP2.out⟩) | (with_reducible exact ⟨_, rfl, set_five HZ2.out, HJ2.out, kS HP2.out HJ2.out⟩))
  case rest =>
    obtain ⟨k, rfl, hk, hk1, hpast⟩ := hcut
    have HPA := Lib.hid hpast
    have HKK := Lib.hid hk
    have HK1 := Lib.hid hk1
    obtain ⟨K6, K7⟩ := HKY.out _ hpast
    clear hk hk1 hpast
    obtain ⟨⟨x0, x1, x2, x3, x4⟩, -⟩ := cells_five HKK.out
    obtain ⟨⟨r0, r1, r2, r3, r4⟩, g0, g1, g2, g3, g4⟩ := res5 HPA.out
    obtain ⟨⟨s0, s1, s2, s3, s4⟩, hB⟩ := set5 HPA.out (.int .i64 1) (.int .i64 pl) (.int .u64 0) (.int .u64 0) (.int .u64 r)
    have HB := Lib.hid hB
    clear hB
    go_wp2
    exact bodyPost_ret (v := .tuple #[.agg #[.int .i64 1, .int .i64 pl, .int .u64 0, .int .u64 0, .int .u64 r], .bool true]) (by simp [results, Tryz.results145, go_sem, s0, s1, s2, s3, s4]) rfl ⟨rfl, HB.out⟩
set_option maxHeartbeats 2000000 in
theorem next_turn {w : World} {p : Nat} {T N L G r lf st wy : Int} (h : Raw w p T N L G r lf 1 wy) (hl : ¬ lf = 0) (hm : -9223372036854775808 ≤ lf - 1 ∧ lf - 1 ≤ 9223372036854775807) (hr : 0 ≤ r ∧ r < 18446744073709551616) (hy : 0 ≤ wy ∧ wy < 18446744073709551616 ∧ wy % 2 = 0) : Calls Tryz.prog 145 #[.pointer (some ⟨p, 0, none⟩)] w (Told w (some (3, nextI T L (idx r) (lf - 1), wy, wy + 1, r))) := by
  have HD := Lib.hid (show ∀ o, Calls Tryz.prog 147 #[.pointer (some ⟨p, 0, none⟩)] (w.alloc o) fun e w' => e = .returned (.bool false) ∧ w.alloc o = w' from fun o => by
    have h := done_any (h.only (only_below (fun _ => False) (box_below w o)) id)
    rwa [decide_eq_false hl] at h)
  have HK := Lib.hid (show ∀ W, Below (w.alloc (.cells #[.int .i64 0, .int .i64 0, .int .u64 0, .int .u64 0, .int .u64 0] 44)).heap.size (w.alloc (.cells #[.int .i64 0, .int .i64 0, .int .u64 0, .int .u64 0, .int .u64 0] 44)) W → W.cell? ⟨p, 0, none⟩ = some (.int .i64 T) ∧ W.cell? ⟨p, 1, none⟩ = some (.int .i64 N) ∧ W.cell? ⟨p, 2, none⟩ = some (.int .i64 L) ∧ W.cell? ⟨p, 3, none⟩ = some (.int .u64 G) ∧ W.cell? ⟨p, 4, none⟩ = some (.int .u64 r) ∧ W.cell? ⟨p, 5, none⟩ = some (.int .i64 lf) from fun W hb => stay_past h hb)
  have HKY := Lib.hid (show ∀ W, Below (w.alloc (.cells #[.int .i64 0, .int .i64 0, .int .u64 0, .int .u64 0, .int .u64 0] 44)).heap.size (w.alloc (.cells #[.int .i64 0, .int .i64 0, .int .u64 0, .int .u64 0, .int .u64 0] 44)) W → W.cell? ⟨p, 6, none⟩ = some (.int .i64 1) ∧ W.cell? ⟨p, 7, none⟩ = some (.int .u64 wy) from fun W hb => by
    have hb2 : Below w.heap.size w W := (box_below w (.cells #[.int .i64 0, .int .i64 0, .int .u64 0, .int .u64 0, .int .u64 0] 44)).trans (hb.mono (by simp))
    exact ⟨cell_later hb2 h.cells.2.2.2.2.2.2.1, cell_later hb2 h.cells.2.2.2.2.2.2.2⟩)
  have HPK := Lib.hid (show ∀ k : Nat, w.heap.size + 1 ≤ k → ¬ k = p from fun k hk e => by have := h.lt; omega)
  have HMK := Lib.hid (show ∀ W, Calls Tryz.prog 148 #[.int .u64 wy] W fun e w' => e = .returned (.int .u64 (wy + 1)) ∧ W = w' from fun W => by
    have h := Refer.Mark_any wy hy.1 hy.2.1 W
    rwa [hy.2.2, Int.sub_zero] at h)
  have HIX := Lib.hid fun W => Refer.Index_any r hr.1 hr.2 W
  have HNX := Lib.hid fun W => Plan.Next_any T N L G (idx r) (lf - 1) W
  have hwr : IntKind.i64.wrap (lf - 1) = lf - 1 := by rw [IntKind.wrap_i64]; omega
  unfold idx at HNX ⊢
  generalize r % 4294967296 / 2 = i at HIX HNX ⊢
  generalize nextI T L i (lf - 1) = pl at HNX ⊢
  clear h hl hr hm hy
  have HS0 := Lib.hid (HK.out _ (kD (Below.refl _ _)))
  have HS1 := Lib.hid (HK.out _ (kD (kA (o := .cells #[.int .i64 0, .int .i64 0, .int .u64 0, .int .u64 0, .int .u64 0] 44) (Below.refl _ _))))
  go_enter Tryz.func145, Tryz.ntmps145
  go_wp2_with fail
  refine (HD.out _).mono ?_
  rintro e w' ⟨rfl, rfl⟩
  go_upto_region 3 with fail
  go_cut [4] (fun s4 wx => ∃ k, s4 = .pointer (some ⟨k, 0, none⟩) ∧ wx.heap[k]? = some (.cells #[.int .i64 1, .int .i64 pl, .int .u64 0, .int .u64 0, .int .u64 r] 44 (0, 0)) ∧ w.heap.size + 1 ≤ k ∧ Below (w.alloc (.cells #[.int .i64 0, .int .i64 0, .int .u64 0, .int .u64 0, .int .u64 0] 44)).heap.size (w.alloc (.cells #[.int .i64 0, .int .i64 0, .int .u64 0, .int .u64 0, .int .u64 0] 44)) wx)
  case first =>
    go_region_held3 (fun W => W.cell? ⟨p, 0, none⟩ = some (.int .i64 T) ∧ W.cell? ⟨p, 1, none⟩ = some (.int .i64 N) ∧ W.cell? ⟨p, 2, none⟩ = some (.int .i64 L) ∧ W.cell? ⟨p, 3, none⟩ = some (.int .u64 G) ∧ W.cell? ⟨p, 4, none⟩ = some (.int .u64 r) ∧ W.cell? ⟨p, 5, none⟩ = some (.int .i64 lf))
      ((first | (with_reducible exact HS0.out) | (with_reducible exact HS1.out) | (with_reducible assumption) | (with_reducible exact HK.out _ HP2.out) | (with_reducible exact HK.out _ (kA HP2.out)) | (with_reducible exact HK.out _ (kS HP2.out HJ2.out)) | (with_reducible exact HK.out _ (kS (kA HP2.out) HJ2.out))))
      (first
        | (go_at_call 4; refine (HIX.out _).mono ?_; rintro e w2 ⟨rfl, rfl⟩)
        | (go_at_call 28; refine (HNX.out _).mono ?_; rintro e w2 ⟨rfl, hb⟩; have hp2 : Below (w.alloc (.cells #[.int .i64 0, .int .i64 0, .int .u64 0, .int .u64 0, .int .u64 0] 44)).heap.size (w.alloc (.cells #[.int .i64 0, .int .i64 0, .int .u64 0, .int .u64 0, .int .u64 0] 44)) w2 := (by with_reducible exact pA hb); have HP2 := Lib.hid hp2; have HJ2 := Lib.hid (show w.heap.size + 1 ≤ w2.heap.size from past_lt HP2.out); have HZ2 := Lib.hid (new_heap w2 (.cells #[.int .i64 0, .int .i64 0, .int .u64 0, .int .u64 0, .int .u64 0] 44)); obtain ⟨⟨r0, r1, r2, r3, r4⟩, g0, g1, g2, g3, g4⟩ := cells_five HZ2.out; clear hb hp2)
        | (go_at_call 28; refine (HNX.out _).mono ?_; rintro e w2 ⟨rfl, hb⟩; have hp2 : Below (w.alloc (.cells #[.int .i64 0, .int .i64 0, .int .u64 0, .int .u64 0, .int .u64 0] 44)).heap.size (w.alloc (.cells #[.int .i64 0, .int .i64 0, .int .u64 0, .int .u64 0, .int .u64 0] 44)) w2 := (by with_reducible exact pB hb); have HP2 := Lib.hid hp2; have HJ2 := Lib.hid (Nat.le_refl (w.heap.size + 1)); have HZ2 := Lib.hid (show w2.heap[w.heap.size + 1]? = some (.cells #[.int .i64 0, .int .i64 0, .int .u64 0, .int .u64 0, .int .u64 0] 44) from two_later hb); obtain ⟨⟨r0, r1, r2, r3, r4⟩, g0, g1, g2, g3, g4⟩ := cells_five HZ2.out; clear hb hp2))
    all_goals go_wp2_with fail
    all_goals go_meet
    all_goals (case rel => first | (with_reducible exact ⟨_, rfl, new_heap _ _, HJ2.out, kA HP2.out⟩) | (with_reducible exact ⟨_, rfl, set_five HZ2.out, HJ2.out, kS HP2.out HJ2.out⟩))
  case rest =>
    obtain ⟨k, rfl, hk, hk1, hpast⟩ := hcut
    have HPA := Lib.hid hpast
    have HKK := Lib.hid hk
    have HK1 := Lib.hid hk1
    obtain ⟨K6, K7⟩ := HKY.out _ hpast
    clear hk hk1 hpast
    obtain ⟨⟨x0, x1, x2, x3, x4⟩, y0, y1, y2, y3, y4⟩ := cells_five HKK.out
    have HY := Lib.hid (turned HKK.out HPA.out HK1.out K7 (HPK.out k HK1.out) (pl := pl) (wy := wy))
    go_upto_region 5 with fail
    go_cut [] (fun wx => wx.heap[k]? = some (.cells #[.int .i64 3, .int .i64 pl, .int .u64 wy, .int .u64 (wy + 1), .int .u64 r] 44 (0, 0)) ∧ Below (w.alloc (.cells #[.int .i64 0, .int .i64 0, .int .u64 0, .int .u64 0, .int .u64 0] 44)).heap.size (w.alloc (.cells #[.int .i64 0, .int .i64 0, .int .u64 0, .int .u64 0, .int .u64 0] 44)) wx)
    case first =>
      go_region_held3 (fun W => W.cell? ⟨p, 7, none⟩ = some (.int .u64 wy))
        ((first | (with_reducible exact HY.out.1) | (with_reducible exact HY.out.2.1) | (with_reducible exact HY.out.2.2.1) | (with_reducible exact HY.out.2.2.2.1)))
        ((go_at_call 148; refine (HMK.out _).mono ?_; rintro e w2 ⟨rfl, rfl⟩))
      all_goals go_wp2_with fail
      all_goals go_meet
      all_goals (case rel => with_reducible exact HY.out.2.2.2.2)
    case rest =>
      obtain ⟨hk2, hp2⟩ := hcut
      clear x0 x1 x2 x3 x4 y0 y1 y2 y3 y4 K6 K7
      obtain ⟨⟨x0, x1, x2, x3, x4⟩, -⟩ := cells_five hk2
      obtain ⟨⟨r0, r1, r2, r3, r4⟩, g0, g1, g2, g3, g4⟩ := res5 hp2
      obtain ⟨⟨s0, s1, s2, s3, s4⟩, hB⟩ := set5 hp2 (.int .i64 3) (.int .i64 pl) (.int .u64 wy) (.int .u64 (wy + 1)) (.int .u64 r)
      have HB := Lib.hid hB
      clear hB hk2 hp2
      go_wp2
      exact bodyPost_ret (v := .tuple #[.agg #[.int .i64 3, .int .i64 pl, .int .u64 wy, .int .u64 (wy + 1), .int .u64 r], .bool true]) (by simp [results, Tryz.results145, go_sem, s0, s1, s2, s3, s4]) rfl ⟨rfl, HB.out⟩
theorem Mark_next {w : World} {p : Nat} {T N L G r : Int} {s : MkM.St} (h : Marks w p T N L G r s) : Calls Tryz.prog 145 #[.pointer (some ⟨p, 0, none⟩)] w (Told w (markA T L r s)) := by
  obtain ⟨h1, h2, hr⟩ := h
  obtain ⟨lf, st, wy⟩ := s
  have hl := h2.lf
  have hs := h2.st
  have hy := h2.wy
  have he := h2.even
  simp only at h1 hl hs hy he
  by_cases h0 : lf = 0
  · subst h0
    rw [markA_0]
    exact next_done (lf := 0) h1
  · rcases hs with rfl | rfl
    · rw [markA_look h0]
      exact next_look (st := 0) h1 h0 (by omega) hr ⟨hy.1, hy.2, he⟩
    · rw [markA_turn h0]
      exact next_turn (st := 0) h1 h0 (by omega) hr ⟨hy.1, hy.2, he⟩
end Go.Proofs.YtiejfhipkolmhaaGreatDoor.Mk

/- A marker (package mark, layer 22): what it becomes when it is told what was found. -/
namespace Go.Proofs.YtiejfhipkolmhaaGreatDoor.Mk
set_option maxRecDepth 20000
open Go.ChangeShapes Go.WideShapes Go.RowKit CM DM PM KM MkM Lay Plan Go.Proofs.YtiejfhipkolmhaaGreatDoor.Task
set_option linter.unusedVariables false
set_option linter.unusedSimpArgs false
theorem tell_done {w : World} {p : Nat} {T N L G r st wy f : Int} (h : Raw w p T N L G r 0 st wy) : Calls Tryz.prog 146 #[.pointer (some ⟨p, 0, none⟩), .int .u64 f] w fun e w' => e = .returned (.tuple #[]) ∧ w = w' := by
  have HD := Lib.hid (done_any h)
  clear h
  go_enter Tryz.func146, Tryz.ntmps146
  go_wp2_with fail
  refine (HD.out).mono ?_
  rintro e w' ⟨rfl, rfl⟩
  go_wp2
  exact bodyPost_ret (v := .tuple #[]) (results_none rfl _ _ _) rfl ⟨rfl, rfl⟩
theorem tell_on {w : World} {p : Nat} {T N L G r lf wy f : Int} (h : Raw w p T N L G r lf 0 wy) (hl : ¬ lf = 0) (hm : -9223372036854775808 ≤ lf - 1 ∧ lf - 1 ≤ 9223372036854775807) (h01 : 0 ≤ f ∧ f < 18446744073709551616) (hf : f % 2 = 1) : Calls Tryz.prog 146 #[.pointer (some ⟨p, 0, none⟩), .int .u64 f] w fun e w' => e = .returned (.tuple #[]) ∧ Raw w' p T N L G r (lf - 1) 0 (wy) ∧ Only (fun k => k = p) w w' := by
  have HD := Lib.hid (show Calls Tryz.prog 147 #[.pointer (some ⟨p, 0, none⟩)] w fun e w' => e = .returned (.bool false) ∧ w = w' from by
    have h := done_any h
    rwa [decide_eq_false hl] at h)
  have HMK := Lib.hid fun W => Refer.Marked_any f h01.1 h01.2 W
  have hwr : IntKind.i64.wrap (lf - 1) = lf - 1 := by rw [IntKind.wrap_i64]; omega
  have HE := Lib.hid (And.intro ((h.set_lf (lf - 1)).set_st 0) ((only_set w p 5 (.int .i64 (lf - 1))).trans (only_set _ p 6 (.int .i64 0))))
  obtain ⟨-, -, -, -, -, e5, e6, e7⟩ := h.cells
  have f5 := h.thawed 5
  have f6 := h.thawed 6
  have f7 := h.thawed 7
  have f56 := fun u => (h.set_lf u).thawed 6
  have f67 := fun u => (h.set_st u).thawed 7
  rw [decide_eq_true hf] at HMK
  clear h h01 hf hl hm
  go_enter Tryz.func146, Tryz.ntmps146
  go_wp2_with fail
  refine (HD.out).mono ?_
  rintro e w' ⟨rfl, rfl⟩
  go_wp2_with fail
  refine (HMK.out _).mono ?_
  rintro e w' ⟨rfl, rfl⟩
  go_wp2
  refine bodyPost_end (results_none rfl _ _ _) rfl ?_
  exact ⟨rfl, HE.out⟩
theorem tell_to {w : World} {p : Nat} {T N L G r lf wy f : Int} (h : Raw w p T N L G r lf 0 wy) (hl : ¬ lf = 0) (hm : -9223372036854775808 ≤ lf - 1 ∧ lf - 1 ≤ 9223372036854775807) (h01 : 0 ≤ f ∧ f < 18446744073709551616) (hf : ¬ f % 2 = 1) : Calls Tryz.prog 146 #[.pointer (some ⟨p, 0, none⟩), .int .u64 f] w fun e w' => e = .returned (.tuple #[]) ∧ Raw w' p T N L G r (lf) 1 (f) ∧ Only (fun k => k = p) w w' := by
  have HD := Lib.hid (show Calls Tryz.prog 147 #[.pointer (some ⟨p, 0, none⟩)] w fun e w' => e = .returned (.bool false) ∧ w = w' from by
    have h := done_any h
    rwa [decide_eq_false hl] at h)
  have HMK := Lib.hid fun W => Refer.Marked_any f h01.1 h01.2 W
  have hwr : IntKind.i64.wrap (lf - 1) = lf - 1 := by rw [IntKind.wrap_i64]; omega
  have HE := Lib.hid (And.intro ((h.set_st 1).set_wy f) ((only_set w p 6 (.int .i64 1)).trans (only_set _ p 7 (.int .u64 f))))
  obtain ⟨-, -, -, -, -, e5, e6, e7⟩ := h.cells
  have f5 := h.thawed 5
  have f6 := h.thawed 6
  have f7 := h.thawed 7
  have f56 := fun u => (h.set_lf u).thawed 6
  have f67 := fun u => (h.set_st u).thawed 7
  rw [decide_eq_false hf] at HMK
  clear h h01 hf hl hm
  go_enter Tryz.func146, Tryz.ntmps146
  go_wp2_with fail
  refine (HD.out).mono ?_
  rintro e w' ⟨rfl, rfl⟩
  go_wp2_with fail
  refine (HMK.out _).mono ?_
  rintro e w' ⟨rfl, rfl⟩
  go_wp2
  refine bodyPost_end (results_none rfl _ _ _) rfl ?_
  exact ⟨rfl, HE.out⟩
theorem tell_won {w : World} {p : Nat} {T N L G r lf wy f : Int} (h : Raw w p T N L G r lf 1 wy) (hl : ¬ lf = 0) (hm : -9223372036854775808 ≤ lf - 1 ∧ lf - 1 ≤ 9223372036854775807) (h01 : 0 ≤ f ∧ f < 18446744073709551616) (hf : f = wy) : Calls Tryz.prog 146 #[.pointer (some ⟨p, 0, none⟩), .int .u64 f] w fun e w' => e = .returned (.tuple #[]) ∧ Raw w' p T N L G r (lf - 1) 0 (wy) ∧ Only (fun k => k = p) w w' := by
  have HD := Lib.hid (show Calls Tryz.prog 147 #[.pointer (some ⟨p, 0, none⟩)] w fun e w' => e = .returned (.bool false) ∧ w = w' from by
    have h := done_any h
    rwa [decide_eq_false hl] at h)
  have HMK := Lib.hid fun W => Refer.Marked_any f h01.1 h01.2 W
  have hwr : IntKind.i64.wrap (lf - 1) = lf - 1 := by rw [IntKind.wrap_i64]; omega
  have HE := Lib.hid (And.intro ((h.set_lf (lf - 1)).set_st 0) ((only_set w p 5 (.int .i64 (lf - 1))).trans (only_set _ p 6 (.int .i64 0))))
  obtain ⟨-, -, -, -, -, e5, e6, e7⟩ := h.cells
  have f5 := h.thawed 5
  have f6 := h.thawed 6
  have f7 := h.thawed 7
  have f56 := fun u => (h.set_lf u).thawed 6
  have f67 := fun u => (h.set_st u).thawed 7
  have hfw : (f == wy) = true := by simpa using hf
  clear h h01 hf hl hm
  go_enter Tryz.func146, Tryz.ntmps146
  go_wp2_with fail
  refine (HD.out).mono ?_
  rintro e w' ⟨rfl, rfl⟩
  go_wp2
  refine bodyPost_end (results_none rfl _ _ _) rfl ?_
  exact ⟨rfl, HE.out⟩
theorem tell_lost {w : World} {p : Nat} {T N L G r lf wy f : Int} (h : Raw w p T N L G r lf 1 wy) (hl : ¬ lf = 0) (hm : -9223372036854775808 ≤ lf - 1 ∧ lf - 1 ≤ 9223372036854775807) (h01 : 0 ≤ f ∧ f < 18446744073709551616) (hf : ¬ f = wy) : Calls Tryz.prog 146 #[.pointer (some ⟨p, 0, none⟩), .int .u64 f] w fun e w' => e = .returned (.tuple #[]) ∧ Raw w' p T N L G r (lf) 0 (wy) ∧ Only (fun k => k = p) w w' := by
  have HD := Lib.hid (show Calls Tryz.prog 147 #[.pointer (some ⟨p, 0, none⟩)] w fun e w' => e = .returned (.bool false) ∧ w = w' from by
    have h := done_any h
    rwa [decide_eq_false hl] at h)
  have HMK := Lib.hid fun W => Refer.Marked_any f h01.1 h01.2 W
  have hwr : IntKind.i64.wrap (lf - 1) = lf - 1 := by rw [IntKind.wrap_i64]; omega
  have HE := Lib.hid (And.intro (h.set_st 0) (only_set w p 6 (.int .i64 0)))
  obtain ⟨-, -, -, -, -, e5, e6, e7⟩ := h.cells
  have f5 := h.thawed 5
  have f6 := h.thawed 6
  have f7 := h.thawed 7
  have f56 := fun u => (h.set_lf u).thawed 6
  have f67 := fun u => (h.set_st u).thawed 7
  have hfw : (f == wy) = false := by simpa using hf
  clear h h01 hf hl hm
  go_enter Tryz.func146, Tryz.ntmps146
  go_wp2_with fail
  refine (HD.out).mono ?_
  rintro e w' ⟨rfl, rfl⟩
  go_wp2
  refine bodyPost_end (results_none rfl _ _ _) rfl ?_
  exact ⟨rfl, HE.out⟩
theorem Mark_tell {w : World} {p : Nat} {T N L G r : Int} {s : MkM.St} (h : Marks w p T N L G r s) {f : Int} (hf : 0 ≤ f ∧ f < 18446744073709551616) : Calls Tryz.prog 146 #[.pointer (some ⟨p, 0, none⟩), .int .u64 f] w fun e w' => e = .returned (.tuple #[]) ∧ Marks w' p T N L G r (markT s f) ∧ Only (fun k => k = p) w w' := by
  obtain ⟨h1, h2, hr⟩ := h
  have hok := markT_ok h2 hf
  obtain ⟨lf, st, wy⟩ := s
  have hl := h2.lf
  have hs := h2.st
  simp only at h1 hl hs
  by_cases h0 : lf = 0
  · subst h0
    rw [markT_0] at hok ⊢
    refine (tell_done h1).mono ?_
    rintro e w' ⟨rfl, rfl⟩
    exact ⟨rfl, ⟨h1, hok, hr⟩, Only.refl _ _⟩
  · rcases hs with rfl | rfl
    · by_cases hf2 : f % 2 = 1
      · rw [markT_on h0 hf2] at hok ⊢
        refine (tell_on h1 h0 (by omega) hf hf2).mono ?_
        rintro e w' ⟨rfl, h3, h4⟩
        exact ⟨rfl, ⟨h3, hok, hr⟩, h4⟩
      · rw [markT_to h0 hf2] at hok ⊢
        refine (tell_to h1 h0 (by omega) hf hf2).mono ?_
        rintro e w' ⟨rfl, h3, h4⟩
        exact ⟨rfl, ⟨h3, hok, hr⟩, h4⟩
    · by_cases hf2 : f = wy
      · rw [markT_won h0 hf2] at hok ⊢
        refine (tell_won h1 h0 (by omega) hf hf2).mono ?_
        rintro e w' ⟨rfl, h3, h4⟩
        exact ⟨rfl, ⟨h3, hok, hr⟩, h4⟩
      · rw [markT_lost h0 hf2] at hok ⊢
        refine (tell_lost h1 h0 (by omega) hf hf2).mono ?_
        rintro e w' ⟨rfl, h3, h4⟩
        exact ⟨rfl, ⟨h3, hok, hr⟩, h4⟩
end Go.Proofs.YtiejfhipkolmhaaGreatDoor.Mk
