/- Package park (layer 29), held to plain arithmetic: what a parker asks for, what it becomes when it is told; a new one; all else in memory stays as it was. -/
import Derived.Test.YtelnkbikgboblaaDoorParkMath
import Derived.Test.YtelnkbikgboblaaDoorPlanWalks
import Derived.Test.YtelnkbikgboblaaDoorDeeds
import Derived.Deep.DeepCutAuto
import Derived.Deep.RegionHeld3
namespace Go.Proofs.YtelnkbikgboblaaDoor.Prk
set_option maxRecDepth 20000
open Go.ChangeShapes Go.WideShapes Go.RowKit CM DM PM PaM Lay Plan Go.Proofs.YtelnkbikgboblaaDoor.Task
set_option linter.unusedVariables false
set_option linter.unusedSimpArgs false

/-- What a task is asked for. -/
def ToldD (w : World) (d : D) (more : Bool) (e : Ending) (w' : World) : Prop :=
  e = .returned (.tuple #[.agg #[.int .i64 d.1, .int .i64 d.2.1, .int .u64 d.2.2.1, .int .u64 d.2.2.2.1, .int .u64 d.2.2.2.2], .bool more]) ∧ Below w.heap.size w w'
def Told (w : World) (x : Option D) : Ending → World → Prop := ToldD w (x.getD (0, 0, 0, 0, 0)) x.isSome
/-- A method of the parker, as a value. -/
def meth (f : FuncId) (p : Nat) : Value := .func (.func f) #[.pointer (some ⟨p, 0, none⟩)] #[]
theorem hmf : ∀ (fn : Fn) (first cap : Array Value) (w : World), (Instr.makeFunc fn first cap).run Tryd.prog w = .ok (.func fn first cap) w := fun _ _ _ _ => rfl

/-- A parker in block p, word by word: the semaphore's place, the time, the deed, what comes next. -/
def Raw (w : World) (p : Nat) (sm un k i a : Int) (V : Value) : Prop := w.heap[p]? = some (.cells #[.int .i64 sm, .int .i64 un, .int .i64 k, .int .i64 i, .int .u64 a, .int .u64 0, .int .u64 0, V] 56 (0, 0))
theorem only_set (w : World) (p j : Nat) (v : Value) : Only (fun k => k = p) w (w.setCell ⟨p, j, none⟩ v) := only_setCell (R := fun k => k = p) w (p := ⟨p, j, none⟩) rfl v
section
variable {w w' : World} {p : Nat} {sm un k i a : Int} {V : Value}
theorem Raw.lt (h : Raw w p sm un k i a V) : p < w.heap.size := (Array.getElem?_eq_some_iff.1 h).1
theorem Raw.only {R : Nat → Prop} (h : Raw w p sm un k i a V) (ho : Only R w w') (hp : ¬ R p) : Raw w' p sm un k i a V := ho.heap h hp
theorem Raw.later (h : Raw w p sm un k i a V) (hb : Below w.heap.size w w') : Raw w' p sm un k i a V := h.only (only_below (fun _ => False) hb) id
theorem Raw.cells (h : Raw w p sm un k i a V) : w.cell? ⟨p, 0, none⟩ = some (.int .i64 sm) ∧ w.cell? ⟨p, 1, none⟩ = some (.int .i64 un) ∧ w.cell? ⟨p, 2, none⟩ = some (.int .i64 k) ∧ w.cell? ⟨p, 3, none⟩ = some (.int .i64 i) ∧ w.cell? ⟨p, 4, none⟩ = some (.int .u64 a) ∧
    w.cell? ⟨p, 5, none⟩ = some (.int .u64 0) ∧ w.cell? ⟨p, 6, none⟩ = some (.int .u64 0) ∧ w.cell? ⟨p, 7, none⟩ = some V := by
  have hc := fun j => (cell_heap h j).1
  exact ⟨hc 0, hc 1, hc 2, hc 3, hc 4, hc 5, hc 6, hc 7⟩
theorem Raw.thawed (h : Raw w p sm un k i a V) (j : Nat) : w.frozen? ⟨p, j, none⟩ = false := (cell_heap h j).2
theorem Raw.put5 {W : World} (h : Raw W p sm un k i a V) (k2 i2 a2 : Int) : Raw (((((W.setCell ⟨p, 2, none⟩ (.int .i64 k2)).setCell ⟨p, 3, none⟩ (.int .i64 i2)).setCell ⟨p, 4, none⟩ (.int .u64 a2)).setCell ⟨p, 5, none⟩ (.int .u64 0)).setCell ⟨p, 6, none⟩ (.int .u64 0)) p sm un k2 i2 a2 V :=
  set_heap (j := 6) (set_heap (j := 5) (set_heap (j := 4) (set_heap (j := 3) (set_heap (j := 2) h (.int .i64 k2)) (.int .i64 i2)) (.int .u64 a2)) (.int .u64 0)) (.int .u64 0)
theorem Raw.put {W : World} (h : Raw W p sm un k i a V) (k2 i2 a2 : Int) (V2 : Value) : Raw ((((((W.setCell ⟨p, 2, none⟩ (.int .i64 k2)).setCell ⟨p, 3, none⟩ (.int .i64 i2)).setCell ⟨p, 4, none⟩ (.int .u64 a2)).setCell ⟨p, 5, none⟩ (.int .u64 0)).setCell ⟨p, 6, none⟩ (.int .u64 0)).setCell ⟨p, 7, none⟩ V2) p sm un k2 i2 a2 V2 :=
  set_heap (j := 7) (set_heap (j := 6) (set_heap (j := 5) (set_heap (j := 4) (set_heap (j := 3) (set_heap (j := 2) h (.int .i64 k2)) (.int .i64 i2)) (.int .u64 a2)) (.int .u64 0)) (.int .u64 0)) V2
theorem only_put (W : World) (p : Nat) (k2 i2 a2 : Int) (V2 : Value) : Only (fun k => k = p) W ((((((W.setCell ⟨p, 2, none⟩ (.int .i64 k2)).setCell ⟨p, 3, none⟩ (.int .i64 i2)).setCell ⟨p, 4, none⟩ (.int .u64 a2)).setCell ⟨p, 5, none⟩ (.int .u64 0)).setCell ⟨p, 6, none⟩ (.int .u64 0)).setCell ⟨p, 7, none⟩ V2) :=
  (((((only_set W p 2 _).trans (only_set _ p 3 _)).trans (only_set _ p 4 _)).trans (only_set _ p 5 _)).trans (only_set _ p 6 _)).trans (only_set _ p 7 _)
end
theorem ask_nil {w : World} {p : Nat} {sm un k i a : Int} {V : Value} (h : Raw w p sm un k i a V) (k2 i2 a2 : Int)  : Calls Tryd.prog 33 #[.pointer (some ⟨p, 0, none⟩), .agg #[.int .i64 k2, .int .i64 i2, .int .u64 a2, .int .u64 0, .int .u64 0], .nilFunc] w fun e w' => e = .returned (.tuple #[]) ∧ Raw w' p sm un k2 i2 a2 .nilFunc ∧ Only (fun k => k = p) w w' := by
  have hb := box_below w (.cells #[.int .i64 k2, .int .i64 i2, .int .u64 a2, .int .u64 0, .int .u64 0] 38)
  have h1 := h.later hb
  have HE := Lib.hid (And.intro (h1.put k2 i2 a2 .nilFunc) ((only_below (fun k => k = p) hb).trans (only_put _ p k2 i2 a2 .nilFunc)))
  obtain ⟨⟨s0, s1, s2, s3, s4⟩, -⟩ := res5 (Below.refl (w.alloc (.cells #[.int .i64 k2, .int .i64 i2, .int .u64 a2, .int .u64 0, .int .u64 0] 38)).heap.size (w.alloc (.cells #[.int .i64 k2, .int .i64 i2, .int .u64 a2, .int .u64 0, .int .u64 0] 38)))
  obtain ⟨-, -, c_2, c_3, c_4, c_5, c_6, -⟩ := h1.cells
  have f_2 := h1.thawed 2
  have f_3 := h1.thawed 3
  have f_4 := h1.thawed 4
  have f_5 := h1.thawed 5
  have f_6 := h1.thawed 6
  have h2 := h1.put5 k2 i2 a2
  have f_7 := h2.thawed 7
  have c_7 := h2.cells.2.2.2.2.2.2.2
  have hsf := fun a (fn : Fn) (x y : Array Value) m W => run_store Tryd.prog W a (.func fn x y) m rfl
  have hsn := fun a m W => run_store Tryd.prog W a .nilFunc m rfl
  clear h h1 h2 hb
  go_enter Tryd.func33, Tryd.ntmps33
  go_wp2
  exact bodyPost_end (results_none rfl _ _ _) rfl ⟨rfl, HE.out⟩
theorem ask_fn {w : World} {p : Nat} {sm un k i a : Int} {V : Value} (h : Raw w p sm un k i a V) (k2 i2 a2 : Int) (fn : Fn) (first cap : Array Value) : Calls Tryd.prog 33 #[.pointer (some ⟨p, 0, none⟩), .agg #[.int .i64 k2, .int .i64 i2, .int .u64 a2, .int .u64 0, .int .u64 0], (.func fn first cap)] w fun e w' => e = .returned (.tuple #[]) ∧ Raw w' p sm un k2 i2 a2 (.func fn first cap) ∧ Only (fun k => k = p) w w' := by
  have hb := box_below w (.cells #[.int .i64 k2, .int .i64 i2, .int .u64 a2, .int .u64 0, .int .u64 0] 38)
  have h1 := h.later hb
  have HE := Lib.hid (And.intro (h1.put k2 i2 a2 (.func fn first cap)) ((only_below (fun k => k = p) hb).trans (only_put _ p k2 i2 a2 (.func fn first cap))))
  obtain ⟨⟨s0, s1, s2, s3, s4⟩, -⟩ := res5 (Below.refl (w.alloc (.cells #[.int .i64 k2, .int .i64 i2, .int .u64 a2, .int .u64 0, .int .u64 0] 38)).heap.size (w.alloc (.cells #[.int .i64 k2, .int .i64 i2, .int .u64 a2, .int .u64 0, .int .u64 0] 38)))
  obtain ⟨-, -, c_2, c_3, c_4, c_5, c_6, -⟩ := h1.cells
  have f_2 := h1.thawed 2
  have f_3 := h1.thawed 3
  have f_4 := h1.thawed 4
  have f_5 := h1.thawed 5
  have f_6 := h1.thawed 6
  have h2 := h1.put5 k2 i2 a2
  have f_7 := h2.thawed 7
  have c_7 := h2.cells.2.2.2.2.2.2.2
  have hsf := fun a (fn : Fn) (x y : Array Value) m W => run_store Tryd.prog W a (.func fn x y) m rfl
  have hsn := fun a m W => run_store Tryd.prog W a .nilFunc m rfl
  clear h h1 h2 hb
  go_enter Tryd.func33, Tryd.ntmps33
  go_wp2
  exact bodyPost_end (results_none rfl _ _ _) rfl ⟨rfl, HE.out⟩
theorem look_any {w : World} {p : Nat} {sm un k i a : Int} {V : Value} (h : Raw w p sm un k i a V) : Calls Tryd.prog 23 #[.pointer (some ⟨p, 0, none⟩)] w fun e w' => e = .returned (.tuple #[]) ∧ Raw w' p sm un 1 sm 0 (meth 34 p) ∧ Only (fun k => k = p) w w' := by
  have c_0 := h.cells.1
  have HA := Lib.hid (ask_fn h 1 sm 0 (.func 34) #[.pointer (some ⟨p, 0, none⟩)] #[])
  have hf := hmf
  clear h
  go_enter Tryd.func23, Tryd.ntmps23
  go_wp2_with fail
  refine HA.out.mono ?_
  rintro e w1 ⟨rfl, q⟩
  have HQ := Lib.hid q
  clear q
  go_wp2
  exact bodyPost_end (results_none rfl _ _ _) rfl ⟨rfl, HQ.out⟩
theorem end_any {w : World} {p : Nat} {sm un k i a : Int} {V : Value} {x : Int} (h : Raw w p sm un k i a V) : Calls Tryd.prog 57 #[.pointer (some ⟨p, 0, none⟩), .int .u64 x] w fun e w' => e = .returned (.tuple #[]) ∧ Raw w' p sm un 0 0 0 .nilFunc ∧ Only (fun k => k = p) w w' := by
  have HA := Lib.hid (ask_nil h 0 0 0)
  clear h
  go_enter Tryd.func57, Tryd.ntmps57
  go_wp2_with fail
  refine HA.out.mono ?_
  rintro e w1 ⟨rfl, q⟩
  have HQ := Lib.hid q
  clear q
  go_wp2
  exact bodyPost_end (results_none rfl _ _ _) rfl ⟨rfl, HQ.out⟩
theorem looked_0 {w : World} {p : Nat} {sm un k i a : Int} {V : Value} (h : Raw w p sm un k i a V) : Calls Tryd.prog 34 #[.pointer (some ⟨p, 0, none⟩), .int .u64 0] w fun e w' => e = .returned (.tuple #[]) ∧ Raw w' p sm un 1 1 0 (meth 56 p) ∧ Only (fun k => k = p) w w' := by
  have c_0 := h.cells.1
  have HA := Lib.hid (ask_fn h 1 1 0 (.func 56) #[.pointer (some ⟨p, 0, none⟩)] #[])
  have hf := hmf
  clear h
  go_enter Tryd.func34, Tryd.ntmps34
  go_wp2_with fail
  refine HA.out.mono ?_
  rintro e w1 ⟨rfl, q⟩
  have HQ := Lib.hid q
  clear q
  go_wp2
  exact bodyPost_ret (v := .tuple #[]) (results_none rfl _ _ _) rfl ⟨rfl, HQ.out⟩
theorem looked_n {w : World} {p : Nat} {sm un k i a : Int} {V : Value} {x : Int} (h : Raw w p sm un k i a V) (hx : ¬ x = 0) : Calls Tryd.prog 34 #[.pointer (some ⟨p, 0, none⟩), .int .u64 x] w fun e w' => e = .returned (.tuple #[]) ∧ Raw w' p sm un 4 sm 18446744073709551615 (meth 57 p) ∧ Only (fun k => k = p) w w' := by
  have c_0 := h.cells.1
  have HA := Lib.hid (ask_fn h 4 sm 18446744073709551615 (.func 57) #[.pointer (some ⟨p, 0, none⟩)] #[])
  have hf := hmf
  have he : (x == 0) = false := by simpa using hx
  clear h hx
  go_enter Tryd.func34, Tryd.ntmps34
  go_wp2_with fail
  refine HA.out.mono ?_
  rintro e w1 ⟨rfl, q⟩
  have HQ := Lib.hid q
  clear q
  go_wp2
  exact bodyPost_end (results_none rfl _ _ _) rfl ⟨rfl, HQ.out⟩
theorem timed_late {w : World} {p : Nat} {sm un k i a : Int} {V : Value} {x : Int} (h : Raw w p sm un k i a V) (hx : un ≤ wrap64 x) : Calls Tryd.prog 56 #[.pointer (some ⟨p, 0, none⟩), .int .u64 x] w fun e w' => e = .returned (.tuple #[]) ∧ Raw w' p sm un 0 0 0 .nilFunc ∧ Only (fun k => k = p) w w' := by
  have c_1 := h.cells.2.1
  have HA := Lib.hid fun (x : Int) => end_any (x := x) h
  have he : ¬ wrap64 x < un := by omega
  clear h hx
  go_enter Tryd.func56, Tryd.ntmps56
  go_wp2_with fail
  refine (HA.out x).mono ?_
  rintro e w1 ⟨rfl, q⟩
  have HQ := Lib.hid q
  clear q
  go_wp2
  exact bodyPost_end (results_none rfl _ _ _) rfl ⟨rfl, HQ.out⟩
theorem timed_early {w : World} {p : Nat} {sm un k i a : Int} {V : Value} {x : Int} (h : Raw w p sm un k i a V) (hx : ¬ un ≤ wrap64 x) : Calls Tryd.prog 56 #[.pointer (some ⟨p, 0, none⟩), .int .u64 x] w fun e w' => e = .returned (.tuple #[]) ∧ Raw w' p sm un 1 sm 0 (meth 34 p) ∧ Only (fun k => k = p) w w' := by
  have c_1 := h.cells.2.1
  have HA := Lib.hid (look_any h)
  have he : wrap64 x < un := by omega
  clear h hx
  go_enter Tryd.func56, Tryd.ntmps56
  go_wp2_with fail
  refine (HA.out).mono ?_
  rintro e w1 ⟨rfl, q⟩
  have HQ := Lib.hid q
  clear q
  go_wp2
  exact bodyPost_ret (v := .tuple #[]) (results_none rfl _ _ _) rfl ⟨rfl, HQ.out⟩
theorem done_yes {w : World} {p : Nat} {sm un k i a : Int} (h : Raw w p sm un k i a .nilFunc) : Calls Tryd.prog 24 #[.pointer (some ⟨p, 0, none⟩)] w fun e w' => e = .returned (.bool true) ∧ w = w' := by
  have c_7 := h.cells.2.2.2.2.2.2.2
  have hn : ∀ W : World, (binOp .eql 41 .nilFunc .nilFunc).run Tryd.prog W = .ok (.bool true) W := fun _ => by kernel_rfl
  clear h
  go_enter Tryd.func24, Tryd.ntmps24
  go_wp2
  go_ret
  exact ⟨rfl, rfl⟩
theorem done_no {w : World} {p : Nat} {sm un k i a : Int} {f : FuncId} {q : Nat} (h : Raw w p sm un k i a (meth f q)) : Calls Tryd.prog 24 #[.pointer (some ⟨p, 0, none⟩)] w fun e w' => e = .returned (.bool false) ∧ w = w' := by
  have c_7 := h.cells.2.2.2.2.2.2.2
  unfold meth at c_7
  have hn : ∀ W : World, (binOp .eql 41 (.func (.func f) #[.pointer (some ⟨q, 0, none⟩)] #[]) .nilFunc).run Tryd.prog W = .ok (.bool false) W := fun _ => by kernel_rfl
  clear h
  go_enter Tryd.func24, Tryd.ntmps24
  go_wp2
  go_ret
  exact ⟨rfl, rfl⟩
theorem done_yes_b {w : World} {p : Nat} {sm un k i a : Int} (h : Raw w p sm un k i a .nilFunc) : Calls Tryd.prog 24 #[.pointer (some ⟨p, 0, none⟩)] w fun e w' => e = .returned (.bool true) ∧ Below w.heap.size w w' := (done_yes h).mono fun e w' q => ⟨q.1, by rw [← q.2]; exact Below.refl _ _⟩
theorem done_no_b {w : World} {p : Nat} {sm un k i a : Int} {f : FuncId} {q : Nat} (h : Raw w p sm un k i a (meth f q)) : Calls Tryd.prog 24 #[.pointer (some ⟨p, 0, none⟩)] w fun e w' => e = .returned (.bool false) ∧ Below w.heap.size w w' := (done_no h).mono fun e w' q => ⟨q.1, by rw [← q.2]; exact Below.refl _ _⟩
/-- A parker in block p. -/
def Parks (w : World) (p : Nat) (T N L G th un : Int) (s : PaM.St) : Prop :=
  (s = ⟨0⟩ ∧ Raw w p (ofI T 2 th) un 0 0 0 .nilFunc) ∨ (s = ⟨1⟩ ∧ Raw w p (ofI T 2 th) un 1 (ofI T 2 th) 0 (meth 34 p)) ∨
  (s = ⟨2⟩ ∧ Raw w p (ofI T 2 th) un 4 (ofI T 2 th) 18446744073709551615 (meth 57 p)) ∨ (s = ⟨3⟩ ∧ Raw w p (ofI T 2 th) un 1 1 0 (meth 56 p))
section
variable {w w' : World} {p : Nat} {T N L G th un : Int} {s : PaM.St}
theorem Parks.only {R : Nat → Prop} (h : Parks w p T N L G th un s) (ho : Only R w w') (hp : ¬ R p) : Parks w' p T N L G th un s := by
  rcases h with ⟨e, h⟩ | ⟨e, h⟩ | ⟨e, h⟩ | ⟨e, h⟩
  · exact .inl ⟨e, h.only ho hp⟩
  · exact .inr (.inl ⟨e, h.only ho hp⟩)
  · exact .inr (.inr (.inl ⟨e, h.only ho hp⟩))
  · exact .inr (.inr (.inr ⟨e, h.only ho hp⟩))
theorem Parks.later (h : Parks w p T N L G th un s) (hb : Below w.heap.size w w') : Parks w' p T N L G th un s := h.only (only_below (fun _ => False) hb) id
theorem Parks.lt (h : Parks w p T N L G th un s) : p < w.heap.size := by
  rcases h with ⟨e, h⟩ | ⟨e, h⟩ | ⟨e, h⟩ | ⟨e, h⟩ <;> exact h.lt
end
theorem next_0 {w : World} {p : Nat} {sm un k i a : Int} (h : Raw w p sm un k i a .nilFunc) : Calls Tryd.prog 10 #[.pointer (some ⟨p, 0, none⟩)] w (Told w none) := by
  have HD := Lib.hid (done_yes_b (h.later (box_below w (.cells #[.int .i64 0, .int .i64 0, .int .u64 0, .int .u64 0, .int .u64 0] 38))))
  clear h
  go_enter Tryd.func10, Tryd.ntmps10
  go_wp2_with fail
  refine HD.out.mono ?_
  rintro e w1 ⟨rfl, b1⟩
  obtain ⟨⟨r0, r1, r2, r3, r4⟩, g0, g1, g2, g3, g4⟩ := res5 b1
  obtain ⟨⟨s0, s1, s2, s3, s4⟩, hB⟩ := set5 b1 (.int .i64 0) (.int .i64 0) (.int .u64 0) (.int .u64 0) (.int .u64 0)
  have HB := Lib.hid hB
  clear hB b1
  go_wp2
  exact bodyPost_ret (v := .tuple #[.agg #[.int .i64 0, .int .i64 0, .int .u64 0, .int .u64 0, .int .u64 0], .bool false]) (by simp [results, Tryd.results10, go_sem, s0, s1, s2, s3, s4]) rfl ⟨rfl, HB.out⟩
theorem next_n {w : World} {p : Nat} {sm un k i a : Int} {f : FuncId} {q : Nat} (h : Raw w p sm un k i a (meth f q)) : Calls Tryd.prog 10 #[.pointer (some ⟨p, 0, none⟩)] w (Told w (some (k, i, a, 0, 0))) := by
  have h1 := h.later (box_below w (.cells #[.int .i64 0, .int .i64 0, .int .u64 0, .int .u64 0, .int .u64 0] 38))
  have HX := Lib.hid h1
  have HD := Lib.hid (done_no_b h1)
  clear h h1
  go_enter Tryd.func10, Tryd.ntmps10
  go_wp2_with fail
  refine HD.out.mono ?_
  rintro e w1 ⟨rfl, b1⟩
  obtain ⟨-, -, c_2, c_3, c_4, c_5, c_6, -⟩ := (HX.out.later b1).cells
  obtain ⟨⟨r0, r1, r2, r3, r4⟩, g0, g1, g2, g3, g4⟩ := res5 b1
  obtain ⟨⟨s0, s1, s2, s3, s4⟩, hB⟩ := set5 b1 (.int .i64 k) (.int .i64 i) (.int .u64 a) (.int .u64 0) (.int .u64 0)
  have HB := Lib.hid hB
  clear hB b1
  go_wp2
  exact bodyPost_ret (v := .tuple #[.agg #[.int .i64 k, .int .i64 i, .int .u64 a, .int .u64 0, .int .u64 0], .bool true]) (by simp [results, Tryd.results10, go_sem, s0, s1, s2, s3, s4]) rfl ⟨rfl, HB.out⟩
theorem Park_next {w : World} {p : Nat} {T N L G th un : Int} {s : PaM.St} (h : Parks w p T N L G th un s) : Calls Tryd.prog 10 #[.pointer (some ⟨p, 0, none⟩)] w (Told w (parkA (ofI T 2 th) s)) := by
  rcases h with ⟨rfl, h⟩ | ⟨rfl, h⟩ | ⟨rfl, h⟩ | ⟨rfl, h⟩
  · rw [parkA_0]; exact next_0 h
  · rw [parkA_1]; exact next_n h
  · rw [parkA_2]; exact next_n h
  · rw [parkA_3]; exact next_n h
theorem tell_0 {w : World} {p : Nat} {sm un k i a : Int} {x : Int} (h : Raw w p sm un k i a .nilFunc) : Calls Tryd.prog 11 #[.pointer (some ⟨p, 0, none⟩), .int .u64 x] w fun e w' => e = .returned (.tuple #[]) ∧ w = w' := by
  have HD := Lib.hid (done_yes h)
  clear h
  go_enter Tryd.func11, Tryd.ntmps11
  go_wp2_with fail
  refine HD.out.mono ?_
  rintro e w1 ⟨rfl, rfl⟩
  go_wp2
  exact bodyPost_ret (v := .tuple #[]) (results_none rfl _ _ _) rfl ⟨rfl, rfl⟩
theorem tell_n {w : World} {p : Nat} {sm un k i a : Int} {x : Int} {f : FuncId} {Q : World → Prop} (h : Raw w p sm un k i a (meth f p)) (hcf : ∀ (xs : Array Value) (W : World), (callFunc f xs).run Tryd.prog W = .ok (.enter f xs) W) (hm : Calls Tryd.prog f #[.pointer (some ⟨p, 0, none⟩), .int .u64 x] w fun e w' => e = .returned (.tuple #[]) ∧ Q w') : Calls Tryd.prog 11 #[.pointer (some ⟨p, 0, none⟩), .int .u64 x] w fun e w' => e = .returned (.tuple #[]) ∧ Q w' := by
  have HD := Lib.hid (done_no h)
  have HM := Lib.hid hm
  have c_7 := h.cells.2.2.2.2.2.2.2
  unfold meth at c_7
  clear h hm
  go_enter Tryd.func11, Tryd.ntmps11
  go_wp2_with fail
  refine HD.out.mono ?_
  rintro e w1 ⟨rfl, rfl⟩
  go_wp2_with fail
  refine HM.out.mono ?_
  rintro e w2 ⟨rfl, q⟩
  have HQ := Lib.hid q
  clear q
  go_wp2
  exact bodyPost_end (results_none rfl _ _ _) rfl ⟨rfl, HQ.out⟩
theorem Park_tell {w : World} {p : Nat} {T N L G th un x : Int} {s : PaM.St} (h : Parks w p T N L G th un s) (hx : 0 ≤ x ∧ x < 18446744073709551616) : Calls Tryd.prog 11 #[.pointer (some ⟨p, 0, none⟩), .int .u64 x] w fun e w' => e = .returned (.tuple #[]) ∧ Parks w' p T N L G th un (parkT un s x) ∧ Only (fun k => k = p) w w' := by
  rcases h with ⟨rfl, h⟩ | ⟨rfl, h⟩ | ⟨rfl, h⟩ | ⟨rfl, h⟩
  · rw [parkT_0]
    refine (tell_0 h).mono ?_
    rintro e w' ⟨rfl, rfl⟩
    exact ⟨rfl, .inl ⟨rfl, h⟩, Only.refl _ _⟩
  · by_cases e : x = 0
    · subst e
      rw [parkT_1z]
      exact (tell_n h (fun _ _ => by kernel_rfl) (looked_0 h)).mono fun e w' ⟨h1, h2, h3⟩ => ⟨h1, .inr (.inr (.inr ⟨rfl, h2⟩)), h3⟩
    · rw [parkT_1 e]
      exact (tell_n h (fun _ _ => by kernel_rfl) (looked_n h e)).mono fun e w' ⟨h1, h2, h3⟩ => ⟨h1, .inr (.inr (.inl ⟨rfl, h2⟩)), h3⟩
  · rw [parkT_2]
    exact (tell_n h (fun _ _ => by kernel_rfl) (end_any h)).mono fun e w' ⟨h1, h2, h3⟩ => ⟨h1, .inl ⟨rfl, h2⟩, h3⟩
  · by_cases e : un ≤ wrap64 x
    · rw [parkT_3 e]
      exact (tell_n h (fun _ _ => by kernel_rfl) (timed_late h e)).mono fun e w' ⟨h1, h2, h3⟩ => ⟨h1, .inl ⟨rfl, h2⟩, h3⟩
    · rw [parkT_3n e]
      exact (tell_n h (fun _ _ => by kernel_rfl) (timed_early h e)).mono fun e w' ⟨h1, h2, h3⟩ => ⟨h1, .inr (.inl ⟨rfl, h2⟩), h3⟩
theorem Park_any (T N L G th un : Int) (w : World) : Calls Tryd.prog 9 #[.agg #[.int .i64 T, .int .i64 N, .int .i64 L, .int .u64 G], .int .i64 th, .int .i64 un] w fun e w' => ∃ p, e = .returned (.pointer (some ⟨p, 0, none⟩)) ∧ Parks w' p T N L G th un PaM.start ∧ w.heap.size ≤ p ∧ Below w.heap.size w w' := by
  obtain ⟨c_0, c_1, c_2, c_3⟩ := box4 w (.int .i64 T) (.int .i64 N) (.int .i64 L) (.int .u64 G) 24
  have HB := Lib.hid (box_below w (.cells #[.int .i64 T, .int .i64 N, .int .i64 L, .int .u64 G] 24))
  have HSM := Lib.hid fun W => Plan.Sem_any T N L G th W
  have HPK := Lib.hid (show ∀ W p, Raw W p (ofI T 2 th) un 1 (ofI T 2 th) 0 (meth 34 p) → Parks W p T N L G th un PaM.start from fun W p h => .inr (.inl ⟨rfl, h⟩))
  generalize ofI T 2 th = pl at HSM HPK
  go_enter Tryd.func9, Tryd.ntmps9
  go_wp2_with fail
  refine (HSM.out _).mono ?_
  rintro e w1 ⟨rfl, b1⟩
  have HB1 := Lib.hid (HB.out.trans (b1.mono HB.out.size))
  have hsz := HB1.out.size
  have HE := Lib.hid (show Raw (w1.alloc (.cells #[.int .i64 pl, .int .i64 un, .int .i64 0, .int .i64 0, .int .u64 0, .int .u64 0, .int .u64 0, .nilFunc] 56)) w1.heap.size pl un 0 0 0 .nilFunc from new_heap w1 (.cells #[.int .i64 pl, .int .i64 un, .int .i64 0, .int .i64 0, .int .u64 0, .int .u64 0, .int .u64 0, .nilFunc] 56))
  clear b1 c_0 c_1 c_2 c_3
  go_wp2_with fail
  refine (look_any HE.out).mono ?_
  rintro e w2 ⟨rfl, h2, o2⟩
  have HQ := Lib.hid (And.intro h2 ((HB1.out.trans ((box_below w1 _).mono HB1.out.size)).trans (o2.below ((HB1.out.trans ((box_below w1 (.cells #[.int .i64 pl, .int .i64 un, .int .i64 0, .int .i64 0, .int .u64 0, .int .u64 0, .int .u64 0, .nilFunc] 56)).mono HB1.out.size)).size) (fun k e => by subst e; exact hsz))))
  clear h2 o2
  go_wp2
  go_ret
  exact ⟨w1.heap.size, rfl, HPK.out _ _ HQ.out.1, hsz, HQ.out.2⟩
end Go.Proofs.YtelnkbikgboblaaDoor.Prk
