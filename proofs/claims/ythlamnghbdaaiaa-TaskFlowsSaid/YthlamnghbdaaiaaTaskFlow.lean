/- Package task's Flow (layer 11), its parts: asking a part's task, going on behind one that is done; all else in memory stays as it was. -/
import Derived.Test.YthlamnghbdaaiaaTaskTell
import Derived.Defers
import Derived.WalkMore
import Derived.LoopN
import Derived.RangeFuncBox
import Derived.Deep.RegionHeld3
namespace Go.Proofs.Ythlamnghbdaaiaa.Task
open Go.ChangeShapes Go.WideShapes Go.RowKit CM DM Lay Ints Cells
set_option linter.unusedVariables false

/-- A part in block pb: its task, what is called behind it, whether the task is being asked. -/
def PartAt (w : World) (pb : Nat) (tv fv : Value) (b : Bool) : Prop := w.heap[pb]? = some (.cells #[tv, fv, .bool b] 66 (0, 0))
/-- A flow in block f: its part, if it has one, and how deep it is. -/
def FlowAt (w : World) (f : Nat) (nv : Option Nat) (d : Nat) : Prop := w.heap[f]? = some (.cells #[.pointer (nv.map fun pb => ⟨pb, 0, none⟩), .int .i64 d] 62 (0, 0))
/-- A script as a task. -/
abbrev taskV (p : Nat) : Value := .iface 25 (.pointer (some ⟨p, 0, none⟩))

theorem methods_task : Try.prog.underlying 64 = some (.interface (Try.prog.methodsAt 64)) := by kernel_rfl
theorem task_held (p : Nat) (w : World) : (binOp .eql 64 (taskV p) .nilIface).run Try.prog w = .ok (.bool false) w := run_eql_held_nil w _ _ _ methods_task
theorem method_next (p : Nat) (n : Nat) (w : World) : (method (n + 1) 25 (.pointer (some ⟨p, 0, none⟩)) "Next").run Try.prog w = .ok (8, .pointer (some ⟨p, 0, none⟩)) w := by kernel_rfl
theorem hmf : ∀ (fn : Fn) (first cap : Array Value) (w : World), (Instr.makeFunc fn first cap).run Try.prog w = .ok (.func fn first cap) w := fun _ _ _ _ => rfl
theorem ask1_d {pb b0 : Nat} {tv fv : Value} {t : TypeId} (u : FrameMode) (w : World) (hP : PartAt w pb tv fv true) (hB : Boxed w b0 t (.pointer (some ⟨pb, 0, none⟩))) :
    CallsD Try.prog 32 #[.pointer (some ⟨b0, 0, none⟩)] u w fun e u' w' => u' = u ∧ (e = .returned (.tuple #[]) ∧ w' = w.setCell ⟨pb, 2, none⟩ (.bool false)) := by
  have c0 := (cell_heap hP 2).1
  have c1 := (cell_heap hP 2).2
  have d0 := hB.cell
  simp at c0
  clear hP hB
  go_enter_d Try.func32, Try.ntmps32
  go_wp2
  go_end0
  exact ⟨rfl, rfl⟩
theorem ask_boxes (w : World) (pb : Nat) : Below w.heap.size w ((w.alloc (.cells #[.pointer (some ⟨pb, 0, none⟩)] 60)).alloc (.cells #[.int .i64 0, .int .i64 0, .int .u64 0, .int .u64 0, .int .u64 0] 29)) :=
  ((Below.refl _ _).alloc (Nat.le_refl _) _).alloc (by simp) _
theorem _root_.Go.RowKit.Below.part {w w' : World} {pb : Nat} {tv fv : Value} {b : Bool} (hb : Below w.heap.size w w') (hP : PartAt w pb tv fv b) : PartAt w' pb tv fv b := (hb.block pb (Array.getElem?_eq_some_iff.1 hP).1).trans hP
theorem set_only {R : Nat → Prop} {a b : World} (h : Only R a b) (q o : Nat) (hq : R q ∨ a.heap.size ≤ q) (v : Value) : Only R a (b.setCell ⟨q, o, none⟩ v) := h.setCell (p := ⟨q, o, none⟩) hq v
/-- What lies where when the part's task has been asked. -/
structure Mid (w w' : World) (pb : Nat) (tv fv : Value) : Prop where
  part : PartAt w' pb tv fv true
  box : Boxed w' w.heap.size 60 (.pointer (some ⟨pb, 0, none⟩))
  res : w'.heap[w.heap.size + 1]? = some (.cells #[.int .i64 0, .int .i64 0, .int .u64 0, .int .u64 0, .int .u64 0] 29 (0, 0))
  old : pb < w.heap.size
  only : Only (fun k => k = pb) w w'
theorem Mid.mk' {w w' : World} {pb : Nat} {tv fv : Value} (hP : PartAt w pb tv fv false) (hb : Below ((((w.alloc (.cells #[.pointer (some ⟨pb, 0, none⟩)] 60)).alloc (.cells #[.int .i64 0, .int .i64 0, .int .u64 0, .int .u64 0, .int .u64 0] 29)).setCell ⟨pb, 2, none⟩ (.bool true))).heap.size ((((w.alloc (.cells #[.pointer (some ⟨pb, 0, none⟩)] 60)).alloc (.cells #[.int .i64 0, .int .i64 0, .int .u64 0, .int .u64 0, .int .u64 0] 29)).setCell ⟨pb, 2, none⟩ (.bool true))) w') : Mid w w' pb tv fv := by
  have hlt := (Array.getElem?_eq_some_iff.1 hP).1
  have h2 := (ask_boxes w pb).part hP
  have hS : Only (fun k => k = pb) ((w.alloc (.cells #[.pointer (some ⟨pb, 0, none⟩)] 60)).alloc (.cells #[.int .i64 0, .int .i64 0, .int .u64 0, .int .u64 0, .int .u64 0] 29)) w' := (only_setCell (R := fun k => k = pb) _ (p := ⟨pb, 2, none⟩) rfl _).then_below hb
  have h3 := hb.part (show PartAt _ pb tv fv true from by have := set_heap (j := 2) h2 (.bool true); simpa [PartAt] using this)
  refine ⟨h3, hS.heap (o := .cells #[.pointer (some ⟨pb, 0, none⟩)] 60) ?_ (by omega), hS.heap (o := .cells #[.int .i64 0, .int .i64 0, .int .u64 0, .int .u64 0, .int .u64 0] 29) ?_ (by omega), hlt, (only_below _ (ask_boxes w pb)).trans hS⟩
  · exact (Below.heap_alloc _ _ _ (by simp)).trans (new_heap w _)
  · have := new_heap (w.alloc (.cells #[.pointer (some ⟨pb, 0, none⟩)] 60)) (.cells #[.int .i64 0, .int .i64 0, .int .u64 0, .int .u64 0, .int .u64 0] 29)
    rwa [World.size_alloc] at this
/-- .. and when the answer has been laid. -/
theorem Mid.set {w w' : World} {pb : Nat} {tv fv : Value} (h : Mid w w' pb tv fv) (u0 u1 u2 u3 u4 : Value) :
    let W := (((((w'.setCell ⟨w.heap.size + 1, 0, none⟩ u0).setCell ⟨w.heap.size + 1, 1, none⟩ u1).setCell ⟨w.heap.size + 1, 2, none⟩ u2).setCell ⟨w.heap.size + 1, 3, none⟩ u3).setCell ⟨w.heap.size + 1, 4, none⟩ u4)
    PartAt W pb tv fv true ∧ Boxed W w.heap.size 60 (.pointer (some ⟨pb, 0, none⟩)) ∧
    ((W.setCell ⟨pb, 2, none⟩ (.bool false)).cell? ⟨w.heap.size + 1, 0, none⟩ = some u0 ∧ (W.setCell ⟨pb, 2, none⟩ (.bool false)).cell? ⟨w.heap.size + 1, 1, none⟩ = some u1 ∧ (W.setCell ⟨pb, 2, none⟩ (.bool false)).cell? ⟨w.heap.size + 1, 2, none⟩ = some u2 ∧ (W.setCell ⟨pb, 2, none⟩ (.bool false)).cell? ⟨w.heap.size + 1, 3, none⟩ = some u3 ∧ (W.setCell ⟨pb, 2, none⟩ (.bool false)).cell? ⟨w.heap.size + 1, 4, none⟩ = some u4) ∧
    Only (fun k => k = pb) w (W.setCell ⟨pb, 2, none⟩ (.bool false)) ∧ PartAt (W.setCell ⟨pb, 2, none⟩ (.bool false)) pb tv fv false := by
  obtain ⟨hP, hB, hr, hlt, ho⟩ := h
  have hb := set_heap (j := 4) (set_heap (j := 3) (set_heap (j := 2) (set_heap (j := 1) (set_heap (j := 0) hr u0) u1) u2) u3) u4
  have hW : Only (fun k => k = w.heap.size + 1) w' (((((w'.setCell ⟨w.heap.size + 1, 0, none⟩ u0).setCell ⟨w.heap.size + 1, 1, none⟩ u1).setCell ⟨w.heap.size + 1, 2, none⟩ u2).setCell ⟨w.heap.size + 1, 3, none⟩ u3).setCell ⟨w.heap.size + 1, 4, none⟩ u4) :=
    set_only (set_only (set_only (set_only (set_only (Only.refl (fun k => k = w.heap.size + 1) w') _ 0 (.inl rfl) u0) _ 1 (.inl rfl) u1) _ 2 (.inl rfl) u2) _ 3 (.inl rfl) u3) _ 4 (.inl rfl) u4
  have hP' := hW.heap hP (by omega)
  have hB' := hW.heap hB (by omega)
  intro W
  have hb5 : (W.setCell ⟨pb, 2, none⟩ (.bool false)).heap[w.heap.size + 1]? = _ := (only_setCell (R := fun k => k = pb) W (p := ⟨pb, 2, none⟩) rfl (.bool false)).heap hb (by omega)
  refine ⟨hP', hB', ⟨(cell_heap hb5 0).1, (cell_heap hb5 1).1, (cell_heap hb5 2).1, (cell_heap hb5 3).1, (cell_heap hb5 4).1⟩, ((ho.more hW (fun i hi => .inr (by omega))).setCell (.inl rfl) _), ?_⟩
  have := set_heap (j := 2) hP' (.bool false)
  simpa [PartAt] using this
theorem ask_more {pb p q g : Nat} {fv : Value} {ds : List D} {fs : List Int} {x : D} {w : World} (hP : PartAt w pb (taskV p) fv false) (hS : Scr w p q g ds fs) (hx : ds[fs.length]? = some x) (hp : pb ≠ p ∧ pb ≠ q ∧ pb ≠ g) :
    Calls Try.prog 26 #[.pointer (some ⟨pb, 0, none⟩)] w fun e w' => e = .returned (.tuple #[.agg #[.int .i64 x.1, .int .i64 x.2.1, .int .u64 x.2.2.1, .int .u64 x.2.2.2.1, .int .u64 x.2.2.2.2], .bool true]) ∧ Only (fun k => k = pb) w w' ∧ PartAt w' pb (taskV p) fv false := by
  have hb2 := ask_boxes w pb
  have hP2 := hb2.part hP
  have H0 := Lib.hid hP
  have HP := Lib.hid hP2
  have HS := Lib.hid (hS.later hb2)
  have HX := Lib.hid hx
  clear hP hS hx hP2 hb2
  go_enter_defers Try.func26, Try.ntmps26
  have c0 := (cell_heap HP.out 0).1
  have c2 := (cell_heap HP.out 2).1
  have c3 := (cell_heap HP.out 2).2
  replace c0 : _ = some (taskV p) := c0
  replace c2 : _ = some (Value.bool false) := c2
  have hm := fun W => task_held p W
  have hn := method_next p
  have hf := hmf
  go_wp2_with fail
  refine (Next_more (HS.out.only (only_setCell (R := fun k => k = pb) _ rfl _) (fun e => hp.1 e.symm) (fun e => hp.2.1 e.symm) (fun e => hp.2.2 e.symm)) HX.out).mono ?_
  rintro e w1 ⟨rfl, hb⟩
  have hmid := Mid.mk' H0.out hb
  have HM := Lib.hid hmid
  have r0 := (cell_heap hmid.res 0).1
  have r1 := (cell_heap hmid.res 1).1
  have r2 := (cell_heap hmid.res 2).1
  have r3 := (cell_heap hmid.res 3).1
  have r4 := (cell_heap hmid.res 4).1
  have f0 := (cell_heap hmid.res 0).2
  have f1 := (cell_heap hmid.res 1).2
  have f2 := (cell_heap hmid.res 2).2
  have f3 := (cell_heap hmid.res 3).2
  have f4 := (cell_heap hmid.res 4).2
  clear hb hmid hn hm c0 c2 c3
  simp at r0 r1 r2 r3 r4
  go_wp2
  obtain ⟨hP5, hB5, ⟨s0, s1, s2, s3, s4⟩, ho5, hE⟩ := HM.out.set (.int .i64 x.1) (.int .i64 x.2.1) (.int .u64 x.2.2.1) (.int .u64 x.2.2.2.1) (.int .u64 x.2.2.2.2)
  refine leaves_cons (f := 32) (args := #[.pointer (some ⟨w.heap.size, 0, none⟩)]) (by simp) (by simp [go_sem]) ?_
  refine (ask1_d .returning _ hP5 hB5).mono ?_
  rintro e u' w'' ⟨rfl, rfl, rfl⟩
  exact ⟨.tuple #[.agg #[.int .i64 x.1, .int .i64 x.2.1, .int .u64 x.2.2.1, .int .u64 x.2.2.2.1, .int .u64 x.2.2.2.2], .bool true], (by simp [results, Try.f26, go_sem, s0, s1, s2, s3, s4]), rfl, ho5, hE⟩
theorem ask_done {pb p q g : Nat} {fv : Value} {ds : List D} {fs : List Int}  {w : World} (hP : PartAt w pb (taskV p) fv false) (hS : Scr w p q g ds fs) (hx : fs.length = ds.length) (hp : pb ≠ p ∧ pb ≠ q ∧ pb ≠ g) :
    Calls Try.prog 26 #[.pointer (some ⟨pb, 0, none⟩)] w fun e w' => e = .returned (.tuple #[.agg #[.int .i64 0, .int .i64 0, .int .u64 0, .int .u64 0, .int .u64 0], .bool false]) ∧ Only (fun k => k = pb) w w' ∧ PartAt w' pb (taskV p) fv false := by
  have hb2 := ask_boxes w pb
  have hP2 := hb2.part hP
  have H0 := Lib.hid hP
  have HP := Lib.hid hP2
  have HS := Lib.hid (hS.later hb2)
  have HX := Lib.hid hx
  clear hP hS hx hP2 hb2
  go_enter_defers Try.func26, Try.ntmps26
  have c0 := (cell_heap HP.out 0).1
  have c2 := (cell_heap HP.out 2).1
  have c3 := (cell_heap HP.out 2).2
  replace c0 : _ = some (taskV p) := c0
  replace c2 : _ = some (Value.bool false) := c2
  have hm := fun W => task_held p W
  have hn := method_next p
  have hf := hmf
  go_wp2_with fail
  refine (Next_done (HS.out.only (only_setCell (R := fun k => k = pb) _ rfl _) (fun e => hp.1 e.symm) (fun e => hp.2.1 e.symm) (fun e => hp.2.2 e.symm)) HX.out).mono ?_
  rintro e w1 ⟨rfl, hb⟩
  have hmid := Mid.mk' H0.out hb
  have HM := Lib.hid hmid
  have r0 := (cell_heap hmid.res 0).1
  have r1 := (cell_heap hmid.res 1).1
  have r2 := (cell_heap hmid.res 2).1
  have r3 := (cell_heap hmid.res 3).1
  have r4 := (cell_heap hmid.res 4).1
  have f0 := (cell_heap hmid.res 0).2
  have f1 := (cell_heap hmid.res 1).2
  have f2 := (cell_heap hmid.res 2).2
  have f3 := (cell_heap hmid.res 3).2
  have f4 := (cell_heap hmid.res 4).2
  clear hb hmid hn hm c0 c2 c3
  simp at r0 r1 r2 r3 r4
  go_wp2
  obtain ⟨hP5, hB5, ⟨s0, s1, s2, s3, s4⟩, ho5, hE⟩ := HM.out.set (.int .i64 0) (.int .i64 0) (.int .u64 0) (.int .u64 0) (.int .u64 0)
  refine leaves_cons (f := 32) (args := #[.pointer (some ⟨w.heap.size, 0, none⟩)]) (by simp) (by simp [go_sem]) ?_
  refine (ask1_d .returning _ hP5 hB5).mono ?_
  rintro e u' w'' ⟨rfl, rfl, rfl⟩
  exact ⟨.tuple #[.agg #[.int .i64 0, .int .i64 0, .int .u64 0, .int .u64 0, .int .u64 0], .bool false], (by simp [results, Try.f26, go_sem, s0, s1, s2, s3, s4]), rfl, ho5, hE⟩
theorem neq_nil (w : World) : (binOp .neq 1 .nilFunc .nilFunc).run Try.prog w = .ok (.bool false) w := by kernel_rfl
theorem neq_some (k : Nat) (a b : Value) (w : World) : (binOp .neq 1 (.func (.func k) #[] #[a, b]) .nilFunc).run Try.prog w = .ok (.bool true) w := by kernel_rfl
/-- Nothing comes behind the part. -/
theorem goOn_nil {f pb d : Nat} {tv : Value} {b : Bool} {w : World} (hF : FlowAt w f (some pb) d) (hP : PartAt w pb tv .nilFunc b) :
    Calls Try.prog 27 #[.pointer (some ⟨f, 0, none⟩)] w fun e w' => e = .returned (.tuple #[]) ∧ Only (fun k => k = f) w w' ∧ FlowAt w' f none d := by
  have hb := (Below.refl w.heap.size w).alloc (Nat.le_refl _) (.cells #[.pointer (some ⟨f, 0, none⟩)] 36)
  have hF2 : FlowAt (w.alloc (.cells #[.pointer (some ⟨f, 0, none⟩)] 36)) f (some pb) d := (hb.block f (Array.getElem?_eq_some_iff.1 hF).1).trans hF
  have c0 := (cell_heap hF2 0).1
  have c1 := (cell_heap hF2 0).2
  have c2 := (cell_heap (hb.part hP) 1).1
  replace c0 : _ = some (Value.pointer (some ⟨pb, 0, none⟩)) := c0
  replace c2 : _ = some Value.nilFunc := c2
  have HO := Lib.hid ((only_below (fun k => k = f) hb).trans (only_setCell (R := fun k => k = f) (w.alloc (.cells #[.pointer (some ⟨f, 0, none⟩)] 36)) (p := ⟨f, 0, none⟩) rfl (.pointer none)))
  have HF := Lib.hid (show FlowAt ((w.alloc (.cells #[.pointer (some ⟨f, 0, none⟩)] 36)).setCell ⟨f, 0, none⟩ (.pointer none)) f none d from by have := set_heap (j := 0) hF2 (.pointer none); simpa [FlowAt] using this)
  clear hb hF hF2 hP
  go_enter_defers Try.func27, Try.ntmps27
  have hnn := neq_nil
  go_wp2
  exact ⟨_, results_none rfl _ _ _, rfl, HO.out, HF.out⟩
end Go.Proofs.Ythlamnghbdaaiaa.Task
