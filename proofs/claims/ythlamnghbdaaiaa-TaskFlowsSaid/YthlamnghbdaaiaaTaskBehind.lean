/- Package task's Flow of two scripts: what is called behind the first one. -/
import Derived.Test.YthlamnghbdaaiaaTaskNext
namespace Go.Proofs.Ythlamnghbdaaiaa.Task
open Go.ChangeShapes Go.WideShapes Go.RowKit CM DM Lay Ints Cells
set_option linter.unusedVariables false

/-- What the function that comes behind has captured. -/
structure Caps (w : World) (b1 b2 f p : Nat) : Prop where
  flow : Boxed w b1 36 (.pointer (some ⟨f, 0, none⟩))
  script : Boxed w b2 25 (.pointer (some ⟨p, 0, none⟩))
theorem Caps.only {w w' : World} {b1 b2 f p : Nat} {R : Nat → Prop} (h : Caps w b1 b2 f p) (ho : Only R w w') (h1 : ¬ R b1) (h2 : ¬ R b2) : Caps w' b1 b2 f p := ⟨ho.heap h.flow h1, ho.heap h.script h2⟩
theorem Caps.later {w w' : World} {b1 b2 f p : Nat} (h : Caps w b1 b2 f p) (hb : Below w.heap.size w w') : Caps w' b1 b2 f p := h.only (only_below (fun _ => False) hb) id id
/-- A flow that has come to its end. -/
def Ended (w : World) (f d : Nat) (e : Ending) (w' : World) : Prop := e = .returned (.tuple #[]) ∧ FlowAt w' f none d ∧ Only (fun k => k = f) w w'

theorem beh_more {b1 b2 f d p q g : Nat} {nv : Option Nat} {ds : List D} {fs : List Int} {x : D} {w : World} (hC : Caps w b1 b2 f p) (hF : FlowAt w f nv d)  (hS : Scr w p q g ds fs) (hx : ds[fs.length]? = some x) (hp : f ≠ p ∧ f ≠ q ∧ f ≠ g) :
    Calls Try.prog 25 #[.pointer (some ⟨b1, 0, none⟩), .pointer (some ⟨b2, 0, none⟩)] w (Given w f d p .nilFunc) := by
  have HT := Lib.hid (show Calls Try.prog 16 #[.pointer (some ⟨f, 0, none⟩), taskV p, .nilFunc] w (Given w f d p .nilFunc) from To_more hF hS hx hp)
  have c1 := hC.flow.cell
  have c2 := hC.script.cell
  clear hC hF hS hx hp
  go_enter Try.func25, Try.ntmps25
  go_wp2_with fail
  refine HT.out.mono ?_
  rintro e w1 h
  have HH := Lib.hid h
  have he : e = .returned (.tuple #[]) := h.choose_spec.1
  clear h
  subst he
  go_wp2
  refine bodyPost_end (results_none rfl _ _ _) rfl ?_
  exact HH.out
theorem beh_done {b1 b2 f d p q g : Nat} {nv : Option Nat} {ds : List D} {fs : List Int}  {w : World} (hC : Caps w b1 b2 f p) (hF : FlowAt w f nv d) (hd : d < 65536) (hS : Scr w p q g ds fs) (hx : fs.length = ds.length) (hp : f ≠ p ∧ f ≠ q ∧ f ≠ g) :
    Calls Try.prog 25 #[.pointer (some ⟨b1, 0, none⟩), .pointer (some ⟨b2, 0, none⟩)] w (Ended w f d) := by
  have HT := Lib.hid (show Calls Try.prog 16 #[.pointer (some ⟨f, 0, none⟩), taskV p, .nilFunc] w (Ended w f d) from To_done hF hd hS hx hp)
  have c1 := hC.flow.cell
  have c2 := hC.script.cell
  clear hC hF hS hx hp
  go_enter Try.func25, Try.ntmps25
  go_wp2_with fail
  refine HT.out.mono ?_
  rintro e w1 h
  have HH := Lib.hid h
  have he : e = .returned (.tuple #[]) := h.1
  clear h
  subst he
  go_wp2
  refine bodyPost_end (results_none rfl _ _ _) rfl ?_
  exact HH.out
theorem goOn1_d {f b0 d : Nat} {nv : Option Nat} {t : TypeId} (u : FrameMode) (w : World) (hF : FlowAt w f nv (d + 1)) (hd : d < 65536) (hB : Boxed w b0 t (.pointer (some ⟨f, 0, none⟩))) :
    CallsD Try.prog 33 #[.pointer (some ⟨b0, 0, none⟩)] u w fun e u' w' => u' = u ∧ (e = .returned (.tuple #[]) ∧ w' = w.setCell ⟨f, 1, none⟩ (.int .i64 (d : Int))) := by
  have c0 := (cell_heap hF 1).1
  have c1 := (cell_heap hF 1).2
  have d0 := hB.cell
  replace c0 : _ = some (Value.int .i64 ((d : Int) + 1)) := c0
  have he : (d : Int) + 1 - 1 = (d : Int) := by omega
  clear hF hB
  go_enter_d Try.func33, Try.ntmps33
  go_wp2
  go_end0
  exact ⟨rfl, rfl⟩
/-- Ahead of the call of what comes behind. -/
structure Pre (w w' : World) (f d : Nat) : Prop where
  flow : FlowAt w' f none (d + 1)
  box : Boxed w' w.heap.size 36 (.pointer (some ⟨f, 0, none⟩))
  only : Only (fun k => k = f) w w'
  old : f < w.heap.size
theorem Pre.mk' {w : World} {f d : Nat} {nv : Option Nat} (hF : FlowAt w f nv d) : Pre w (((w.setCell ⟨f, 0, none⟩ (.pointer none)).setCell ⟨f, 1, none⟩ (.int .i64 ((d : Int) + 1))).alloc (.cells #[.pointer (some ⟨f, 0, none⟩)] 36)) f d := by
  have hlt := (Array.getElem?_eq_some_iff.1 hF).1
  have h1 := set_heap (j := 1) (set_heap (j := 0) hF (.pointer none)) (.int .i64 ((d : Int) + 1))
  have ho := set_only (set_only (Only.refl (fun k => k = f) w) f 0 (.inl rfl) (.pointer none)) f 1 (.inl rfl) (.int .i64 ((d : Int) + 1))
  have hsz : ((w.setCell ⟨f, 0, none⟩ (.pointer none)).setCell ⟨f, 1, none⟩ (.int .i64 ((d : Int) + 1))).heap.size = w.heap.size := by simp [World.setCell]
  have hb := (Below.refl _ ((w.setCell ⟨f, 0, none⟩ (.pointer none)).setCell ⟨f, 1, none⟩ (.int .i64 ((d : Int) + 1)))).alloc (Nat.le_refl _) (.cells #[.pointer (some ⟨f, 0, none⟩)] 36)
  have hn := new_heap ((w.setCell ⟨f, 0, none⟩ (.pointer none)).setCell ⟨f, 1, none⟩ (.int .i64 ((d : Int) + 1))) (.cells #[.pointer (some ⟨f, 0, none⟩)] 36)
  rw [hsz] at hn
  exact ⟨hb.flow (by simpa [FlowAt] using h1), hn, ho.then_below hb, hlt⟩
/-- The world behind the first store. -/
theorem pre_cells {w : World} {f d : Nat} {nv : Option Nat} (hF : FlowAt w f nv d) : ((w.setCell ⟨f, 0, none⟩ (.pointer none)).alloc (.cells #[.pointer (some ⟨f, 0, none⟩)] 36)).cell? ⟨f, 1, none⟩ = some (.int .i64 (d : Int)) ∧ ((w.setCell ⟨f, 0, none⟩ (.pointer none)).alloc (.cells #[.pointer (some ⟨f, 0, none⟩)] 36)).frozen? ⟨f, 1, none⟩ = false := by
  have hb := (Below.refl _ (w.setCell ⟨f, 0, none⟩ (.pointer none))).alloc (Nat.le_refl _) (.cells #[.pointer (some ⟨f, 0, none⟩)] 36)
  have h := hb.flow (show FlowAt _ f none d from by have := set_heap (j := 0) hF (.pointer none); simpa [FlowAt] using this)
  exact ⟨(cell_heap h 1).1, (cell_heap h 1).2⟩
theorem back_more {w W w1 : World} {f d p : Nat} {fv : Value} {e : Ending} (hP : Pre w W f d) (h : Given W f (d + 1) p fv e w1) : e = .returned (.tuple #[]) ∧ (∃ nv, FlowAt w1 f nv (d + 1)) ∧ Boxed w1 w.heap.size 36 (.pointer (some ⟨f, 0, none⟩)) ∧ Given w f d p fv (.returned (.tuple #[])) (w1.setCell ⟨f, 1, none⟩ (.int .i64 (d : Int))) := by
  obtain ⟨pb, he, hF, hPt, hpb, ho⟩ := h
  have hs := hP.only.size
  have hlt := hP.old
  have h1 := set_heap (j := 1) hF (.int .i64 (d : Int))
  have hS := set_only (Only.refl (fun k => k = f) w1) f 1 (.inl rfl) (.int .i64 (d : Int))
  exact ⟨he, ⟨_, hF⟩, ho.heap hP.box (by omega), pb, rfl, by simpa [FlowAt] using h1, hS.heap hPt (by omega), by omega, (hP.only.trans ho).trans hS⟩
theorem back_done {w W w1 : World} {f d : Nat} {e : Ending} (hP : Pre w W f d) (h : Ended W f (d + 1) e w1) : e = .returned (.tuple #[]) ∧ (∃ nv, FlowAt w1 f nv (d + 1)) ∧ Boxed w1 w.heap.size 36 (.pointer (some ⟨f, 0, none⟩)) ∧ Ended w f d (.returned (.tuple #[])) (w1.setCell ⟨f, 1, none⟩ (.int .i64 (d : Int))) := by
  obtain ⟨he, hF, ho⟩ := h
  have hlt := hP.old
  have h1 := set_heap (j := 1) hF (.int .i64 (d : Int))
  have hS := set_only (Only.refl (fun k => k = f) w1) f 1 (.inl rfl) (.int .i64 (d : Int))
  exact ⟨he, ⟨_, hF⟩, ho.heap hP.box (by omega), rfl, by simpa [FlowAt] using h1, (hP.only.trans ho).trans hS⟩
theorem goOn_more {b1 b2 f pb d p q g : Nat} {tv : Value} {b : Bool} {ds : List D} {fs : List Int} {x : D} {w : World} (hF : FlowAt w f (some pb) d) (hd : d < 65535) (hP : PartAt w pb tv (Value.func (.func 25) #[] #[.pointer (some ⟨b1, 0, none⟩), .pointer (some ⟨b2, 0, none⟩)]) b) (hC : Caps w b1 b2 f p) (hb1 : ¬ b1 = f) (hb2 : ¬ b2 = f) (hS : Scr w p q g ds fs) (hx : ds[fs.length]? = some x) (hp : f ≠ p ∧ f ≠ q ∧ f ≠ g) :
    Calls Try.prog 27 #[.pointer (some ⟨f, 0, none⟩)] w (Given w f d p .nilFunc) := by
  have HPR := Lib.hid (Pre.mk' hF)
  have HC := Lib.hid hC
  have HS := Lib.hid hS
  have HB := Lib.hid (beh_more (HC.out.only HPR.out.only hb1 hb2) HPR.out.flow (HS.out.only HPR.out.only (fun e => hp.1 e.symm) (fun e => hp.2.1 e.symm) (fun e => hp.2.2 e.symm)) hx hp)
  have hb := (Below.refl w.heap.size w).alloc (Nat.le_refl _) (.cells #[.pointer (some ⟨f, 0, none⟩)] 36)
  have hF2 := hb.flow hF
  have c0 := (cell_heap hF2 0).1
  have c1 := (cell_heap hF2 0).2
  have c2 := (cell_heap (hb.part hP) 1).1
  obtain ⟨c3, c4⟩ := pre_cells hF
  replace c0 : _ = some (Value.pointer (some ⟨pb, 0, none⟩)) := c0
  replace c2 : _ = some (Value.func (.func 25) #[] #[.pointer (some ⟨b1, 0, none⟩), .pointer (some ⟨b2, 0, none⟩)]) := c2
  have hlt := (Array.getElem?_eq_some_iff.1 hF).1
  have hne1 : ¬ f = w.heap.size := by omega
  have hne2 : ¬ w.heap.size = f := by omega
  clear hb hF hF2 hP hC hS hx hb1 hb2
  go_enter_defers Try.func27, Try.ntmps27
  have hnn := neq_some 25 (.pointer (some ⟨b1, 0, none⟩)) (.pointer (some ⟨b2, 0, none⟩))
  have hf := hmf
  go_wp2_with fail
  refine HB.out.mono ?_
  rintro e w1 hR
  obtain ⟨he, ⟨nv, hF1⟩, hB1, hG⟩ := back_more HPR.out hR
  have HG := Lib.hid hG
  have HF1 := Lib.hid hF1
  have HB1 := Lib.hid hB1
  clear hR hG hF1 hB1 c0 c1 c2 c3 c4 hnn
  subst he
  go_wp2
  refine leaves_cons (f := 33) (args := #[.pointer (some ⟨w.heap.size, 0, none⟩)]) (by simp) (by simp [go_sem]) ?_
  refine (goOn1_d .returning _ HF1.out (by omega) HB1.out).mono ?_
  rintro e u' w'' ⟨rfl, rfl, rfl⟩
  exact ⟨_, results_none rfl _ _ _, HG.out⟩
theorem goOn_done {b1 b2 f pb d p q g : Nat} {tv : Value} {b : Bool} {ds : List D} {fs : List Int}  {w : World} (hF : FlowAt w f (some pb) d) (hd : d < 65535) (hP : PartAt w pb tv (Value.func (.func 25) #[] #[.pointer (some ⟨b1, 0, none⟩), .pointer (some ⟨b2, 0, none⟩)]) b) (hC : Caps w b1 b2 f p) (hb1 : ¬ b1 = f) (hb2 : ¬ b2 = f) (hS : Scr w p q g ds fs) (hx : fs.length = ds.length) (hp : f ≠ p ∧ f ≠ q ∧ f ≠ g) :
    Calls Try.prog 27 #[.pointer (some ⟨f, 0, none⟩)] w (Ended w f d) := by
  have HPR := Lib.hid (Pre.mk' hF)
  have HC := Lib.hid hC
  have HS := Lib.hid hS
  have HB := Lib.hid (beh_done (HC.out.only HPR.out.only hb1 hb2) HPR.out.flow (by omega) (HS.out.only HPR.out.only (fun e => hp.1 e.symm) (fun e => hp.2.1 e.symm) (fun e => hp.2.2 e.symm)) hx hp)
  have hb := (Below.refl w.heap.size w).alloc (Nat.le_refl _) (.cells #[.pointer (some ⟨f, 0, none⟩)] 36)
  have hF2 := hb.flow hF
  have c0 := (cell_heap hF2 0).1
  have c1 := (cell_heap hF2 0).2
  have c2 := (cell_heap (hb.part hP) 1).1
  obtain ⟨c3, c4⟩ := pre_cells hF
  replace c0 : _ = some (Value.pointer (some ⟨pb, 0, none⟩)) := c0
  replace c2 : _ = some (Value.func (.func 25) #[] #[.pointer (some ⟨b1, 0, none⟩), .pointer (some ⟨b2, 0, none⟩)]) := c2
  have hlt := (Array.getElem?_eq_some_iff.1 hF).1
  have hne1 : ¬ f = w.heap.size := by omega
  have hne2 : ¬ w.heap.size = f := by omega
  clear hb hF hF2 hP hC hS hx hb1 hb2
  go_enter_defers Try.func27, Try.ntmps27
  have hnn := neq_some 25 (.pointer (some ⟨b1, 0, none⟩)) (.pointer (some ⟨b2, 0, none⟩))
  have hf := hmf
  go_wp2_with fail
  refine HB.out.mono ?_
  rintro e w1 hR
  obtain ⟨he, ⟨nv, hF1⟩, hB1, hG⟩ := back_done HPR.out hR
  have HG := Lib.hid hG
  have HF1 := Lib.hid hF1
  have HB1 := Lib.hid hB1
  clear hR hG hF1 hB1 c0 c1 c2 c3 c4 hnn
  subst he
  go_wp2
  refine leaves_cons (f := 33) (args := #[.pointer (some ⟨w.heap.size, 0, none⟩)]) (by simp) (by simp [go_sem]) ?_
  refine (goOn1_d .returning _ HF1.out (by omega) HB1.out).mono ?_
  rintro e u' w'' ⟨rfl, rfl, rfl⟩
  exact ⟨_, results_none rfl _ _ _, HG.out⟩
end Go.Proofs.Ythlamnghbdaaiaa.Task
