import Derived.Test.YtjeifnhfdbkkdaaGreatDoorWalkTakesAllP1
import Derived.Test.YtjeifnhfdbkkdaaGreatDoorWalkTakesAllP3
import Derived.Test.YtjeifnhfdbkkdaaGreatDoorWalkTakesAllP7
import Derived.Test.YtjeifnhfdbkkdaaGreatDoorWalkTakesAllP8
import Derived.Test.YtjeifnhfdbkkdaaGreatDoorWalkTakesAllP11
import Derived.Test.YtjeifnhfdbkkdaaGreatDoorWalkTakesAllP12
import Derived.Deep.DeepCutAuto
import Derived.Deep.RegionHeld3
/- Package walk (layer 26), part one: what a walker asks for at each step, and by which function it is told; all else in memory stays as it was. -/
namespace Go.Proofs.YtjeifnhfdbkkdaaGreatDoor.Wlk
set_option maxRecDepth 20000
open Go.ChangeShapes Go.WideShapes Go.RowKit CM DM PM KM WaM Lay Plan Go.Proofs.YtjeifnhfdbkkdaaGreatDoor.Task
open ClM (genI)
set_option linter.unusedVariables false
set_option linter.unusedSimpArgs false

/-- A walker in block p, word by word. -/
def Raw (w : World) (p : Nat) (T N L G ct a nw cu dd : Int) (V : Value) (sp : Int) : Prop := w.heap[p]? = some (.cells #[.int .i64 T, .int .i64 N, .int .i64 L, .int .u64 G, .int .i64 ct, .int .i64 a, .int .i64 nw, .int .u64 cu, .int .i64 dd, V, .int .i64 sp] 64 (0, 0))
theorem only_set (w : World) (p j : Nat) (v : Value) : Only (fun k => k = p) w (w.setCell ⟨p, j, none⟩ v) := only_setCell (R := fun k => k = p) w (p := ⟨p, j, none⟩) rfl v
section
variable {w w' : World} {p : Nat} {T N L G ct a nw cu dd sp : Int} {V : Value}
theorem Raw.lt (h : Raw w p T N L G ct a nw cu dd V sp) : p < w.heap.size := (Array.getElem?_eq_some_iff.1 h).1
theorem Raw.only {R : Nat → Prop} (h : Raw w p T N L G ct a nw cu dd V sp) (ho : Only R w w') (hp : ¬ R p) : Raw w' p T N L G ct a nw cu dd V sp := ho.heap h hp
theorem Raw.later (h : Raw w p T N L G ct a nw cu dd V sp) (hb : Below w.heap.size w w') : Raw w' p T N L G ct a nw cu dd V sp := h.only (only_below (fun _ => False) hb) id
theorem Raw.cells (h : Raw w p T N L G ct a nw cu dd V sp) : w.cell? ⟨p, 0, none⟩ = some (.int .i64 T) ∧ w.cell? ⟨p, 1, none⟩ = some (.int .i64 N) ∧ w.cell? ⟨p, 2, none⟩ = some (.int .i64 L) ∧ w.cell? ⟨p, 3, none⟩ = some (.int .u64 G) ∧
    w.cell? ⟨p, 4, none⟩ = some (.int .i64 ct) ∧ w.cell? ⟨p, 5, none⟩ = some (.int .i64 a) ∧ w.cell? ⟨p, 6, none⟩ = some (.int .i64 nw) ∧ w.cell? ⟨p, 7, none⟩ = some (.int .u64 cu) ∧ w.cell? ⟨p, 8, none⟩ = some (.int .i64 dd) ∧ w.cell? ⟨p, 9, none⟩ = some V ∧ w.cell? ⟨p, 10, none⟩ = some (.int .i64 sp) := by
  have hc := fun j => (cell_heap h j).1
  exact ⟨hc 0, hc 1, hc 2, hc 3, hc 4, hc 5, hc 6, hc 7, hc 8, hc 9, hc 10⟩
theorem Raw.thawed (h : Raw w p T N L G ct a nw cu dd V sp) (j : Nat) : w.frozen? ⟨p, j, none⟩ = false := (cell_heap h j).2
theorem Raw.set_a (h : Raw w p T N L G ct a nw cu dd V sp) (v : Int) : Raw (w.setCell ⟨p, 5, none⟩ (.int .i64 v)) p T N L G ct v nw cu dd V sp := set_heap (j := 5) h (.int .i64 v)
theorem Raw.set_nw (h : Raw w p T N L G ct a nw cu dd V sp) (v : Int) : Raw (w.setCell ⟨p, 6, none⟩ (.int .i64 v)) p T N L G ct a v cu dd V sp := set_heap (j := 6) h (.int .i64 v)
theorem Raw.set_cu (h : Raw w p T N L G ct a nw cu dd V sp) (v : Int) : Raw (w.setCell ⟨p, 7, none⟩ (.int .u64 v)) p T N L G ct a nw v dd V sp := set_heap (j := 7) h (.int .u64 v)
theorem Raw.set_dd (h : Raw w p T N L G ct a nw cu dd V sp) (v : Int) : Raw (w.setCell ⟨p, 8, none⟩ (.int .i64 v)) p T N L G ct a nw cu v V sp := set_heap (j := 8) h (.int .i64 v)
theorem Raw.set_v (h : Raw w p T N L G ct a nw cu dd V sp) (v : Value) : Raw (w.setCell ⟨p, 9, none⟩ v) p T N L G ct a nw cu dd v sp := set_heap (j := 9) h v
theorem Raw.set_sp (h : Raw w p T N L G ct a nw cu dd V sp) (v : Int) : Raw (w.setCell ⟨p, 10, none⟩ (.int .i64 v)) p T N L G ct a nw cu dd V v := set_heap (j := 10) h (.int .i64 v)
end

/-- A method of the walker, as a value. -/
def meth (f : FuncId) (p : Nat) : Value := .func (.func f) #[.pointer (some ⟨p, 0, none⟩)] #[]
/-- What a step tells: a deed, and who is told what is found. -/
def ToldF (w : World) (d : D) (g : Value) (e : Ending) (w' : World) : Prop :=
  e = .returned (.tuple #[.agg #[.int .i64 d.1, .int .i64 d.2.1, .int .u64 d.2.2.1, .int .u64 d.2.2.2.1, .int .u64 d.2.2.2.2], g]) ∧ Below w.heap.size w w'
theorem hmf : ∀ (fn : Fn) (first cap : Array Value) (w : World), (Instr.makeFunc fn first cap).run Tryz.prog w = .ok (.func fn first cap) w := fun _ _ _ _ => rfl

theorem load_any (i y : Int) (w : World) : Calls Tryz.prog 36 #[.int .i64 i, .int .u64 y] w fun e w' => e = .returned (.agg #[.int .i64 1, .int .i64 i, .int .u64 0, .int .u64 0, .int .u64 y]) ∧ Below w.heap.size w w' := by
  have HB := Lib.hid (box_below w (.cells #[.int .i64 1, .int .i64 i, .int .u64 0, .int .u64 0, .int .u64 y] 38))
  obtain ⟨⟨s0, s1, s2, s3, s4⟩, -⟩ := res5 (Below.refl (w.alloc (.cells #[.int .i64 1, .int .i64 i, .int .u64 0, .int .u64 0, .int .u64 y] 38)).heap.size (w.alloc (.cells #[.int .i64 1, .int .i64 i, .int .u64 0, .int .u64 0, .int .u64 y] 38)))
  go_enter Tryz.func36, Tryz.ntmps36
  go_wp2
  exact bodyPost_ret (v := .agg #[.int .i64 1, .int .i64 i, .int .u64 0, .int .u64 0, .int .u64 y]) (by simp [results, Tryz.results36, go_sem, s0, s1, s2, s3, s4]) rfl ⟨rfl, HB.out⟩
theorem at_1 (w : World) : Calls Tryz.prog 27 #[.int .i64 1] w fun e w' => e = .returned (.func (.func 35) #[] #[]) ∧ w = w' := by
  have hix : ∀ W : World, (Instr.index 82 (.agg #[.nilFunc, .func (.func 35) #[] #[], .func (.func 38) #[] #[], .func (.func 41) #[] #[], .func (.func 45) #[] #[], .func (.func 48) #[] #[], .func (.func 52) #[] #[], .func (.func 55) #[] #[]]) (.int .i64 1)).run Tryz.prog W = .ok (.func (.func 35) #[] #[]) W := fun _ => by kernel_rfl
  go_enter Tryz.func27, Tryz.ntmps27
  go_wp2
  go_ret
  exact ⟨rfl, rfl⟩
theorem at_2 (w : World) : Calls Tryz.prog 27 #[.int .i64 2] w fun e w' => e = .returned (.func (.func 38) #[] #[]) ∧ w = w' := by
  have hix : ∀ W : World, (Instr.index 82 (.agg #[.nilFunc, .func (.func 35) #[] #[], .func (.func 38) #[] #[], .func (.func 41) #[] #[], .func (.func 45) #[] #[], .func (.func 48) #[] #[], .func (.func 52) #[] #[], .func (.func 55) #[] #[]]) (.int .i64 2)).run Tryz.prog W = .ok (.func (.func 38) #[] #[]) W := fun _ => by kernel_rfl
  go_enter Tryz.func27, Tryz.ntmps27
  go_wp2
  go_ret
  exact ⟨rfl, rfl⟩
theorem at_3 (w : World) : Calls Tryz.prog 27 #[.int .i64 3] w fun e w' => e = .returned (.func (.func 41) #[] #[]) ∧ w = w' := by
  have hix : ∀ W : World, (Instr.index 82 (.agg #[.nilFunc, .func (.func 35) #[] #[], .func (.func 38) #[] #[], .func (.func 41) #[] #[], .func (.func 45) #[] #[], .func (.func 48) #[] #[], .func (.func 52) #[] #[], .func (.func 55) #[] #[]]) (.int .i64 3)).run Tryz.prog W = .ok (.func (.func 41) #[] #[]) W := fun _ => by kernel_rfl
  go_enter Tryz.func27, Tryz.ntmps27
  go_wp2
  go_ret
  exact ⟨rfl, rfl⟩
theorem at_4 (w : World) : Calls Tryz.prog 27 #[.int .i64 4] w fun e w' => e = .returned (.func (.func 45) #[] #[]) ∧ w = w' := by
  have hix : ∀ W : World, (Instr.index 82 (.agg #[.nilFunc, .func (.func 35) #[] #[], .func (.func 38) #[] #[], .func (.func 41) #[] #[], .func (.func 45) #[] #[], .func (.func 48) #[] #[], .func (.func 52) #[] #[], .func (.func 55) #[] #[]]) (.int .i64 4)).run Tryz.prog W = .ok (.func (.func 45) #[] #[]) W := fun _ => by kernel_rfl
  go_enter Tryz.func27, Tryz.ntmps27
  go_wp2
  go_ret
  exact ⟨rfl, rfl⟩
theorem at_5 (w : World) : Calls Tryz.prog 27 #[.int .i64 5] w fun e w' => e = .returned (.func (.func 48) #[] #[]) ∧ w = w' := by
  have hix : ∀ W : World, (Instr.index 82 (.agg #[.nilFunc, .func (.func 35) #[] #[], .func (.func 38) #[] #[], .func (.func 41) #[] #[], .func (.func 45) #[] #[], .func (.func 48) #[] #[], .func (.func 52) #[] #[], .func (.func 55) #[] #[]]) (.int .i64 5)).run Tryz.prog W = .ok (.func (.func 48) #[] #[]) W := fun _ => by kernel_rfl
  go_enter Tryz.func27, Tryz.ntmps27
  go_wp2
  go_ret
  exact ⟨rfl, rfl⟩
theorem at_6 (w : World) : Calls Tryz.prog 27 #[.int .i64 6] w fun e w' => e = .returned (.func (.func 52) #[] #[]) ∧ w = w' := by
  have hix : ∀ W : World, (Instr.index 82 (.agg #[.nilFunc, .func (.func 35) #[] #[], .func (.func 38) #[] #[], .func (.func 41) #[] #[], .func (.func 45) #[] #[], .func (.func 48) #[] #[], .func (.func 52) #[] #[], .func (.func 55) #[] #[]]) (.int .i64 6)).run Tryz.prog W = .ok (.func (.func 52) #[] #[]) W := fun _ => by kernel_rfl
  go_enter Tryz.func27, Tryz.ntmps27
  go_wp2
  go_ret
  exact ⟨rfl, rfl⟩
theorem at_7 (w : World) : Calls Tryz.prog 27 #[.int .i64 7] w fun e w' => e = .returned (.func (.func 55) #[] #[]) ∧ w = w' := by
  have hix : ∀ W : World, (Instr.index 82 (.agg #[.nilFunc, .func (.func 35) #[] #[], .func (.func 38) #[] #[], .func (.func 41) #[] #[], .func (.func 45) #[] #[], .func (.func 48) #[] #[], .func (.func 52) #[] #[], .func (.func 55) #[] #[]]) (.int .i64 7)).run Tryz.prog W = .ok (.func (.func 55) #[] #[]) W := fun _ => by kernel_rfl
  go_enter Tryz.func27, Tryz.ntmps27
  go_wp2
  go_ret
  exact ⟨rfl, rfl⟩
theorem step_1 (p : Nat) (w : World) : Calls Tryz.prog 35 #[.pointer (some ⟨p, 0, none⟩)] w (ToldF w (1, 1, 0, 0, 0) (meth 37 p)) := by
  have HL := Lib.hid fun W => load_any 1 0 W
  have hf := hmf
  go_enter Tryz.func35, Tryz.ntmps35
  go_wp2_with fail
  refine (HL.out _).mono ?_
  rintro e w1 ⟨rfl, b1⟩
  obtain ⟨⟨r0, r1, r2, r3, r4⟩, g0, g1, g2, g3, g4⟩ := res5 b1
  obtain ⟨⟨s0, s1, s2, s3, s4⟩, hB⟩ := set5 b1 (.int .i64 1) (.int .i64 1) (.int .u64 0) (.int .u64 0) (.int .u64 0)
  have HB := Lib.hid hB
  clear hB b1
  go_wp2
  exact bodyPost_ret (v := .tuple #[.agg #[.int .i64 1, .int .i64 1, .int .u64 0, .int .u64 0, .int .u64 0], meth 37 p]) (by simp [results, Tryz.results35, go_sem, meth, s0, s1, s2, s3, s4]) rfl ⟨rfl, HB.out⟩
theorem step_2 {w : World} {p : Nat} {T N L G ct a nw cu dd sp : Int} {V : Value} (h : Raw w p T N L G ct a nw cu dd V sp) : Calls Tryz.prog 38 #[.pointer (some ⟨p, 0, none⟩)] w (ToldF w (1, nextI T L 0 0, 0, 0, 0) (meth 40 p)) := by
  obtain ⟨c_0, c_1, c_2, c_3, -⟩ := (h.later (box_below w (.cells #[.int .i64 0, .int .i64 0, .int .u64 0, .int .u64 0, .int .u64 0] 38))).cells
  have HN := Lib.hid fun W => Next_any T N L G 0 0 W
  generalize nextI T L 0 0 = pl at HN ⊢
  have HL := Lib.hid fun W => load_any pl 0 W
  have hf := hmf
  clear h
  go_enter Tryz.func38, Tryz.ntmps38
  go_wp2_with fail
  refine (HN.out _).mono ?_
  rintro e w1 ⟨rfl, b0⟩
  have HB0 := Lib.hid b0
  clear b0 c_0 c_1 c_2 c_3
  go_wp2_with fail
  refine (HL.out _).mono ?_
  rintro e w2 ⟨rfl, b2⟩
  have b1 := HB0.out.trans (b2.mono HB0.out.size)
  obtain ⟨⟨r0, r1, r2, r3, r4⟩, g0, g1, g2, g3, g4⟩ := res5 b1
  obtain ⟨⟨s0, s1, s2, s3, s4⟩, hB⟩ := set5 b1 (.int .i64 1) (.int .i64 pl) (.int .u64 0) (.int .u64 0) (.int .u64 0)
  have HB := Lib.hid hB
  clear hB b1 b2
  go_wp2
  exact bodyPost_ret (v := .tuple #[.agg #[.int .i64 1, .int .i64 pl, .int .u64 0, .int .u64 0, .int .u64 0], meth 40 p]) (by simp [results, Tryz.results38, go_sem, meth, s0, s1, s2, s3, s4]) rfl ⟨rfl, HB.out⟩

theorem stay {w : World} {p : Nat} {T N L G ct a nw cu dd sp : Int} {V : Value} (h : Raw w p T N L G ct a nw cu dd V sp) : (fun W : World => W.cell? ⟨p, 0, none⟩ = some (.int .i64 T) ∧ W.cell? ⟨p, 1, none⟩ = some (.int .i64 N) ∧ W.cell? ⟨p, 2, none⟩ = some (.int .i64 L) ∧ W.cell? ⟨p, 3, none⟩ = some (.int .u64 G) ∧ W.cell? ⟨p, 7, none⟩ = some (.int .u64 cu)) w := by
  obtain ⟨e0, e1, e2, e3, e4, e5, e6, e7, -⟩ := h.cells
  exact ⟨e0, e1, e2, e3, e7⟩
theorem raw_past {w : World} {p : Nat} {T N L G ct a nw cu dd sp : Int} {V : Value} {W : World} (h : Raw w p T N L G ct a nw cu dd V sp) (hb : Below (w.alloc (.cells #[.int .i64 0, .int .i64 0, .int .u64 0, .int .u64 0, .int .u64 0] 38)).heap.size (w.alloc (.cells #[.int .i64 0, .int .i64 0, .int .u64 0, .int .u64 0, .int .u64 0] 38)) W) : Raw W p T N L G ct a nw cu dd V sp := h.only (only_below (fun _ => False) ((box_below w (.cells #[.int .i64 0, .int .i64 0, .int .u64 0, .int .u64 0, .int .u64 0] 38)).trans (hb.mono (by simp)))) id
theorem stay_past {w : World} {p : Nat} {T N L G ct a nw cu dd sp : Int} {V : Value} {W : World} (h : Raw w p T N L G ct a nw cu dd V sp) (hb : Below (w.alloc (.cells #[.int .i64 0, .int .i64 0, .int .u64 0, .int .u64 0, .int .u64 0] 38)).heap.size (w.alloc (.cells #[.int .i64 0, .int .i64 0, .int .u64 0, .int .u64 0, .int .u64 0] 38)) W) : (fun W : World => W.cell? ⟨p, 0, none⟩ = some (.int .i64 T) ∧ W.cell? ⟨p, 1, none⟩ = some (.int .i64 N) ∧ W.cell? ⟨p, 2, none⟩ = some (.int .i64 L) ∧ W.cell? ⟨p, 3, none⟩ = some (.int .u64 G) ∧ W.cell? ⟨p, 7, none⟩ = some (.int .u64 cu)) W := stay (raw_past h hb)
theorem stay_set {w : World} {p : Nat} {T N L G ct a nw cu dd sp : Int} {V : Value} {W : World} (h : Raw w p T N L G ct a nw cu dd V sp) (hb : Below (w.alloc (.cells #[.int .i64 0, .int .i64 0, .int .u64 0, .int .u64 0, .int .u64 0] 38)).heap.size (w.alloc (.cells #[.int .i64 0, .int .i64 0, .int .u64 0, .int .u64 0, .int .u64 0] 38)) W) (u0 u1 u2 u3 u4 : Value) : (fun W : World => W.cell? ⟨p, 0, none⟩ = some (.int .i64 T) ∧ W.cell? ⟨p, 1, none⟩ = some (.int .i64 N) ∧ W.cell? ⟨p, 2, none⟩ = some (.int .i64 L) ∧ W.cell? ⟨p, 3, none⟩ = some (.int .u64 G) ∧ W.cell? ⟨p, 7, none⟩ = some (.int .u64 cu)) ((((((W.setCell ⟨w.heap.size, 0, none⟩ u0).setCell ⟨w.heap.size, 1, none⟩ u1).setCell ⟨w.heap.size, 2, none⟩ u2).setCell ⟨w.heap.size, 3, none⟩ u3).setCell ⟨w.heap.size, 4, none⟩ u4)) := by
  have hp := h.lt
  have ho : ∀ (W : World) (j : Nat) (v : Value), Only (fun k => k = w.heap.size) W (W.setCell ⟨w.heap.size, j, none⟩ v) := fun W j v => only_set W w.heap.size j v
  exact stay ((raw_past h hb).only ((((((ho W 0 u0).trans (ho _ 1 u1)).trans (ho _ 2 u2)).trans (ho _ 3 u3)).trans (ho _ 4 u4))) (show ¬ p = w.heap.size by omega))
theorem stateAt_any {w : World} {p : Nat} {T N L G ct a nw cu dd sp : Int} {V : Value} (h : Raw w p T N L G ct a nw cu dd V sp) (hc : 0 ≤ cu ∧ cu < 18446744073709551616) : Calls Tryz.prog 46 #[.pointer (some ⟨p, 0, none⟩)] w fun e w' => e = .returned (.int .i64 (atI T L (idx cu) 0)) ∧ Below w.heap.size w w' := by
  have HS0 := Lib.hid (show (fun W : World => W.cell? ⟨p, 0, none⟩ = some (.int .i64 T) ∧ W.cell? ⟨p, 1, none⟩ = some (.int .i64 N) ∧ W.cell? ⟨p, 2, none⟩ = some (.int .i64 L) ∧ W.cell? ⟨p, 3, none⟩ = some (.int .u64 G) ∧ W.cell? ⟨p, 7, none⟩ = some (.int .u64 cu)) w.drew from stay h)
  have HK := Lib.hid (show ∀ W, Below w.heap.size w W → (fun W : World => W.cell? ⟨p, 0, none⟩ = some (.int .i64 T) ∧ W.cell? ⟨p, 1, none⟩ = some (.int .i64 N) ∧ W.cell? ⟨p, 2, none⟩ = some (.int .i64 L) ∧ W.cell? ⟨p, 3, none⟩ = some (.int .u64 G) ∧ W.cell? ⟨p, 7, none⟩ = some (.int .u64 cu)) W from fun W hb => stay (h.later hb))
  have HIX := Lib.hid fun W => Refer.Index_any cu hc.1 hc.2 W
  have HSL := Lib.hid fun W => Plan.State_any T N L G (idx cu) W
  rw [show cu % 4294967296 / 2 = idx cu from rfl] at HIX
  generalize atI T L (idx cu) 0 = pl at HSL ⊢
  generalize idx cu = i at HIX HSL
  clear h hc
  go_enter Tryz.func46, Tryz.ntmps46
  go_wp2_with fail
  go_region_held3 (fun W => W.cell? ⟨p, 0, none⟩ = some (.int .i64 T) ∧ W.cell? ⟨p, 1, none⟩ = some (.int .i64 N) ∧ W.cell? ⟨p, 2, none⟩ = some (.int .i64 L) ∧ W.cell? ⟨p, 3, none⟩ = some (.int .u64 G) ∧ W.cell? ⟨p, 7, none⟩ = some (.int .u64 cu))
    ((first | (with_reducible exact HS0.out) | (with_reducible assumption) | (with_reducible exact HS2.out)))
    (first
      | (go_at_call 43; refine (HIX.out _).mono ?_; rintro e w3 ⟨rfl, rfl⟩)
      | (go_at_call 83; refine (HSL.out _).mono ?_; rintro e w4 ⟨rfl, hb⟩; have HB2 := Lib.hid ((Below.refl w.heap.size w).drew.trans hb); have HS2 := Lib.hid (HK.out _ HB2.out); clear hb))
  go_wp2
  go_ret
  exact ⟨rfl, HB2.out⟩
theorem step_4 {w : World} {p : Nat} {T N L G ct a nw cu dd sp : Int} {V : Value} (h : Raw w p T N L G ct a nw cu dd V sp) (hc : 0 ≤ cu ∧ cu < 18446744073709551616) : Calls Tryz.prog 45 #[.pointer (some ⟨p, 0, none⟩)] w (ToldF w (1, atI T L (idx cu) 0, 0, 0, 0) (meth 47 p)) := by
  have HN := Lib.hid (stateAt_any (h.later (box_below w (.cells #[.int .i64 0, .int .i64 0, .int .u64 0, .int .u64 0, .int .u64 0] 38))) hc)
  generalize atI T L (idx cu) 0 = pl at HN ⊢
  have HL := Lib.hid fun W => load_any pl 0 W
  have hf := hmf
  clear h hc
  go_enter Tryz.func45, Tryz.ntmps45
  go_wp2_with fail
  refine (HN.out).mono ?_
  rintro e w1 ⟨rfl, b0⟩
  have HB0 := Lib.hid b0
  clear b0
  go_wp2_with fail
  refine (HL.out _).mono ?_
  rintro e w2 ⟨rfl, b2⟩
  have b1 := HB0.out.trans (b2.mono HB0.out.size)
  obtain ⟨⟨r0, r1, r2, r3, r4⟩, g0, g1, g2, g3, g4⟩ := res5 b1
  obtain ⟨⟨s0, s1, s2, s3, s4⟩, hB⟩ := set5 b1 (.int .i64 1) (.int .i64 pl) (.int .u64 0) (.int .u64 0) (.int .u64 0)
  have HB := Lib.hid hB
  clear hB b1 b2
  go_wp2
  exact bodyPost_ret (v := .tuple #[.agg #[.int .i64 1, .int .i64 pl, .int .u64 0, .int .u64 0, .int .u64 0], meth 47 p]) (by simp [results, Tryz.results45, go_sem, meth, s0, s1, s2, s3, s4]) rfl ⟨rfl, HB.out⟩
theorem step_3 {w : World} {p : Nat} {T N L G ct a nw cu dd sp : Int} {V : Value} (h : Raw w p T N L G ct a nw cu dd V sp) (hc : 0 ≤ cu ∧ cu < 18446744073709551616) : Calls Tryz.prog 41 #[.pointer (some ⟨p, 0, none⟩)] w (ToldF w (1, atI T L (idx cu) 1, 0, 0, cu) (meth 44 p)) := by
  have HX := Lib.hid h
  have HB0 := Lib.hid (show Below (w.alloc (.cells #[.int .i64 0, .int .i64 0, .int .u64 0, .int .u64 0, .int .u64 0] 38)).heap.size (w.alloc (.cells #[.int .i64 0, .int .i64 0, .int .u64 0, .int .u64 0, .int .u64 0] 38)) (w.alloc (.cells #[.int .i64 0, .int .i64 0, .int .u64 0, .int .u64 0, .int .u64 0] 38)) from Below.refl _ _)
  have HS0 := Lib.hid (show (fun W : World => W.cell? ⟨p, 0, none⟩ = some (.int .i64 T) ∧ W.cell? ⟨p, 1, none⟩ = some (.int .i64 N) ∧ W.cell? ⟨p, 2, none⟩ = some (.int .i64 L) ∧ W.cell? ⟨p, 3, none⟩ = some (.int .u64 G) ∧ W.cell? ⟨p, 7, none⟩ = some (.int .u64 cu)) (w.alloc (.cells #[.int .i64 0, .int .i64 0, .int .u64 0, .int .u64 0, .int .u64 0] 38)).drew from stay (raw_past h HB0.out.drew))
  have HIX := Lib.hid fun W => Refer.Index_any cu hc.1 hc.2 W
  have HSL := Lib.hid fun W => Plan.Dead_any T N L G (idx cu) W
  rw [show cu % 4294967296 / 2 = idx cu from rfl] at HIX
  generalize atI T L (idx cu) 1 = pl at HSL ⊢
  generalize idx cu = i at HIX HSL
  have HL := Lib.hid fun W => load_any pl cu W
  have hf := hmf
  clear h hc
  go_enter Tryz.func41, Tryz.ntmps41
  go_wp2_with fail
  go_region_held3 (fun W => W.cell? ⟨p, 0, none⟩ = some (.int .i64 T) ∧ W.cell? ⟨p, 1, none⟩ = some (.int .i64 N) ∧ W.cell? ⟨p, 2, none⟩ = some (.int .i64 L) ∧ W.cell? ⟨p, 3, none⟩ = some (.int .u64 G) ∧ W.cell? ⟨p, 7, none⟩ = some (.int .u64 cu))
    ((first | (with_reducible exact HS0.out) | (with_reducible assumption) | (with_reducible exact HS2.out) | (with_reducible exact HS4.out) | (with_reducible exact stay_set HX.out HB4.out _ _ _ _ _)))
    (first
      | (go_at_call 43; refine (HIX.out _).mono ?_; rintro e w3 ⟨rfl, rfl⟩)
      | (go_at_call 42; refine (HSL.out _).mono ?_; rintro e w3 ⟨rfl, hb⟩; have HB2 := Lib.hid (show Below (w.alloc (.cells #[.int .i64 0, .int .i64 0, .int .u64 0, .int .u64 0, .int .u64 0] 38)).heap.size (w.alloc (.cells #[.int .i64 0, .int .i64 0, .int .u64 0, .int .u64 0, .int .u64 0] 38)) w3 from HB0.out.drew.trans hb); have HS2 := Lib.hid (stay_past HX.out HB2.out); clear hb)
      | (go_at_call 36; refine (HL.out _).mono ?_; rintro e w4 ⟨rfl, hb⟩; have HB4 := Lib.hid (show Below (w.alloc (.cells #[.int .i64 0, .int .i64 0, .int .u64 0, .int .u64 0, .int .u64 0] 38)).heap.size (w.alloc (.cells #[.int .i64 0, .int .i64 0, .int .u64 0, .int .u64 0, .int .u64 0] 38)) w4 from HB2.out.trans (hb.mono HB2.out.size)); have HS4 := Lib.hid (stay_past HX.out HB4.out); obtain ⟨⟨r0, r1, r2, r3, r4⟩, q0, q1, q2, q3, q4⟩ := res5 HB4.out; clear hb))
  all_goals obtain ⟨⟨s0, s1, s2, s3, s4⟩, hB⟩ := set5 HB4.out (.int .i64 1) (.int .i64 pl) (.int .u64 0) (.int .u64 0) (.int .u64 cu)
  all_goals have HB := Lib.hid hB
  all_goals clear hB r0 r1 r2 r3 r4 q0 q1 q2 q3 q4
  all_goals go_wp2
  all_goals exact bodyPost_ret (v := .tuple #[.agg #[.int .i64 1, .int .i64 pl, .int .u64 0, .int .u64 0, .int .u64 cu], meth 44 p]) (by simp [results, Tryz.results41, go_sem, meth, s0, s1, s2, s3, s4]) rfl ⟨rfl, HB.out⟩
theorem step_6 {w : World} {p : Nat} {T N L G ct a nw cu dd sp : Int} {V : Value} (h : Raw w p T N L G ct a nw cu dd V sp) (hc : 0 ≤ cu ∧ cu < 18446744073709551616) : Calls Tryz.prog 52 #[.pointer (some ⟨p, 0, none⟩)] w (ToldF w (1, atI T L (idx cu) 2, 0, 0, cu) (meth 54 p)) := by
  have HX := Lib.hid h
  have HB0 := Lib.hid (show Below (w.alloc (.cells #[.int .i64 0, .int .i64 0, .int .u64 0, .int .u64 0, .int .u64 0] 38)).heap.size (w.alloc (.cells #[.int .i64 0, .int .i64 0, .int .u64 0, .int .u64 0, .int .u64 0] 38)) (w.alloc (.cells #[.int .i64 0, .int .i64 0, .int .u64 0, .int .u64 0, .int .u64 0] 38)) from Below.refl _ _)
  have HS0 := Lib.hid (show (fun W : World => W.cell? ⟨p, 0, none⟩ = some (.int .i64 T) ∧ W.cell? ⟨p, 1, none⟩ = some (.int .i64 N) ∧ W.cell? ⟨p, 2, none⟩ = some (.int .i64 L) ∧ W.cell? ⟨p, 3, none⟩ = some (.int .u64 G) ∧ W.cell? ⟨p, 7, none⟩ = some (.int .u64 cu)) (w.alloc (.cells #[.int .i64 0, .int .i64 0, .int .u64 0, .int .u64 0, .int .u64 0] 38)).drew from stay (raw_past h HB0.out.drew))
  have HIX := Lib.hid fun W => Refer.Index_any cu hc.1 hc.2 W
  have HSL := Lib.hid fun W => Plan.Seq_any T N L G (idx cu) W
  rw [show cu % 4294967296 / 2 = idx cu from rfl] at HIX
  generalize atI T L (idx cu) 2 = pl at HSL ⊢
  generalize idx cu = i at HIX HSL
  have HL := Lib.hid fun W => load_any pl cu W
  have hf := hmf
  clear h hc
  go_enter Tryz.func52, Tryz.ntmps52
  go_wp2_with fail
  go_region_held3 (fun W => W.cell? ⟨p, 0, none⟩ = some (.int .i64 T) ∧ W.cell? ⟨p, 1, none⟩ = some (.int .i64 N) ∧ W.cell? ⟨p, 2, none⟩ = some (.int .i64 L) ∧ W.cell? ⟨p, 3, none⟩ = some (.int .u64 G) ∧ W.cell? ⟨p, 7, none⟩ = some (.int .u64 cu))
    ((first | (with_reducible exact HS0.out) | (with_reducible assumption) | (with_reducible exact HS2.out) | (with_reducible exact HS4.out) | (with_reducible exact stay_set HX.out HB4.out _ _ _ _ _)))
    (first
      | (go_at_call 43; refine (HIX.out _).mono ?_; rintro e w3 ⟨rfl, rfl⟩)
      | (go_at_call 53; refine (HSL.out _).mono ?_; rintro e w3 ⟨rfl, hb⟩; have HB2 := Lib.hid (show Below (w.alloc (.cells #[.int .i64 0, .int .i64 0, .int .u64 0, .int .u64 0, .int .u64 0] 38)).heap.size (w.alloc (.cells #[.int .i64 0, .int .i64 0, .int .u64 0, .int .u64 0, .int .u64 0] 38)) w3 from HB0.out.drew.trans hb); have HS2 := Lib.hid (stay_past HX.out HB2.out); clear hb)
      | (go_at_call 36; refine (HL.out _).mono ?_; rintro e w4 ⟨rfl, hb⟩; have HB4 := Lib.hid (show Below (w.alloc (.cells #[.int .i64 0, .int .i64 0, .int .u64 0, .int .u64 0, .int .u64 0] 38)).heap.size (w.alloc (.cells #[.int .i64 0, .int .i64 0, .int .u64 0, .int .u64 0, .int .u64 0] 38)) w4 from HB2.out.trans (hb.mono HB2.out.size)); have HS4 := Lib.hid (stay_past HX.out HB4.out); obtain ⟨⟨r0, r1, r2, r3, r4⟩, q0, q1, q2, q3, q4⟩ := res5 HB4.out; clear hb))
  all_goals obtain ⟨⟨s0, s1, s2, s3, s4⟩, hB⟩ := set5 HB4.out (.int .i64 1) (.int .i64 pl) (.int .u64 0) (.int .u64 0) (.int .u64 cu)
  all_goals have HB := Lib.hid hB
  all_goals clear hB r0 r1 r2 r3 r4 q0 q1 q2 q3 q4
  all_goals go_wp2
  all_goals exact bodyPost_ret (v := .tuple #[.agg #[.int .i64 1, .int .i64 pl, .int .u64 0, .int .u64 0, .int .u64 cu], meth 54 p]) (by simp [results, Tryz.results52, go_sem, meth, s0, s1, s2, s3, s4]) rfl ⟨rfl, HB.out⟩
theorem step_7 {w : World} {p : Nat} {T N L G ct a nw cu dd sp : Int} {V : Value} (h : Raw w p T N L G ct a nw cu dd V sp) (hc : 0 ≤ cu ∧ cu < 18446744073709551616) : Calls Tryz.prog 55 #[.pointer (some ⟨p, 0, none⟩)] w (ToldF w (1, nextI T L (idx cu) 0, 0, 0, cu) (meth 40 p)) := by
  have HX := Lib.hid h
  have HB0 := Lib.hid (show Below (w.alloc (.cells #[.int .i64 0, .int .i64 0, .int .u64 0, .int .u64 0, .int .u64 0] 38)).heap.size (w.alloc (.cells #[.int .i64 0, .int .i64 0, .int .u64 0, .int .u64 0, .int .u64 0] 38)) (w.alloc (.cells #[.int .i64 0, .int .i64 0, .int .u64 0, .int .u64 0, .int .u64 0] 38)) from Below.refl _ _)
  have HS0 := Lib.hid (show (fun W : World => W.cell? ⟨p, 0, none⟩ = some (.int .i64 T) ∧ W.cell? ⟨p, 1, none⟩ = some (.int .i64 N) ∧ W.cell? ⟨p, 2, none⟩ = some (.int .i64 L) ∧ W.cell? ⟨p, 3, none⟩ = some (.int .u64 G) ∧ W.cell? ⟨p, 7, none⟩ = some (.int .u64 cu)) (w.alloc (.cells #[.int .i64 0, .int .i64 0, .int .u64 0, .int .u64 0, .int .u64 0] 38)).drew from stay (raw_past h HB0.out.drew))
  have HIX := Lib.hid fun W => Refer.Index_any cu hc.1 hc.2 W
  have HSL := Lib.hid fun W => Plan.Next_any T N L G (idx cu) 0 W
  rw [show cu % 4294967296 / 2 = idx cu from rfl] at HIX
  generalize nextI T L (idx cu) 0 = pl at HSL ⊢
  generalize idx cu = i at HIX HSL
  have HL := Lib.hid fun W => load_any pl cu W
  have hf := hmf
  clear h hc
  go_enter Tryz.func55, Tryz.ntmps55
  go_wp2_with fail
  go_region_held3 (fun W => W.cell? ⟨p, 0, none⟩ = some (.int .i64 T) ∧ W.cell? ⟨p, 1, none⟩ = some (.int .i64 N) ∧ W.cell? ⟨p, 2, none⟩ = some (.int .i64 L) ∧ W.cell? ⟨p, 3, none⟩ = some (.int .u64 G) ∧ W.cell? ⟨p, 7, none⟩ = some (.int .u64 cu))
    ((first | (with_reducible exact HS0.out) | (with_reducible assumption) | (with_reducible exact HS2.out) | (with_reducible exact HS4.out) | (with_reducible exact stay_set HX.out HB4.out _ _ _ _ _)))
    (first
      | (go_at_call 43; refine (HIX.out _).mono ?_; rintro e w3 ⟨rfl, rfl⟩)
      | (go_at_call 39; refine (HSL.out _).mono ?_; rintro e w3 ⟨rfl, hb⟩; have HB2 := Lib.hid (show Below (w.alloc (.cells #[.int .i64 0, .int .i64 0, .int .u64 0, .int .u64 0, .int .u64 0] 38)).heap.size (w.alloc (.cells #[.int .i64 0, .int .i64 0, .int .u64 0, .int .u64 0, .int .u64 0] 38)) w3 from HB0.out.drew.trans hb); have HS2 := Lib.hid (stay_past HX.out HB2.out); clear hb)
      | (go_at_call 36; refine (HL.out _).mono ?_; rintro e w4 ⟨rfl, hb⟩; have HB4 := Lib.hid (show Below (w.alloc (.cells #[.int .i64 0, .int .i64 0, .int .u64 0, .int .u64 0, .int .u64 0] 38)).heap.size (w.alloc (.cells #[.int .i64 0, .int .i64 0, .int .u64 0, .int .u64 0, .int .u64 0] 38)) w4 from HB2.out.trans (hb.mono HB2.out.size)); have HS4 := Lib.hid (stay_past HX.out HB4.out); obtain ⟨⟨r0, r1, r2, r3, r4⟩, q0, q1, q2, q3, q4⟩ := res5 HB4.out; clear hb))
  all_goals obtain ⟨⟨s0, s1, s2, s3, s4⟩, hB⟩ := set5 HB4.out (.int .i64 1) (.int .i64 pl) (.int .u64 0) (.int .u64 0) (.int .u64 cu)
  all_goals have HB := Lib.hid hB
  all_goals clear hB r0 r1 r2 r3 r4 q0 q1 q2 q3 q4
  all_goals go_wp2
  all_goals exact bodyPost_ret (v := .tuple #[.agg #[.int .i64 1, .int .i64 pl, .int .u64 0, .int .u64 0, .int .u64 cu], meth 40 p]) (by simp [results, Tryz.results55, go_sem, meth, s0, s1, s2, s3, s4]) rfl ⟨rfl, HB.out⟩
theorem step_5 {w : World} {p : Nat} {T N L G ct a nw cu dd sp : Int} {V : Value} (h : Raw w p T N L G ct a nw cu dd V sp) (hc : 0 ≤ cu ∧ cu < 18446744073709551616) : Calls Tryz.prog 48 #[.pointer (some ⟨p, 0, none⟩)] w (ToldF w (3, atI T L (idx cu) 0, SM.stI (genI cu) 2, SM.stI (genI cu) 3, 0) (meth 51 p)) := by
  obtain ⟨-, -, -, -, -, -, -, c_7, -⟩ := (h.later (box_below w (.cells #[.int .i64 0, .int .i64 0, .int .u64 0, .int .u64 0, .int .u64 0] 38))).cells
  have HN := Lib.hid (stateAt_any (h.later (box_below w (.cells #[.int .i64 0, .int .i64 0, .int .u64 0, .int .u64 0, .int .u64 0] 38))) hc)
  have HGN := Lib.hid fun W => Refer.Gen_any cu hc.1 hc.2 W
  have hg := ClM.gen_ok hc
  have HO2 := Lib.hid fun W => State.Of_any (genI cu) 2 hg.1 W
  have HO3 := Lib.hid fun W => State.Of_any (genI cu) 3 hg.1 W
  rw [show cu / 4294967296 = genI cu from rfl] at HGN
  clear hg
  generalize genI cu = g at HGN HO2 HO3 ⊢
  generalize atI T L (idx cu) 0 = pl at HN ⊢
  generalize SM.stI g 2 = av at HO2 ⊢
  generalize SM.stI g 3 = bv at HO3 ⊢
  have hf := hmf
  clear h hc
  go_enter Tryz.func48, Tryz.ntmps48
  go_wp2_with fail
  refine (HGN.out _).mono ?_
  rintro e w2 ⟨rfl, rfl⟩
  clear c_7
  go_wp2_with fail
  refine (HN.out).mono ?_
  rintro e w1 ⟨rfl, b1⟩
  have HB1 := Lib.hid b1
  clear b1
  go_wp2_with fail
  refine (HO2.out _).mono ?_
  rintro e w2 ⟨rfl, rfl⟩
  go_wp2_with fail
  refine (HO3.out _).mono ?_
  rintro e w2 ⟨rfl, rfl⟩
  obtain ⟨⟨r0, r1, r2, r3, r4⟩, g0, g1, g2, g3, g4⟩ := res5 HB1.out
  obtain ⟨⟨s0, s1, s2, s3, s4⟩, hB⟩ := set5 HB1.out (.int .i64 3) (.int .i64 pl) (.int .u64 av) (.int .u64 bv) (.int .u64 0)
  have HB := Lib.hid hB
  clear hB
  go_wp2
  exact bodyPost_ret (v := .tuple #[.agg #[.int .i64 3, .int .i64 pl, .int .u64 av, .int .u64 bv, .int .u64 0], meth 51 p]) (by simp [results, Tryz.results48, go_sem, meth, s0, s1, s2, s3, s4]) rfl ⟨rfl, HB.out⟩
end Go.Proofs.YtjeifnhfdbkkdaaGreatDoor.Wlk
