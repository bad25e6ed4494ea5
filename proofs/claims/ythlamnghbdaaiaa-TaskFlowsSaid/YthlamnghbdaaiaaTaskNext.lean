/- Package task's Flow: what it asks for while one script is its last task, and what it is given. -/
import Derived.Test.YthlamnghbdaaiaaTaskFlow
import Derived.Lib.Builder
namespace Go.Proofs.Ythlamnghbdaaiaa.Task
open Go.ChangeShapes Go.WideShapes Go.RowKit CM DM Lay Ints Cells
set_option linter.unusedVariables false

theorem neq_part (pb : Nat) (w : World) : (binOp .neq 60 (.pointer (some ⟨pb, 0, none⟩)) (.pointer (some ⟨pb, 0, none⟩))).run Try.prog w = .ok (.bool false) w := by
  obtain ⟨j, hj⟩ := Option.isSome_iff_exists.1 (show (Try.prog.info? 66).isSome = true by kernel_rfl)
  exact Lib.run_neq_ptr_same w _ Try.underlying60 hj
theorem _root_.Go.RowKit.Below.flow {w w' : World} {f d : Nat} {nv : Option Nat} (hb : Below w.heap.size w w') (hF : FlowAt w f nv d) : FlowAt w' f nv d := (hb.block f (Array.getElem?_eq_some_iff.1 hF).1).trans hF
/-- The cells of a box for an answer, in a later world, and nothing else turned since but block pb. -/
structure Ans (w w1 : World) (pb : Nat) : Prop where
  res : w1.heap[w.heap.size]? = some (.cells #[.int .i64 0, .int .i64 0, .int .u64 0, .int .u64 0, .int .u64 0] 29 (0, 0))
  only : Only (fun k => k = pb) w w1
theorem Ans.mk' {w w1 : World} {pb : Nat} (hlt : pb < w.heap.size) (ho : Only (fun k => k = pb) (w.alloc (.cells #[.int .i64 0, .int .i64 0, .int .u64 0, .int .u64 0, .int .u64 0] 29)) w1) : Ans w w1 pb :=
  ⟨ho.heap (new_heap w _) (by omega), (only_alloc w _ _).trans ho⟩
theorem Ans.cells {w w1 : World} {pb : Nat} (h : Ans w w1 pb) : (w1.cell? ⟨w.heap.size, 0, none⟩ = some (.int .i64 0) ∧ w1.cell? ⟨w.heap.size, 1, none⟩ = some (.int .i64 0) ∧ w1.cell? ⟨w.heap.size, 2, none⟩ = some (.int .u64 0) ∧ w1.cell? ⟨w.heap.size, 3, none⟩ = some (.int .u64 0) ∧ w1.cell? ⟨w.heap.size, 4, none⟩ = some (.int .u64 0)) ∧
    w1.frozen? ⟨w.heap.size, 0, none⟩ = false ∧ w1.frozen? ⟨w.heap.size, 1, none⟩ = false ∧ w1.frozen? ⟨w.heap.size, 2, none⟩ = false ∧ w1.frozen? ⟨w.heap.size, 3, none⟩ = false ∧ w1.frozen? ⟨w.heap.size, 4, none⟩ = false :=
  ⟨⟨(cell_heap h.res 0).1, (cell_heap h.res 1).1, (cell_heap h.res 2).1, (cell_heap h.res 3).1, (cell_heap h.res 4).1⟩, (cell_heap h.res 0).2, (cell_heap h.res 1).2, (cell_heap h.res 2).2, (cell_heap h.res 3).2, (cell_heap h.res 4).2⟩
theorem Ans.set {w w1 : World} {pb : Nat} (h : Ans w w1 pb) (u0 u1 u2 u3 u4 : Value) :
    let W := (((((w1.setCell ⟨w.heap.size, 0, none⟩ u0).setCell ⟨w.heap.size, 1, none⟩ u1).setCell ⟨w.heap.size, 2, none⟩ u2).setCell ⟨w.heap.size, 3, none⟩ u3).setCell ⟨w.heap.size, 4, none⟩ u4)
    (W.cell? ⟨w.heap.size, 0, none⟩ = some u0 ∧ W.cell? ⟨w.heap.size, 1, none⟩ = some u1 ∧ W.cell? ⟨w.heap.size, 2, none⟩ = some u2 ∧ W.cell? ⟨w.heap.size, 3, none⟩ = some u3 ∧ W.cell? ⟨w.heap.size, 4, none⟩ = some u4) ∧ Only (fun k => k = w.heap.size) w1 W := by
  have hb := set_heap (j := 4) (set_heap (j := 3) (set_heap (j := 2) (set_heap (j := 1) (set_heap (j := 0) h.res u0) u1) u2) u3) u4
  exact ⟨⟨(cell_heap hb 0).1, (cell_heap hb 1).1, (cell_heap hb 2).1, (cell_heap hb 3).1, (cell_heap hb 4).1⟩, set_only (set_only (set_only (set_only (set_only (Only.refl (fun k => k = w.heap.size) w1) _ 0 (.inl rfl) u0) _ 1 (.inl rfl) u1) _ 2 (.inl rfl) u2) _ 3 (.inl rfl) u3) _ 4 (.inl rfl) u4⟩
theorem Ans.next {w w1 w2 : World} {pb : Nat} (h : Ans w w1 pb) (hb : Below w1.heap.size w1 w2) : Ans w w2 pb := ⟨(hb.block _ (Array.getElem?_eq_some_iff.1 h.res).1).trans h.res, h.only.then_below hb⟩

structure Ans2 (w w1 : World) (R : Nat → Prop) : Prop where
  res : w1.heap[w.heap.size]? = some (.cells #[.int .i64 0, .int .i64 0, .int .u64 0, .int .u64 0, .int .u64 0] 29 (0, 0))
  only : Only R w w1
theorem Ans.then' {w w1 w2 : World} {pb f : Nat} (h : Ans w w1 pb) (ho : Only (fun k => k = f) w1 w2) (hf : f < w.heap.size) : Ans2 w w2 (fun k => k = f ∨ k = pb) :=
  ⟨ho.heap h.res (by omega), (h.only.wide (fun i e => .inl (.inr e))).more ho (fun i e => .inl (.inl e))⟩
theorem Ans2.cells {w w1 : World} {R : Nat → Prop} (h : Ans2 w w1 R) : (w1.cell? ⟨w.heap.size, 0, none⟩ = some (.int .i64 0) ∧ w1.cell? ⟨w.heap.size, 1, none⟩ = some (.int .i64 0) ∧ w1.cell? ⟨w.heap.size, 2, none⟩ = some (.int .u64 0) ∧ w1.cell? ⟨w.heap.size, 3, none⟩ = some (.int .u64 0) ∧ w1.cell? ⟨w.heap.size, 4, none⟩ = some (.int .u64 0)) ∧
    w1.frozen? ⟨w.heap.size, 0, none⟩ = false ∧ w1.frozen? ⟨w.heap.size, 1, none⟩ = false ∧ w1.frozen? ⟨w.heap.size, 2, none⟩ = false ∧ w1.frozen? ⟨w.heap.size, 3, none⟩ = false ∧ w1.frozen? ⟨w.heap.size, 4, none⟩ = false :=
  ⟨⟨(cell_heap h.res 0).1, (cell_heap h.res 1).1, (cell_heap h.res 2).1, (cell_heap h.res 3).1, (cell_heap h.res 4).1⟩, (cell_heap h.res 0).2, (cell_heap h.res 1).2, (cell_heap h.res 2).2, (cell_heap h.res 3).2, (cell_heap h.res 4).2⟩
theorem Ans2.set {w w1 : World} {R : Nat → Prop} (h : Ans2 w w1 R) (u0 u1 u2 u3 u4 : Value) :
    let W := (((((w1.setCell ⟨w.heap.size, 0, none⟩ u0).setCell ⟨w.heap.size, 1, none⟩ u1).setCell ⟨w.heap.size, 2, none⟩ u2).setCell ⟨w.heap.size, 3, none⟩ u3).setCell ⟨w.heap.size, 4, none⟩ u4)
    (W.cell? ⟨w.heap.size, 0, none⟩ = some u0 ∧ W.cell? ⟨w.heap.size, 1, none⟩ = some u1 ∧ W.cell? ⟨w.heap.size, 2, none⟩ = some u2 ∧ W.cell? ⟨w.heap.size, 3, none⟩ = some u3 ∧ W.cell? ⟨w.heap.size, 4, none⟩ = some u4) ∧ Only (fun k => k = w.heap.size) w1 W := by
  have hb := set_heap (j := 4) (set_heap (j := 3) (set_heap (j := 2) (set_heap (j := 1) (set_heap (j := 0) h.res u0) u1) u2) u3) u4
  exact ⟨⟨(cell_heap hb 0).1, (cell_heap hb 1).1, (cell_heap hb 2).1, (cell_heap hb 3).1, (cell_heap hb 4).1⟩, set_only (set_only (set_only (set_only (set_only (Only.refl (fun k => k = w.heap.size) w1) _ 0 (.inl rfl) u0) _ 1 (.inl rfl) u1) _ 2 (.inl rfl) u2) _ 3 (.inl rfl) u3) _ 4 (.inl rfl) u4⟩

theorem FNext_more {f pb d p q g : Nat} {fv : Value} {ds : List D} {fs : List Int} {x : D} {w : World} (hF : FlowAt w f (some pb) d) (hP : PartAt w pb (taskV p) fv false) (hS : Scr w p q g ds fs) (hx : ds[fs.length]? = some x) (hp : pb ≠ p ∧ pb ≠ q ∧ pb ≠ g) (hf : f ≠ pb) :
    Calls Try.prog 13 #[.pointer (some ⟨f, 0, none⟩)] w fun e w' => e = .returned (.tuple #[.agg #[.int .i64 x.1, .int .i64 x.2.1, .int .u64 x.2.2.1, .int .u64 x.2.2.2.1, .int .u64 x.2.2.2.2], .bool true]) ∧ Only (fun k => k = pb) w w' ∧ PartAt w' pb (taskV p) fv false := by
  have hb := (Below.refl w.heap.size w).alloc (Nat.le_refl _) (.cells #[.int .i64 0, .int .i64 0, .int .u64 0, .int .u64 0, .int .u64 0] 29)
  have c0 := (cell_heap (hb.flow hF) 0).1
  have c2 := (cell_heap (hb.part hP) 2).1
  replace c0 : _ = some (Value.pointer (some ⟨pb, 0, none⟩)) := c0
  replace c2 : _ = some (Value.bool false) := c2
  have HA := Lib.hid (ask_more (hb.part hP) (hS.later hb) hx hp)
  have HF := Lib.hid (hb.flow hF)
  have HB := Lib.hid hb
  have hlt := (Array.getElem?_eq_some_iff.1 hP).1
  clear hb hF hP hS hx hp
  go_enter Try.func13, Try.ntmps13
  go_wp2
  refine wp_loop_rounds 1 ?_
  rw [rounds_succ]
  go_wp2_with fail
  refine HA.out.mono ?_
  rintro e w1 ⟨rfl, ho, hP1⟩
  have hb1 := (Below.refl w1.heap.size w1).alloc (Nat.le_refl _) (.cells #[.int .i64 x.1, .int .i64 x.2.1, .int .u64 x.2.2.1, .int .u64 x.2.2.2.1, .int .u64 x.2.2.2.2] 29)
  have hA := (Ans.mk' hlt ho).next hb1
  have HA1 := Lib.hid hA
  obtain ⟨⟨r0, r1, r2, r3, r4⟩, f0, f1, f2, f3, f4⟩ := hA.cells
  have hF1 := hb1.flow (ho.heap HF.out hf : FlowAt w1 f (some pb) d)
  have HP1 := Lib.hid (hb1.part hP1)
  have d0 := (cell_heap hF1 0).1
  replace d0 : _ = some (Value.pointer (some ⟨pb, 0, none⟩)) := d0
  have hpp := neq_part pb
  clear hb1 hA hF1 hP1 ho c0 c2
  go_wp2
  obtain ⟨⟨s0, s1, s2, s3, s4⟩, hset⟩ := HA1.out.set (.int .i64 x.1) (.int .i64 x.2.1) (.int .u64 x.2.2.1) (.int .u64 x.2.2.2.1) (.int .u64 x.2.2.2.2)
  exact bodyPost_ret (v := .tuple #[.agg #[.int .i64 x.1, .int .i64 x.2.1, .int .u64 x.2.2.1, .int .u64 x.2.2.2.1, .int .u64 x.2.2.2.2], .bool true]) (by simp [results, Try.results13, go_sem, s0, s1, s2, s3, s4]) rfl ⟨rfl, HA1.out.only.more hset (fun i e => .inr (by omega)), hset.heap HP1.out (by omega)⟩
theorem FNext_none {f d : Nat} {w : World} (hF : FlowAt w f none d) : Calls Try.prog 13 #[.pointer (some ⟨f, 0, none⟩)] w fun e w' => e = .returned (.tuple #[.agg #[.int .i64 0, .int .i64 0, .int .u64 0, .int .u64 0, .int .u64 0], .bool false]) ∧ Below w.heap.size w w' := by
  have hb := (Below.refl w.heap.size w).alloc (Nat.le_refl _) (.cells #[.int .i64 0, .int .i64 0, .int .u64 0, .int .u64 0, .int .u64 0] 29)
  have c0 := (cell_heap (hb.flow hF) 0).1
  replace c0 : _ = some (Value.pointer none) := c0
  have hA : Ans2 w (w.alloc (.cells #[.int .i64 0, .int .i64 0, .int .u64 0, .int .u64 0, .int .u64 0] 29)) (fun _ => False) := ⟨new_heap w _, only_alloc w _ _⟩
  have HA := Lib.hid hA
  obtain ⟨⟨r0, r1, r2, r3, r4⟩, f0, f1, f2, f3, f4⟩ := hA.cells
  clear hb hF hA
  go_enter Try.func13, Try.ntmps13
  go_wp2
  refine wp_loop_rounds 1 ?_
  rw [rounds_succ]
  go_wp2
  exact bodyPost_ret (v := .tuple #[.agg #[.int .i64 0, .int .i64 0, .int .u64 0, .int .u64 0, .int .u64 0], .bool false]) (by simp [results, Try.results13, go_sem, r0, r1, r2, r3, r4]) rfl ⟨rfl, (Below.refl _ _).alloc (Nat.le_refl _) _⟩
theorem FNext_done {f pb d p q g : Nat} {ds : List D} {fs : List Int} {w : World} (hF : FlowAt w f (some pb) d) (hd : d < 65536) (hP : PartAt w pb (taskV p) .nilFunc false) (hS : Scr w p q g ds fs) (hx : fs.length = ds.length) (hp : pb ≠ p ∧ pb ≠ q ∧ pb ≠ g) (hf : f ≠ pb) :
    Calls Try.prog 13 #[.pointer (some ⟨f, 0, none⟩)] w fun e w' => e = .returned (.tuple #[.agg #[.int .i64 0, .int .i64 0, .int .u64 0, .int .u64 0, .int .u64 0], .bool false]) ∧ Only (fun k => k = f ∨ k = pb) w w' ∧ FlowAt w' f none d := by
  have hb := (Below.refl w.heap.size w).alloc (Nat.le_refl _) (.cells #[.int .i64 0, .int .i64 0, .int .u64 0, .int .u64 0, .int .u64 0] 29)
  have c0 := (cell_heap (hb.flow hF) 0).1
  have c2 := (cell_heap (hb.part hP) 2).1
  replace c0 : _ = some (Value.pointer (some ⟨pb, 0, none⟩)) := c0
  replace c2 : _ = some (Value.bool false) := c2
  have HA := Lib.hid (ask_done (hb.part hP) (hS.later hb) hx hp)
  have HF := Lib.hid (hb.flow hF)
  have HB := Lib.hid hb
  have hlt := (Array.getElem?_eq_some_iff.1 hP).1
  have hlf := (Array.getElem?_eq_some_iff.1 hF).1
  have hde : ((d : Int) == 65536) = false := by simp; omega
  clear hb hF hP hS hx hp
  go_enter Try.func13, Try.ntmps13
  go_wp2
  refine wp_loop_rounds 2 ?_
  rw [rounds_succ]
  go_wp2_with fail
  refine HA.out.mono ?_
  rintro e w1 ⟨rfl, ho, hP1⟩
  have hb1 := (Below.refl w1.heap.size w1).alloc (Nat.le_refl _) (.cells #[.int .i64 0, .int .i64 0, .int .u64 0, .int .u64 0, .int .u64 0] 29)
  have hA := (Ans.mk' hlt ho).next hb1
  have HA1 := Lib.hid hA
  have hF1 := hb1.flow (ho.heap HF.out hf : FlowAt w1 f (some pb) d)
  have HF1 := Lib.hid hF1
  have HP1 := Lib.hid (hb1.part hP1)
  have d0 := (cell_heap hF1 0).1
  have d1 := (cell_heap hF1 1).1
  replace d0 : _ = some (Value.pointer (some ⟨pb, 0, none⟩)) := d0
  replace d1 : _ = some (Value.int .i64 (d : Int)) := d1
  have hpp := neq_part pb
  clear hb1 hA hF1 hP1 ho c0 c2
  go_wp2_with fail
  refine (goOn_nil HF1.out HP1.out).mono ?_
  rintro e w2 ⟨rfl, ho2, hF2⟩
  have HF2 := Lib.hid hF2
  have e0 := (cell_heap hF2 0).1
  replace e0 : _ = some (Value.pointer none) := e0
  have hA2 : Ans2 w w2 (fun k => k = f ∨ k = pb) := HA1.out.then' ho2 hlf
  have HA2 := Lib.hid hA2
  obtain ⟨⟨r0, r1, r2, r3, r4⟩, f0, f1, f2, f3, f4⟩ := hA2.cells
  clear hpp d0 d1 ho2 hF2 hA2
  go_wp2
  rw [rounds_succ]
  go_wp2
  obtain ⟨⟨s0, s1, s2, s3, s4⟩, hset⟩ := HA2.out.set (.int .i64 0) (.int .i64 0) (.int .u64 0) (.int .u64 0) (.int .u64 0)
  exact bodyPost_ret (v := .tuple #[.agg #[.int .i64 0, .int .i64 0, .int .u64 0, .int .u64 0, .int .u64 0], .bool false]) (by simp [results, Try.results13, go_sem, s0, s1, s2, s3, s4]) rfl ⟨rfl, HA2.out.only.more hset (fun i e => .inr (by omega)), hset.heap HF2.out (by omega)⟩
/-- A flow that was given a script that is not done. -/
def Given (w : World) (f d p : Nat) (fv : Value) (e : Ending) (w' : World) : Prop :=
  ∃ pb, e = .returned (.tuple #[]) ∧ FlowAt w' f (some pb) d ∧ PartAt w' pb (taskV p) fv false ∧ w.heap.size ≤ pb ∧ Only (fun k => k = f) w w'
theorem to_start {w : World} {f d p : Nat} {fv : Value} {nv : Option Nat} (hF : FlowAt w f nv d) :
    FlowAt ((w.setCell ⟨f, 0, none⟩ (.pointer (some ⟨w.heap.size, 0, none⟩))).alloc (.cells #[taskV p, fv, .bool false] 66)) f (some w.heap.size) d ∧ PartAt ((w.setCell ⟨f, 0, none⟩ (.pointer (some ⟨w.heap.size, 0, none⟩))).alloc (.cells #[taskV p, fv, .bool false] 66)) w.heap.size (taskV p) fv false ∧
    Only (fun k => k = f) w ((w.setCell ⟨f, 0, none⟩ (.pointer (some ⟨w.heap.size, 0, none⟩))).alloc (.cells #[taskV p, fv, .bool false] 66)) ∧ f < w.heap.size := by
  have hlf := (Array.getElem?_eq_some_iff.1 hF).1
  have h1 := set_heap (j := 0) hF (.pointer (some ⟨w.heap.size, 0, none⟩))
  have hsz : (w.setCell ⟨f, 0, none⟩ (.pointer (some ⟨w.heap.size, 0, none⟩))).heap.size = w.heap.size := by simp [World.setCell]
  have hb := (Below.refl _ (w.setCell ⟨f, 0, none⟩ (.pointer (some ⟨w.heap.size, 0, none⟩)))).alloc (Nat.le_refl _) (.cells #[taskV p, fv, .bool false] 66)
  have hn := new_heap (w.setCell ⟨f, 0, none⟩ (.pointer (some ⟨w.heap.size, 0, none⟩))) (.cells #[taskV p, fv, .bool false] 66)
  rw [hsz] at hn
  exact ⟨hb.flow (by simpa [FlowAt] using h1), hn, (only_setCell (R := fun k => k = f) w (p := ⟨f, 0, none⟩) rfl (.pointer (some ⟨w.heap.size, 0, none⟩))).then_below hb, hlf⟩
theorem To_more {f d p q g  : Nat} {nv : Option Nat} {ds : List D} {fs : List Int} {x : D} {w : World} (hF : FlowAt w f nv d) (hS : Scr w p q g ds fs) (hx : ds[fs.length]? = some x) (hp : f ≠ p ∧ f ≠ q ∧ f ≠ g) :
    Calls Try.prog 16 #[.pointer (some ⟨f, 0, none⟩), taskV p, .nilFunc] w (Given w f d p (.nilFunc)) := by
  obtain ⟨hF1, hP1, ho1, hlf⟩ := to_start (p := p) (fv := .nilFunc) hF
  have hap := hS.apart
  have HN := Lib.hid (FNext_more hF1 hP1 (hS.only ho1 (fun e => hp.1 e.symm) (fun e => hp.2.1 e.symm) (fun e => hp.2.2 e.symm)) hx (by omega) (by omega))
  have HF1 := Lib.hid hF1
  have HO1 := Lib.hid ho1
  have c0 := (cell_heap hF 0).1
  have c1 := (cell_heap hF 0).2
  replace c0 : _ = some (Value.pointer (nv.map fun pb => ⟨pb, 0, none⟩)) := c0
  generalize nv.map (fun pb => (⟨pb, 0, none⟩ : Addr)) = nA at c0
  clear hF1 hP1 ho1 hS hF hx hap
  go_enter Try.func16, Try.ntmps16
  go_wp2_with fail
  refine HN.out.mono ?_
  rintro e w1 ⟨rfl, ho, hP⟩
  have HP := Lib.hid hP
  have HO := Lib.hid ho
  clear hP ho
  go_wp2
  refine bodyPost_end (results_none rfl _ _ _) rfl ?_
  exact ⟨w.heap.size, rfl, HO.out.heap HF1.out (by omega), HP.out, Nat.le_refl _, HO1.out.more HO.out (fun i e => .inr (by omega))⟩
theorem To_first {f d p q g b1 b2 : Nat} {nv : Option Nat} {ds : List D} {fs : List Int} {x : D} {w : World} (hF : FlowAt w f nv d) (hS : Scr w p q g ds fs) (hx : ds[fs.length]? = some x) (hp : f ≠ p ∧ f ≠ q ∧ f ≠ g) :
    Calls Try.prog 16 #[.pointer (some ⟨f, 0, none⟩), taskV p, .func (.func 25) #[] #[.pointer (some ⟨b1, 0, none⟩), .pointer (some ⟨b2, 0, none⟩)]] w (Given w f d p (.func (.func 25) #[] #[.pointer (some ⟨b1, 0, none⟩), .pointer (some ⟨b2, 0, none⟩)])) := by
  obtain ⟨hF1, hP1, ho1, hlf⟩ := to_start (p := p) (fv := .func (.func 25) #[] #[.pointer (some ⟨b1, 0, none⟩), .pointer (some ⟨b2, 0, none⟩)]) hF
  have hap := hS.apart
  have HN := Lib.hid (FNext_more hF1 hP1 (hS.only ho1 (fun e => hp.1 e.symm) (fun e => hp.2.1 e.symm) (fun e => hp.2.2 e.symm)) hx (by omega) (by omega))
  have HF1 := Lib.hid hF1
  have HO1 := Lib.hid ho1
  have c0 := (cell_heap hF 0).1
  have c1 := (cell_heap hF 0).2
  replace c0 : _ = some (Value.pointer (nv.map fun pb => ⟨pb, 0, none⟩)) := c0
  generalize nv.map (fun pb => (⟨pb, 0, none⟩ : Addr)) = nA at c0
  clear hF1 hP1 ho1 hS hF hx hap
  go_enter Try.func16, Try.ntmps16
  go_wp2_with fail
  refine HN.out.mono ?_
  rintro e w1 ⟨rfl, ho, hP⟩
  have HP := Lib.hid hP
  have HO := Lib.hid ho
  clear hP ho
  go_wp2
  refine bodyPost_end (results_none rfl _ _ _) rfl ?_
  exact ⟨w.heap.size, rfl, HO.out.heap HF1.out (by omega), HP.out, Nat.le_refl _, HO1.out.more HO.out (fun i e => .inr (by omega))⟩
theorem To_done {f d p q g : Nat} {nv : Option Nat} {ds : List D} {fs : List Int} {w : World} (hF : FlowAt w f nv d) (hd : d < 65536) (hS : Scr w p q g ds fs) (hx : fs.length = ds.length) (hp : f ≠ p ∧ f ≠ q ∧ f ≠ g) :
    Calls Try.prog 16 #[.pointer (some ⟨f, 0, none⟩), taskV p, .nilFunc] w fun e w' => e = .returned (.tuple #[]) ∧ FlowAt w' f none d ∧ Only (fun k => k = f) w w' := by
  obtain ⟨hF1, hP1, ho1, hlf⟩ := to_start (p := p) (fv := .nilFunc) hF
  have hap := hS.apart
  have HN := Lib.hid (FNext_done hF1 hd hP1 (hS.only ho1 (fun e => hp.1 e.symm) (fun e => hp.2.1 e.symm) (fun e => hp.2.2 e.symm)) hx (by omega) (by omega))
  have HO1 := Lib.hid ho1
  have c0 := (cell_heap hF 0).1
  have c1 := (cell_heap hF 0).2
  replace c0 : _ = some (Value.pointer (nv.map fun pb => ⟨pb, 0, none⟩)) := c0
  generalize nv.map (fun pb => (⟨pb, 0, none⟩ : Addr)) = nA at c0
  clear hF1 hP1 ho1 hS hF hx hap
  go_enter Try.func16, Try.ntmps16
  go_wp2_with fail
  refine HN.out.mono ?_
  rintro e w1 ⟨rfl, ho, hF2⟩
  have HF2 := Lib.hid hF2
  have HO := Lib.hid ho
  clear hF2 ho
  go_wp2
  refine bodyPost_end (results_none rfl _ _ _) rfl ?_
  exact ⟨rfl, HF2.out, HO1.out.more HO.out (fun i e => e.elim .inl (fun h => .inr (by omega)))⟩
end Go.Proofs.Ythlamnghbdaaiaa.Task
