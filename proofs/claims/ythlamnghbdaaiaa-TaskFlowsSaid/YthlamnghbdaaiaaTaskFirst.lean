/- Package task's Flow of two scripts: what it asks for when the first one is done; how it is given the first one. -/
import Derived.Test.YthlamnghbdaaiaaTaskBehind
namespace Go.Proofs.Ythlamnghbdaaiaa.Task
open Go.ChangeShapes Go.WideShapes Go.RowKit CM DM Lay Ints Cells
set_option linter.unusedVariables false

theorem Ans2.step {w w1 w2 : World} {R R' : Nat → Prop} (h : Ans2 w w1 R) (ho : Only R' w1 w2) (hR : ∀ k, R' k → k ≠ w.heap.size ∧ (R k ∨ w.heap.size ≤ k)) : Ans2 w w2 R :=
  ⟨ho.heap h.res (fun e => (hR _ e).1 rfl), h.only.more ho (fun k e => (hR k e).2)⟩
theorem Ans2.later {w w1 w2 : World} {R : Nat → Prop} (h : Ans2 w w1 R) (hb : Below w1.heap.size w1 w2) : Ans2 w w2 R := h.step (only_below (fun _ => False) hb) (fun _ e => e.elim)

/-- A flow whose part is script 1, and whose script 2 comes behind. -/
structure Two (w : World) (f pb d b1 b2 p1 q1 g1 p2 q2 g2 : Nat) (a b : List D) (fs1 fs2 : List Int) : Prop where
  flow : FlowAt w f (some pb) d
  part : PartAt w pb (taskV p1) (Value.func (.func 25) #[] #[.pointer (some ⟨b1, 0, none⟩), .pointer (some ⟨b2, 0, none⟩)]) false
  caps : Caps w b1 b2 f p2
  one : Scr w p1 q1 g1 a fs1
  two : Scr w p2 q2 g2 b fs2
  apart : f ≠ pb ∧ (pb ≠ p1 ∧ pb ≠ q1 ∧ pb ≠ g1) ∧ (pb ≠ p2 ∧ pb ≠ q2 ∧ pb ≠ g2) ∧ (f ≠ p2 ∧ f ≠ q2 ∧ f ≠ g2) ∧ (pb ≠ b1 ∧ pb ≠ b2 ∧ f ≠ b1 ∧ f ≠ b2)
/-- What it comes to, where script 2 is not done. -/
def Passed (w : World) (f pb d p : Nat) (x : D) (e : Ending) (w' : World) : Prop :=
  ∃ pb2, e = .returned (.tuple #[.agg #[.int .i64 x.1, .int .i64 x.2.1, .int .u64 x.2.2.1, .int .u64 x.2.2.2.1, .int .u64 x.2.2.2.2], .bool true]) ∧ FlowAt w' f (some pb2) d ∧ PartAt w' pb2 (taskV p) .nilFunc false ∧ w.heap.size ≤ pb2 ∧ Only (fun k => k = f ∨ k = pb) w w'
def Through (w : World) (f pb d : Nat) (e : Ending) (w' : World) : Prop :=
  e = .returned (.tuple #[.agg #[.int .i64 0, .int .i64 0, .int .u64 0, .int .u64 0, .int .u64 0], .bool false]) ∧ FlowAt w' f none d ∧ Only (fun k => k = f ∨ k = pb) w w'

set_option maxHeartbeats 1000000 in
theorem FNext_first_more {f pb d b1 b2 p1 q1 g1 p2 q2 g2 : Nat} {a b : List D} {fs1 fs2 : List Int} {x : D} {w : World} (hT : Two w f pb d b1 b2 p1 q1 g1 p2 q2 g2 a b fs1 fs2) (hd : d < 65535) (hx1 : fs1.length = a.length) (hx : b[fs2.length]? = some x) :
    Calls Try.prog 13 #[.pointer (some ⟨f, 0, none⟩)] w (Passed w f pb d p2 x) := by
  have hb := (Below.refl w.heap.size w).alloc (Nat.le_refl _) (.cells #[.int .i64 0, .int .i64 0, .int .u64 0, .int .u64 0, .int .u64 0] 29)
  have c0 := (cell_heap (hb.flow hT.flow) 0).1
  have c2 := (cell_heap (hb.part hT.part) 2).1
  replace c0 : _ = some (Value.pointer (some ⟨pb, 0, none⟩)) := c0
  replace c2 : _ = some (Value.bool false) := c2
  have HA := Lib.hid (ask_done (hb.part hT.part) (hT.one.later hb) hx1 hT.apart.2.1)
  have HB := Lib.hid hb
  have HT := Lib.hid hT
  have HX := Lib.hid hx
  have hlt := (Array.getElem?_eq_some_iff.1 hT.part).1
  have hlf := (Array.getElem?_eq_some_iff.1 hT.flow).1
  have hde : ((d : Int) == 65536) = false := by simp; omega
  have A0 : Ans2 w (w.alloc (.cells #[.int .i64 0, .int .i64 0, .int .u64 0, .int .u64 0, .int .u64 0] 29)) (fun k => k = f ∨ k = pb) := ⟨new_heap w _, only_alloc w _ _⟩
  have HA0 := Lib.hid A0
  clear hb hT hx1 hx A0
  go_enter Try.func13, Try.ntmps13
  go_wp2
  refine wp_loop_rounds 2 ?_
  rw [rounds_succ]
  go_wp2_with fail
  refine HA.out.mono ?_
  rintro e w1 ⟨rfl, ho, hP1⟩
  have hb1 := (Below.refl w1.heap.size w1).alloc (Nat.le_refl _) (.cells #[.int .i64 0, .int .i64 0, .int .u64 0, .int .u64 0, .int .u64 0] 29)
  have HO1 := Lib.hid (ho.then_below hb1)
  have HA1 := Lib.hid ((HA0.out.step ho (fun k e => by omega)).later hb1)
  have hF1 := hb1.flow (ho.heap (HB.out.flow HT.out.flow) HT.out.apart.1 : FlowAt w1 f (some pb) d)
  have HF1 := Lib.hid hF1
  have HP1 := Lib.hid (hb1.part hP1)
  have d0 := (cell_heap hF1 0).1
  have d1 := (cell_heap hF1 1).1
  replace d0 : _ = some (Value.pointer (some ⟨pb, 0, none⟩)) := d0
  replace d1 : _ = some (Value.int .i64 (d : Int)) := d1
  have hpp := neq_part pb
  have HC1 := Lib.hid ((HT.out.caps.later HB.out).only HO1.out (by have := HT.out.apart; omega) (by have := HT.out.apart; omega))
  have HS1 := Lib.hid ((HT.out.two.later HB.out).only HO1.out (by have := HT.out.apart; omega) (by have := HT.out.apart; omega) (by have := HT.out.apart; omega))
  clear hb1 hF1 hP1 ho c0 c2
  go_wp2_with fail
  refine (goOn_more HF1.out hd HP1.out HC1.out (by have := HT.out.apart; omega) (by have := HT.out.apart; omega) HS1.out HX.out HT.out.apart.2.2.2.1).mono ?_
  rintro e w2 ⟨pb2, rfl, hF2, hP2, hpb2, ho2⟩
  have hs1 := HA1.out.only.size
  have hap := HS1.out.apart
  have hlt2 := (Array.getElem?_eq_some_iff.1 hP2).1
  have hA2 := HA1.out.step ho2 (fun k e => by omega)
  have HS2 := Lib.hid (HS1.out.only ho2 (by have := HT.out.apart; omega) (by have := HT.out.apart; omega) (by have := HT.out.apart; omega))
  have HQ := Lib.hid (ask_more hP2 HS2.out HX.out (by omega))
  have HF2 := Lib.hid hF2
  have HP2 := Lib.hid hP2
  have HA2 := Lib.hid hA2
  have e0 := (cell_heap hF2 0).1
  have e2 := (cell_heap hP2 2).1
  replace e0 : _ = some (Value.pointer (some ⟨pb2, 0, none⟩)) := e0
  replace e2 : _ = some (Value.bool false) := e2
  have hfp : f ≠ pb2 := by omega
  have hwp : w.heap.size < pb2 := by
    have := (Array.getElem?_eq_some_iff.1 HA1.out.res).1
    omega
  clear hpp d0 d1 ho2 hF2 hP2 hA2 hpb2 hlt2
  go_wp2
  rw [rounds_succ]
  go_wp2_with fail
  refine HQ.out.mono ?_
  rintro e w3 ⟨rfl, ho3, hP3⟩
  have hb3 := (Below.refl w3.heap.size w3).alloc (Nat.le_refl _) (.cells #[.int .i64 x.1, .int .i64 x.2.1, .int .u64 x.2.2.1, .int .u64 x.2.2.2.1, .int .u64 x.2.2.2.2] 29)
  have HF3 := Lib.hid (hb3.flow (ho3.heap HF2.out hfp : FlowAt w3 f (some pb2) d))
  have HP3 := Lib.hid (hb3.part hP3)
  have hA3 := (HA2.out.step ho3 (fun k e => by omega)).later hb3
  have HA3 := Lib.hid hA3
  obtain ⟨⟨r0, r1, r2, r3, r4⟩, f0, f1, f2, f3, f4⟩ := hA3.cells
  have g0 := (cell_heap HF3.out 0).1
  replace g0 : _ = some (Value.pointer (some ⟨pb2, 0, none⟩)) := g0
  have hpp := neq_part pb2
  clear hb3 ho3 hP3 hA3 e0 e2 hs1 hap
  go_wp2
  obtain ⟨⟨s0, s1, s2, s3, s4⟩, hset⟩ := HA3.out.set (.int .i64 x.1) (.int .i64 x.2.1) (.int .u64 x.2.2.1) (.int .u64 x.2.2.2.1) (.int .u64 x.2.2.2.2)
  exact bodyPost_ret (v := .tuple #[.agg #[.int .i64 x.1, .int .i64 x.2.1, .int .u64 x.2.2.1, .int .u64 x.2.2.2.1, .int .u64 x.2.2.2.2], .bool true]) (by simp [results, Try.results13, go_sem, s0, s1, s2, s3, s4]) rfl ⟨pb2, rfl, hset.heap HF3.out (by omega), hset.heap HP3.out (by omega), by omega, HA3.out.only.more hset (fun i e => .inr (by omega))⟩
set_option maxHeartbeats 1000000 in
theorem FNext_first_done {f pb d b1 b2 p1 q1 g1 p2 q2 g2 : Nat} {a b : List D} {fs1 fs2 : List Int} {w : World} (hT : Two w f pb d b1 b2 p1 q1 g1 p2 q2 g2 a b fs1 fs2) (hd : d < 65535) (hx1 : fs1.length = a.length) (hx : fs2.length = b.length) :
    Calls Try.prog 13 #[.pointer (some ⟨f, 0, none⟩)] w (Through w f pb d) := by
  have hb := (Below.refl w.heap.size w).alloc (Nat.le_refl _) (.cells #[.int .i64 0, .int .i64 0, .int .u64 0, .int .u64 0, .int .u64 0] 29)
  have c0 := (cell_heap (hb.flow hT.flow) 0).1
  have c2 := (cell_heap (hb.part hT.part) 2).1
  replace c0 : _ = some (Value.pointer (some ⟨pb, 0, none⟩)) := c0
  replace c2 : _ = some (Value.bool false) := c2
  have HA := Lib.hid (ask_done (hb.part hT.part) (hT.one.later hb) hx1 hT.apart.2.1)
  have HB := Lib.hid hb
  have HT := Lib.hid hT
  have HX := Lib.hid hx
  have hlt := (Array.getElem?_eq_some_iff.1 hT.part).1
  have hlf := (Array.getElem?_eq_some_iff.1 hT.flow).1
  have hde : ((d : Int) == 65536) = false := by simp; omega
  have A0 : Ans2 w (w.alloc (.cells #[.int .i64 0, .int .i64 0, .int .u64 0, .int .u64 0, .int .u64 0] 29)) (fun k => k = f ∨ k = pb) := ⟨new_heap w _, only_alloc w _ _⟩
  have HA0 := Lib.hid A0
  clear hb hT hx1 hx A0
  go_enter Try.func13, Try.ntmps13
  go_wp2
  refine wp_loop_rounds 2 ?_
  rw [rounds_succ]
  go_wp2_with fail
  refine HA.out.mono ?_
  rintro e w1 ⟨rfl, ho, hP1⟩
  have hb1 := (Below.refl w1.heap.size w1).alloc (Nat.le_refl _) (.cells #[.int .i64 0, .int .i64 0, .int .u64 0, .int .u64 0, .int .u64 0] 29)
  have HO1 := Lib.hid (ho.then_below hb1)
  have HA1 := Lib.hid ((HA0.out.step ho (fun k e => by omega)).later hb1)
  have hF1 := hb1.flow (ho.heap (HB.out.flow HT.out.flow) HT.out.apart.1 : FlowAt w1 f (some pb) d)
  have HF1 := Lib.hid hF1
  have HP1 := Lib.hid (hb1.part hP1)
  have d0 := (cell_heap hF1 0).1
  have d1 := (cell_heap hF1 1).1
  replace d0 : _ = some (Value.pointer (some ⟨pb, 0, none⟩)) := d0
  replace d1 : _ = some (Value.int .i64 (d : Int)) := d1
  have hpp := neq_part pb
  have HC1 := Lib.hid ((HT.out.caps.later HB.out).only HO1.out (by have := HT.out.apart; omega) (by have := HT.out.apart; omega))
  have HS1 := Lib.hid ((HT.out.two.later HB.out).only HO1.out (by have := HT.out.apart; omega) (by have := HT.out.apart; omega) (by have := HT.out.apart; omega))
  clear hb1 hF1 hP1 ho c0 c2
  go_wp2_with fail
  refine (goOn_done HF1.out hd HP1.out HC1.out (by have := HT.out.apart; omega) (by have := HT.out.apart; omega) HS1.out HX.out HT.out.apart.2.2.2.1).mono ?_
  rintro e w2 ⟨rfl, hF2, ho2⟩
  have hA2 := HA1.out.step ho2 (fun k e => by omega)
  have HF2 := Lib.hid hF2
  have HA2 := Lib.hid hA2
  obtain ⟨⟨r0, r1, r2, r3, r4⟩, f0, f1, f2, f3, f4⟩ := hA2.cells
  have e0 := (cell_heap hF2 0).1
  replace e0 : _ = some (Value.pointer none) := e0
  clear hpp d0 d1 ho2 hF2 hA2
  go_wp2
  rw [rounds_succ]
  go_wp2
  obtain ⟨⟨s0, s1, s2, s3, s4⟩, hset⟩ := HA2.out.set (.int .i64 0) (.int .i64 0) (.int .u64 0) (.int .u64 0) (.int .u64 0)
  exact bodyPost_ret (v := .tuple #[.agg #[.int .i64 0, .int .i64 0, .int .u64 0, .int .u64 0, .int .u64 0], .bool false]) (by simp [results, Try.results13, go_sem, s0, s1, s2, s3, s4]) rfl ⟨rfl, hset.heap HF2.out (by omega), HA2.out.only.more hset (fun i e => .inr (by omega))⟩
end Go.Proofs.Ythlamnghbdaaiaa.Task
