/- Words for iterators whose helpers hand yield on: what a round leaves as it lay; what such a helper comes to. No function is named. -/
import Derived.RangeFuncNested
import Derived.RangeFuncBound
import Derived.RangeFuncCalls
import Derived.RangeFuncLeaves
import Derived.Shelf.Abstract
import Derived.Shelf.RegionOpen
import Derived.WalkKit
import Derived.OwnWalkIn
import Derived.TacticsInMore
import Derived.LoopNIn
import Derived.LoopIn
import Derived.Test.YthlamnghbdaaiaaDoorLay
namespace Go.Proofs.YthlamnghbdaaiaaDoor.Push
open Go.RowKit Go.Shelf Lay

/-- Whatever is cells, and lies in a block of which R does not speak, lies as it lay. -/
structure Kept (R : Nat → Prop) (A B : World) : Prop where
  size : A.heap.size ≤ B.heap.size
  same : ∀ (k : Nat) (o : Obj), ¬ R k → A.heap[k]? = some o → o.isCells = true → B.heap[k]? = some o

theorem Kept.refl (R : Nat → Prop) (A : World) : Kept R A A := ⟨Nat.le_refl _, fun _ _ _ h _ => h⟩
theorem Kept.trans {R : Nat → Prop} {A B C : World} (h : Kept R A B) (k : Kept R B C) : Kept R A C :=
  ⟨Nat.le_trans h.size k.size, fun i o hi ho hc => k.same i o hi (h.same i o hi ho hc) hc⟩
theorem Kept.grown {R : Nat → Prop} {A B : World} {row : Option Nat} (h : A.grownBy B row) (hr : ∀ k, row = some k → R k ∨ ∃ o : Obj, A.heap[k]? = some o ∧ o.isCells = false) : Kept R A B :=
  ⟨h.size, fun k o hk ho hc => (h.block k (Array.getElem?_eq_some_iff.1 ho).1 (fun e => by
    rcases hr k e.symm with h1 | ⟨o', ho', hc'⟩
    · exact hk h1
    · rw [ho] at ho'; cases ho'; rw [hc] at hc'; cases hc')).trans ho⟩
theorem Kept.below {R : Nat → Prop} {A B : World} (h : Below A.heap.size A B) : Kept R A B := Kept.grown (grownBy_below h) (fun _ e => by cases e)
theorem Kept.put {R : Nat → Prop} {W : World} {l : Nat} {o o' : Obj} (h : W.heap[l]? = some o) (ho : o.isCells = false) : Kept R W (W.putObj l o') :=
  Kept.grown (grownBy_putObj' W l o') (fun k e => by cases e; exact .inr ⟨o, h, ho⟩)
theorem Kept.set {R : Nat → Prop} {W : World} {p : Addr} (hp : R p.block) (v : Value) : Kept R W (W.setCell p v) :=
  ⟨(KeepsWalks.setCell W p v).size, fun k _ hk ho _ => (Below.heap_setCell W p v k (fun e => hk (e ▸ hp))).trans ho⟩
theorem Kept.cell {R : Nat → Prop} {A B : World} (h : Kept R A B) {p : Addr} {v : Value} (hp : ¬ R p.block) (hc : A.cell? p = some v) : B.cell? p = some v := by
  obtain ⟨o, ho, hb⟩ := cells_of_cell hc
  exact (World.cell?_of_block ((h.same _ _ hp ho hb).trans ho.symm)).trans hc
theorem Kept.frozen {R : Nat → Prop} {A B : World} (h : Kept R A B) {p : Addr} {v : Value} (hp : ¬ R p.block) (hc : A.cell? p = some v) : B.frozen? p = A.frozen? p := by
  obtain ⟨o, ho, hb⟩ := cells_of_cell hc
  exact World.frozen?_of_block ((h.same _ _ hp ho hb).trans ho.symm)

/-- The yield of loop l, called in W with args: on, or no more. -/
def YieldsTo (P : Program) (R : Nat → Prop) {α : Type} (encs : α → Array Value) (J Jx : List α → World → Prop) (l N : Nat) : Prop :=
  ∀ (m : Nat) (pre : List α) (x : α) (W : World), J pre W → pre.length < N → YieldAt Fence.wide m P l (encs x) W fun e W' =>
    (e = .returned (.bool true) ∧ J (pre ++ [x]) W' ∧ Kept R W W') ∨ (e = .returned (.bool false) ∧ Jx (pre ++ [x]) W')

/-- What a helper comes to that hands yield all of xs, behind pre: all of them, or as many as yield wanted. -/
def Pushed {α : Type} (R : Nat → Prop) (J Jx : List α → World → Prop) (pre xs : List α) (W : World) (e : Ending) (W' : World) : Prop :=
  (e = .returned (.bool true) ∧ J (pre ++ xs) W' ∧ Kept R W W') ∨ (e = .returned (.bool false) ∧ ∃ q, q <+: xs ∧ Jx (pre ++ q) W')

theorem pushed_all {α : Type} {R : Nat → Prop} {J Jx : List α → World → Prop} {pre xs : List α} {W W' : World} (hj : J (pre ++ xs) W') (hk : Kept R W W') : Pushed R J Jx pre xs W (.returned (.bool true)) W' := .inl ⟨rfl, hj, hk⟩
theorem pushed_part {α : Type} {R : Nat → Prop} {J Jx : List α → World → Prop} {pre xs q : List α} {W W' : World} (hq : q <+: xs) (hj : Jx (pre ++ q) W') : Pushed R J Jx pre xs W (.returned (.bool false)) W' := .inr ⟨rfl, q, hq, hj⟩
/-- Behind some that have come all, no more of the next. -/
theorem prefix_behind {α : Type} {a b q : List α} (h : q <+: b) (c : List α) : a ++ q <+: a ++ (b ++ c) := by
  obtain ⟨r, rfl⟩ := h
  exact ⟨r ++ c, by simp⟩

theorem wide_room {k : Nat} : Fence.wide.depth.isSome = true → 1 ≤ k := fun h => by simp [Fence.wide] at h
/-- A contract in a wide fence is a contract. -/
theorem in_wide {P : Program} {f : FuncId} {args : Array Value} {w : World} {R : Ending → World → Prop} (n : Nat) (h : Calls P f args w R) : CallsIn Fence.wide n P f args w R := callsIn_wide.2 h
theorem room_of_none {F : Fence} (hd : F.depth = none) (k : Nat) : F.room k := fun d h => by rw [hd] at h; cases h
theorem round_any {F : Fence} (hd : F.depth = none) {m m' : Nat} {P : Program} {l : Nat} {f : FuncId} {tmps : Array Value} {assign body : Code} {w : World} {R : Ending → World → Prop}
    (h : RoundIn F m P l f tmps assign body w R) : RoundIn F m' P l f tmps assign body w R := ⟨h.1, fun c cs _ => h.2 c cs (room_of_none hd _)⟩
theorem yield_any {F : Fence} (hd : F.depth = none) {m : Nat} (m' : Nat) {P : Program} {l : Nat} {args : Array Value} {W : World} {R : Ending → World → Prop} (h : YieldAt F m P l args W R) : YieldAt F m' P l args W R := by
  obtain ⟨fn, tmps, assign, body, hy, hR⟩ := h
  exact ⟨fn, tmps, assign, body, hy, round_any hd hR⟩
end Go.Proofs.YthlamnghbdaaiaaDoor.Push
