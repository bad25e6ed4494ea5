/- Package place's helpers that hand yield on: those without a loop. -/
import Derived.Test.YtjmkbcdolkgcgaaDoorPush
import Derived.Test.YtjmkbcdolkgcgaaDoorPlanWalks
import Derived.Test.YtjmkbcdolkgcgaaDoorPlaceMath
namespace Go.Proofs.YtjmkbcdolkgcgaaDoor.Place
open Go.ChangeShapes Go.WideShapes Go.RowKit Go.Shelf PM Lay Push
set_option linter.unusedVariables false
attribute [local go_sem] Oper.semAt_some

/-- What yield is handed. -/
def spotV (s : Sp) : Value := .agg #[.int .i64 s.1, .int .i64 s.2.1, .int .i64 s.2.2]
def encs (x : PSp) : Array Value := #[.int .i64 x.1, spotV x.2]

set_option maxRecDepth 100000 in
set_option maxHeartbeats 2000000 in
theorem ofAll_in (n l N : Nat) (R : Nat → Prop) (J Jx : List PSp → World → Prop) (hY : YieldsTo Tryd.prog R encs J Jx l N) (pre : List PSp) (W : World) (h0 : J pre W) (hN : pre.length + 4 ≤ N) :
    CallsIn Fence.wide n Tryd.prog 29 #[.func (.yield l) #[] #[]] W (Pushed R J Jx pre oneG W) := by
  refine callsIn_of_wp Tryd.func29 rfl trivial ?_ rfl
  simp only [Tryd.ntmps29, List.size_toArray, List.length_cons, List.length_nil, Nat.reduceAdd, Nat.reduceSub, Array.replicate_succ, Array.replicate_zero, List.push_toArray, List.append_toArray, List.nil_append, List.cons_append]
  obtain ⟨f1, t1, a1, b1, hy1, hR1⟩ := hY (n - 1) pre (0, (1, 0, 0)) _ h0 (by first | omega | (simp; omega))
  dsimp only [encs, spotV] at hy1
  gi_wp2
  refine ⟨wide_room, hR1.mono ?_⟩
  clear hy1 hR1
  rintro e W_1 (⟨rfl, hJ_1, hk_1⟩ | ⟨rfl, hx⟩)
  rotate_left
  · gi_wp2
    repeat ((first | (with_reducible refine ⟨fun _ h => (by cases h), ?_⟩) | refine ⟨trivial, ?_⟩); gi_wp2)
    go_ret
    exact pushed_part (q := oneG.take 1) (List.take_prefix _ _) (by simpa [oneG] using hx)
  obtain ⟨f1, t1, a1, b1, hy1, hR1⟩ := hY (n - 1) _ (1, (2, 0, 0)) _ hJ_1 (by first | omega | (simp; omega))
  dsimp only [encs, spotV] at hy1
  gi_wp2
  refine ⟨wide_room, hR1.mono ?_⟩
  clear hy1 hR1
  rintro e W_2 (⟨rfl, hJ_2, hk_2⟩ | ⟨rfl, hx⟩)
  rotate_left
  · gi_wp2
    repeat ((first | (with_reducible refine ⟨fun _ h => (by cases h), ?_⟩) | refine ⟨trivial, ?_⟩); gi_wp2)
    go_ret
    exact pushed_part (q := oneG.take 2) (List.take_prefix _ _) (by simpa [oneG] using hx)
  obtain ⟨f1, t1, a1, b1, hy1, hR1⟩ := hY (n - 1) _ (2, (3, 0, 0)) _ hJ_2 (by first | omega | (simp; omega))
  dsimp only [encs, spotV] at hy1
  gi_wp2
  refine ⟨wide_room, hR1.mono ?_⟩
  clear hy1 hR1
  rintro e W_3 (⟨rfl, hJ_3, hk_3⟩ | ⟨rfl, hx⟩)
  rotate_left
  · gi_wp2
    repeat ((first | (with_reducible refine ⟨fun _ h => (by cases h), ?_⟩) | refine ⟨trivial, ?_⟩); gi_wp2)
    go_ret
    exact pushed_part (q := oneG.take 3) (List.take_prefix _ _) (by simpa [oneG] using hx)
  obtain ⟨f1, t1, a1, b1, hy1, hR1⟩ := hY (n - 1) _ (3, (4, 0, 0)) _ hJ_3 (by first | omega | (simp; omega))
  dsimp only [encs, spotV] at hy1
  gi_wp2
  refine ⟨wide_room, hR1.mono ?_⟩
  clear hy1 hR1
  rintro e W_4 (⟨rfl, hJ_4, hk_4⟩ | ⟨rfl, hx⟩)
  rotate_left
  · gi_wp2
    repeat ((first | (with_reducible refine ⟨fun _ h => (by cases h), ?_⟩) | refine ⟨trivial, ?_⟩); gi_wp2)
    go_ret
    exact pushed_part (q := oneG.take 4) (List.take_prefix _ _) (by simpa [oneG] using hx)
  gi_wp2
  go_ret
  exact pushed_all (by simpa [oneG] using hJ_4) (((hk_1.trans hk_2).trans hk_3).trans hk_4)
end Go.Proofs.YtjmkbcdolkgcgaaDoor.Place
