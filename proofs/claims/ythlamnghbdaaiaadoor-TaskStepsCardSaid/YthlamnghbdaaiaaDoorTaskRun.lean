/- A list of deeds done one behind the other in a list of words: what they find, which words there are then. No program is named. -/
import Derived.Test.YthlamnghbdaaiaaDoorDeedMath
namespace Go.Proofs.YthlamnghbdaaiaaDoor.TR
open CM DM

def runW : List Int → List D → List Int
  | l, [] => l
  | l, x :: ds => runW (nextD l x) ds
def runF : List Int → List D → List Int
  | _, [] => []
  | l, x :: ds => foundD l x :: runF (nextD l x) ds
theorem runW_snoc (x : D) : ∀ (l : List Int) (ds : List D), runW l (ds ++ [x]) = nextD (runW l ds) x
  | _, [] => rfl
  | l, y :: ds => runW_snoc x (nextD l y) ds
theorem runF_snoc (x : D) : ∀ (l : List Int) (ds : List D), runF l (ds ++ [x]) = runF l ds ++ [foundD (runW l ds) x]
  | _, [] => rfl
  | l, y :: ds => by
    show foundD l y :: runF (nextD l y) (ds ++ [x]) = foundD l y :: (runF (nextD l y) ds ++ [foundD (runW (nextD l y) ds) x])
    rw [runF_snoc x (nextD l y) ds]
theorem runW_length : ∀ (l : List Int) (ds : List D), (runW l ds).length = l.length
  | _, [] => rfl
  | l, x :: ds => (runW_length (nextD l x) ds).trans (nextD_length l x)
theorem runF_length : ∀ (l : List Int) (ds : List D), (runF l ds).length = ds.length
  | _, [] => rfl
  | l, x :: ds => by simp [runF, runF_length (nextD l x) ds]
/-- How many of n deeds are done, at most so many. -/
def kOf (most : Int) (n : Nat) : Nat := min most.toNat n
theorem take_snoc {α : Type} {ds : List α} {k : Nat} {x : α} (h : ds[k]? = some x) : ds.take (k + 1) = ds.take k ++ [x] := by rw [List.take_add_one, h]; rfl
end Go.Proofs.YthlamnghbdaaiaaDoor.TR
