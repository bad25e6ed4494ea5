import Derived.Test.YtafjokjmogadnaaGreatDoorCollectFreesAllP1
import Derived.Test.YtafjokjmogadnaaGreatDoorCollectFreesAllP12
/- What is ripe is handed back: a collector in plain arithmetic. No program is named. -/
namespace Go.Proofs.YtafjokjmogadnaaGreatDoor.CoM
open DM PM CM BM Runs SM GiM LM
set_option linter.unusedVariables false
set_option linter.unusedSimpArgs false

/-- A collector: it looks at the epoch; then, the epoch known, it gives what is ripe, if anything is left. -/
inductive St where
  | look
  | at (c : Int) (k : Option (Int × GiM.St × List Int))
def genR (r : Int) : Int := r / 4294967296
def slotR (r : Int) : Int := r % 4294967296 / 2
/-- What a giver of the reference r asks for. -/
def givA (T L r : Int) : GiM.St → Option D := giveA T L (slotR r) (wordI (genR r))
/-- The next one of those that are ripe. -/
def nxt : List Int → Option (Int × GiM.St × List Int)
  | [] => none
  | r :: rs => some (r, GiM.init (genR r), rs)
/-- Those of a limbo that are ripe in c: their references. -/
def ripes (LL : Ls) (c : Int) : List Int := ((allL LL).filter (ripeB c)).map Prod.fst
def colA (T L : Int) : St → Option D
  | .look => some (1, 0, 0, 0, 0)
  | .at _ none => none
  | .at _ (some (r, s, _)) => givA T L r s
def colT (T L : Int) (LL : Ls) : St → Int → St
  | .look, f => .at f (nxt (ripes LL f))
  | .at c none, _ => .at c none
  | .at c (some (r, s, rs)), f => if (givA T L r (giveT s f)).isSome then .at c (some (r, giveT s f, rs)) else .at c (nxt rs)
/-- How many were ripe, and what is in the limbo. -/
def cntS (LL : Ls) : St → Nat
  | .look => 0
  | .at c _ => ((allL LL).filter (ripeB c)).length
def leftS (LL : Ls) : St → Ls
  | .look => LL
  | .at c _ => amidL LL c 3
theorem givA_init (T L r : Int) : givA T L r (GiM.init (genR r)) = some (2, atI T L (slotR r) 0, wordI (genR r), 0, 0) := by
  unfold givA GiM.init
  exact giveA_1 _ _ _ _ _
theorem passes (T L : Int) (LL : Ls) (c r : Int) (rs : List Int) : Passes (colA T L) (colT T L LL) (givA T L r) giveT (fun s => .at c (some (r, s, rs))) (.at c (nxt rs)) := fun s d h => ⟨h, fun f => rfl⟩
/-- A collector such as there can be: what it gives asks for something. -/
def Ok (T L : Int) : St → Prop
  | .look => True
  | .at _ none => True
  | .at _ (some (r, s, rs)) => GiM.Ok s ∧ (givA T L r s).isSome = true
theorem ok_nxt (T L c : Int) (rs : List Int) : Ok T L (.at c (nxt rs)) := by
  cases rs with
  | nil => exact True.intro
  | cons r rs => exact ⟨init_ok _, by rw [givA_init]; rfl⟩
end Go.Proofs.YtafjokjmogadnaaGreatDoor.CoM
