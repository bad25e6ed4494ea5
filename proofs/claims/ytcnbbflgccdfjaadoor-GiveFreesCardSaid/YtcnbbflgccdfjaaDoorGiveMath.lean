/- A slot that is handed back, in plain arithmetic. No program is named. -/
import Derived.Test.YtcnbbflgccdfjaaDoorPoolStackMath
import Derived.Test.YtcnbbflgccdfjaaDoorStateMath
namespace Go.Proofs.YtcnbbflgccdfjaaDoor.GiM
open DM PM CM BM Runs SM
open PoM (pushA pushT pushA_0 pushT_ok turn_lo pushL push_some Stack stack_push slot_at fits_pushL pushL_length)
set_option linter.unusedVariables false
set_option linter.unusedSimpArgs false

/-- A giver: whether its state is not stored yet; what comes behind, if anything. -/
structure St where
  fst : Bool
  psh : Option PoM.St
/-- The word that a slot of the generation g comes to. -/
def wordI (g : Int) : Int := SM.nextI (stI g 3)
theorem word_lo (g : Int) : 0 ≤ wordI g ∧ wordI g < 18446744073709551616 := ⟨SM.nextI_lo _, SM.nextI_hi _⟩
theorem word_any {g : Int} (h0 : 0 ≤ g) (h1 : g ≤ 4294967295) (s : Int) (s0 : 0 ≤ s) (s1 : s ≤ 4294967295) : SM.nextI (stI g s) = wordI g := by
  unfold wordI SM.nextI
  rw [stI_gen h0 h1, stI_gen h0 h1]
theorem word_last : wordI 4294967295 = stI 4294967295 4 := by
  unfold wordI SM.nextI
  rw [stI_gen (by decide) (by decide), if_pos rfl]
theorem word_next {g : Int} (h0 : 0 ≤ g) (h1 : g < 4294967295) : wordI g = stI (g + 1) 0 := by
  unfold wordI SM.nextI
  rw [stI_gen h0 (by omega), if_neg (by omega)]
def giveA (T L i x : Int) (s : St) : Option D := if s.fst then some (2, atI T L i 0, x, 0, 0) else s.psh.bind (pushA T L i)
def giveT (s : St) (f : Int) : St := if s.fst then ⟨false, s.psh⟩ else ⟨false, s.psh.map fun q => pushT q f⟩
def Ok (s : St) : Prop := ∀ q, s.psh = some q → PoM.Ok q
def init (g : Int) : St := ⟨true, if g = 4294967295 then none else some ⟨1, 0, 0⟩⟩
theorem giveA_1 (T L i x : Int) (o : Option PoM.St) : giveA T L i x ⟨true, o⟩ = some (2, atI T L i 0, x, 0, 0) := rfl
theorem giveA_n (T L i x : Int) : giveA T L i x ⟨false, none⟩ = none := rfl
theorem giveA_s (T L i x : Int) (q : PoM.St) : giveA T L i x ⟨false, some q⟩ = pushA T L i q := rfl
theorem giveT_1 (o : Option PoM.St) (f : Int) : giveT ⟨true, o⟩ f = ⟨false, o⟩ := rfl
theorem giveT_n (f : Int) : giveT ⟨false, none⟩ f = ⟨false, none⟩ := rfl
theorem giveT_s (q : PoM.St) (f : Int) : giveT ⟨false, some q⟩ f = ⟨false, some (pushT q f)⟩ := rfl
theorem init_last : init 4294967295 = ⟨true, none⟩ := rfl
theorem init_some {g : Int} (h : ¬ g = 4294967295) : init g = ⟨true, some ⟨1, 0, 0⟩⟩ := by unfold init; rw [if_neg h]
theorem holds_push (T L i x : Int) : Holds (giveA T L i x) giveT (pushA T L i) pushT (fun q => ⟨false, some q⟩) := fun q d h => ⟨by rw [giveA_s, h], fun f => giveT_s q f⟩
theorem giveT_ok {s : St} (h : Ok s) {f : Int} (hf : 0 ≤ f ∧ f < 18446744073709551616) : Ok (giveT s f) := by
  obtain ⟨b, o⟩ := s
  intro q hq
  cases b with
  | true => exact h q hq
  | false =>
    cases o with
    | none => cases hq
    | some p =>
      cases hq
      exact pushT_ok (h p rfl) hf
theorem init_ok (g : Int) : Ok (init g) := by
  intro q hq
  by_cases h : g = 4294967295
  · subst h
    cases hq
  · rw [init_some h] at hq
    cases hq
    unfold PoM.Ok
    decide
theorem giveA_fits {T L i x : Int} (hx : 0 ≤ x ∧ x < 18446744073709551616) {s : St} {d : D} (hs : Ok s) (h : giveA T L i x s = some d) : DM.Fits d := by
  obtain ⟨b, o⟩ := s
  cases b with
  | true =>
    rw [giveA_1] at h
    cases h
    have ha := PoM.at_fits T L i 0
    unfold DM.Fits
    simp only
    omega
  | false =>
    cases o with
    | none => rw [giveA_n] at h; cases h
    | some q => exact PoM.pushA_fits (hs q rfl) h

/-! Done alone. -/
theorem give_last {T L i x : Int} {l : List Int} (k : Nat) : alone (giveA T L i x) giveT (k + 1) l ⟨true, none⟩ = (setI l (atI T L i 0) x, ⟨false, none⟩) := by
  rw [alone_more (giveA_1 T L i x none), nextD_2, giveT_1]
  exact alone_done (giveA_n T L i x)
theorem alone_in {σ τ : Type} {ask : σ → Option D} {tell : σ → Int → σ} {askS : τ → Option D} {tellS : τ → Int → τ} {ι : τ → σ} (h : Holds ask tell askS tellS ι) (hn : ∀ t, askS t = none → ask (ι t) = none) : ∀ (k : Nat) (l : List Int) (t : τ),
    alone ask tell k l (ι t) = ((alone askS tellS k l t).1, ι (alone askS tellS k l t).2)
  | 0, l, t => rfl
  | k + 1, l, t => by
    cases ha : askS t with
    | none => rw [alone_done ha, alone_done (hn t ha)]
    | some d =>
      obtain ⟨h1, h2⟩ := h t d ha
      rw [alone_more ha, alone_more h1, h2]
      exact alone_in h hn k _ _
/-- The words behind. -/
def giveL (T L i x : Int) (l : List Int) : List Int := pushL T L i (setI l (atI T L i 0) x)
theorem give_some {T L i x : Int} {l : List Int} (k : Nat) (h : getI (setI (setI l (atI T L i 0) x) (atI T L i 5) (getI (setI l (atI T L i 0) x) 3 % 4294967296)) 3 = getI (setI l (atI T L i 0) x) 3) :
    alone (giveA T L i x) giveT (k + 4) l ⟨true, some ⟨1, 0, 0⟩⟩ = (giveL T L i x l, ⟨false, some ⟨0, getI (setI l (atI T L i 0) x) 3, 0⟩⟩) := by
  rw [alone_more (giveA_1 T L i x _), nextD_2, giveT_1]
  rw [alone_in (holds_push T L i x) (fun t h => by rw [giveA_s, h]) (k + 3), push_some k h]
  rfl
end Go.Proofs.YtcnbbflgccdfjaaDoor.GiM
