/- The epoch that goes on, done alone to a memory, in plain arithmetic. No program is named. -/
import Derived.Test.YtbnckdleacieiaaDoorEpochMath
import Derived.Test.YtbnckdleacieiaaDoorMem
namespace Go.Proofs.YtbnckdleacieiaaDoor.EM
open DM PM CM BM MM Runs
set_option linter.unusedVariables false
set_option linter.unusedSimpArgs false
open Go.RowKit (wrap64)

theorem adv_fits {T : Int} {s : St} (h : Ok T s) {d : D} (hd : advA T s = some d) : DM.Fits d := by
  obtain ⟨_, h2, _⟩ := h
  have h5 := of_fits T 0 s.th
  unfold advA at hd
  unfold DM.Fits
  split at hd
  · cases hd; simp
  · split at hd
    · cases hd; simp; omega
    · split at hd
      · cases hd; simp; omega
      · cases hd

/-- Is a thread's word such that it holds no epoch e back? -/
def lets (e z : Int) : Bool := decide (z = 0 ∨ z = e)
/-- What being done alone comes to, in the words l, from the thread t on. -/
def Ends (T : Nat) (l : List Int) (e : Int) (t : Nat) (r : List Int × St) : Prop :=
  advA (T : Int) r.2 = none ∧
    (((∀ j : Nat, t ≤ j → j < T → lets e (getI l (ofI (T : Int) 0 (j : Int))) = true) ∧ r.1 = setI l 0 ((e + 1) % 18446744073709551616) ∧ wonB r.2 = true) ∨
     ((∃ j : Nat, t ≤ j ∧ j < T ∧ lets e (getI l (ofI (T : Int) 0 (j : Int))) = false) ∧ r.1 = l ∧ wonB r.2 = false))
theorem alone_from {T : Nat} {l : List Int} {e : Int} (hT : T ≤ 8) (h0 : getI l 0 = e) : ∀ (m t k : Nat), t + m = T → m + 1 ≤ k → Ends T l e t (alone (advA (T : Int)) (advT (T : Int)) k l (goI (T : Int) e (t : Int)))
  | 0, t, k, ht, hk => by
    obtain ⟨k, rfl⟩ : ∃ k', k = k' + 1 := ⟨k - 1, by omega⟩
    obtain rfl : t = T := by omega
    rw [go_turn (by omega), alone_more (advA_4 _ _ _), nextD_3, foundD_yes (by simp)]
    simp only
    rw [h0, advT_4, alone_done (advA_1 _ _ _)]
    refine ⟨advA_1 _ _ _, .inl ⟨fun j h1 h2 => by omega, ?_, won_1 _ _⟩⟩
    show swapI l 0 e _ = _
    rw [← h0, swap_is]
  | m + 1, t, k, ht, hk => by
    obtain ⟨k, rfl⟩ : ∃ k', k = k' + 1 := ⟨k - 1, by omega⟩
    rw [go_ask (by omega), alone_more (advA_3 _ _ _), nextD_1, foundD_yes (by simp)]
    simp only
    by_cases hz : getI l (ofI (T : Int) 0 (t : Int)) = 0 ∨ getI l (ofI (T : Int) 0 (t : Int)) = e
    · rw [advT_3 hz, wrap_in (by omega)]
      obtain ⟨h1, h2⟩ := alone_from hT h0 m (t + 1) k (by omega) (by omega)
      refine ⟨h1, ?_⟩
      rcases h2 with ⟨h3, h4⟩ | ⟨⟨j, h3, h5, h6⟩, h4⟩
      · refine .inl ⟨fun j h5 h6 => ?_, h4⟩
        by_cases hj : j = t
        · subst hj; exact decide_eq_true hz
        · exact h3 j (by omega) h6
      · exact .inr ⟨⟨j, by omega, h5, h6⟩, h4⟩
    · rw [advT_3n hz, alone_done (advA_0 _ _ _)]
      exact ⟨advA_0 _ _ _, .inr ⟨⟨t, Nat.le_refl _, by omega, decide_eq_false hz⟩, rfl, won_0 _ _⟩⟩
theorem alone_all {T : Nat} {l : List Int} {e : Int} (hT : T ≤ 8) (h0 : getI l 0 = e) : Ends T l e 0 (alone (advA (T : Int)) (advT (T : Int)) 19 l ⟨2, 0, 0⟩) := by
  rw [alone_more (k := 18) (advA_2 _ _ _), nextD_1, foundD_yes (by simp), advT_2]
  simp only
  rw [h0]
  exact alone_from hT h0 T 0 18 (by omega) (by omega)

/-! The words that the law lays: the epoch, and each thread's Pin. -/
/-- The first k threads' words laid. -/
def layP (T : Int) (l : List Int) (zs : List Int) : Nat → List Int
  | 0 => l
  | k + 1 => setI (layP T l zs k) (ofI T 0 (k : Int)) (zs.getD k 0)
theorem layP_zero (T : Int) (l zs : List Int) : layP T l zs 0 = l := rfl
theorem layP_succ (T : Int) (l zs : List Int) (k : Nat) : layP T l zs (k + 1) = setI (layP T l zs k) (ofI T 0 (k : Int)) (zs.getD k 0) := rfl
theorem layP_length (T : Int) (l zs : List Int) : ∀ k, (layP T l zs k).length = l.length
  | 0 => rfl
  | k + 1 => by rw [layP_succ, setI_length, layP_length T l zs k]
theorem layP_fits {l zs : List Int} (T : Int) (h : BM.Fits l) (hz : ∀ z ∈ zs, 0 ≤ z ∧ z < 18446744073709551616) : ∀ k, BM.Fits (layP T l zs k)
  | 0 => h
  | k + 1 => by
    rw [layP_succ]
    refine fits_set (layP_fits T h hz k) _ ?_
    rw [List.getD_eq_getElem?_getD]
    cases hk : zs[k]? with
    | none => simp
    | some z => exact hz z (List.mem_of_getElem? hk)
theorem layP_get {T S L : Nat} {l : List Int} (zs : List Int) (hT : T ≤ 8) (hl : l.length = wordsN T S L) : ∀ k, k ≤ T → getI (layP (T : Int) l zs k) 0 = getI l 0 ∧ ∀ j, j < k → getI (layP (T : Int) l zs k) (ofI (T : Int) 0 (j : Int)) = zs.getD j 0
  | 0, _ => ⟨rfl, fun j h => by omega⟩
  | k + 1, hk => by
    obtain ⟨h1, h2⟩ := layP_get zs hT hl k (by omega)
    have hof : ∀ j : Nat, j < T → ofI (T : Int) 0 (j : Int) = ((4 + j : Nat) : Int) ∧ 4 + j < wordsN T S L := fun j hj => by
      have := of_nat (S := S) (L := L) (n := 0) hT (by omega) hj
      exact ⟨by simpa using this.1, by simpa using this.2.2.2⟩
    rw [layP_succ, (hof k (by omega)).1]
    refine ⟨by rw [get_other (by omega)]; exact h1, fun j hj => ?_⟩
    by_cases e : j = k
    · subst e
      rw [(hof j (by omega)).1]
      exact get_set (there_in (by rw [layP_length]; exact hl) (hof j (by omega)).2) _
    · have h3 := h2 j (by omega)
      rw [(hof j (by omega)).1] at h3 ⊢
      rw [get_other (by omega)]
      exact h3
/-- Do all of the first k threads let the epoch go on? -/
def allP (e : Int) (zs : List Int) : Nat → Bool
  | 0 => true
  | k + 1 => allP e zs k && lets e (zs.getD k 0)
theorem allP_succ (e : Int) (zs : List Int) (k : Nat) : allP e zs (k + 1) = (allP e zs k && lets e (zs.getD k 0)) := rfl
theorem allP_is (e : Int) (zs : List Int) : ∀ k, allP e zs k = true ↔ ∀ j, j < k → lets e (zs.getD j 0) = true
  | 0 => by simp [allP]
  | k + 1 => by
    rw [allP_succ, Bool.and_eq_true, allP_is e zs k]
    constructor
    · rintro ⟨h1, h2⟩ j hj
      by_cases e1 : j = k
      · subst e1; exact h2
      · exact h1 j (by omega)
    · exact fun h => ⟨fun j hj => h j (by omega), h k (by omega)⟩
/-- All that the law asks. -/
theorem goes_all {T S L : Nat} (l zs : List Int) (e : Int) (hT : T ≤ 8) (hl : l.length = wordsN T S L) (h0 : getI l 0 = e) (he : 0 ≤ e ∧ e < 18446744073709551616) : ∃ b : Bool, b = allP e zs T ∧ ∃ l' s', alone (advA (T : Int)) (advT (T : Int)) 19 (layP (T : Int) l zs T) ⟨2, 0, 0⟩ = (l', s') ∧ advA (T : Int) s' = none ∧ wonB s' = b ∧
    l'.length = l.length ∧ (∀ j : Nat, j ≠ 0 → l'[j]? = (layP (T : Int) l zs T)[j]?) ∧ getI l' 0 = if b = true then (e + 1) % 18446744073709551616 else e := by
  obtain ⟨g0, g1⟩ := layP_get zs hT hl T (Nat.le_refl _)
  rw [h0] at g0
  refine ⟨_, rfl, ?_⟩
  obtain ⟨l', s', hr⟩ : ∃ l' s', alone (advA (T : Int)) (advT (T : Int)) 19 (layP (T : Int) l zs T) ⟨2, 0, 0⟩ = (l', s') := ⟨_, _, rfl⟩
  have ha := alone_all hT g0
  rw [hr] at ha
  obtain ⟨h1, h2⟩ := ha
  refine ⟨l', s', hr, h1, ?_⟩
  have hlen := layP_length (T : Int) l zs T
  rcases h2 with ⟨h3, h4, h5⟩ | ⟨⟨j, _, h3, h6⟩, h4, h5⟩
  · have hA : allP e zs T = true := (allP_is e zs T).2 fun j hj => by rw [← g1 j hj]; exact h3 j (Nat.zero_le _) hj
    simp only at h4 h5
    rw [hA, h4]
    refine ⟨h5, by rw [setI_length, hlen], fun j hj => ?_, by rw [if_pos rfl]; exact get_set (there_in (T := T) (S := S) (L := L) (j := 0) (by rw [hlen]; exact hl) (by unfold wordsN; omega)) _⟩
    have h7 := setI_in (l := layP (T : Int) l zs T) (j := 0) (by rw [hlen, hl]; unfold wordsN; omega) ((e + 1) % 18446744073709551616)
    simp only [Int.ofNat_zero, Int.natCast_zero] at h7
    rw [h7, List.getElem?_set_ne (by omega)]
  · have hA : allP e zs T = false := by
      cases h8 : allP e zs T with
      | false => rfl
      | true =>
        have := (allP_is e zs T).1 h8 j h3
        rw [← g1 j h3, h6] at this
        cases this
    simp only at h4 h5
    rw [hA, h4]
    exact ⟨h5, hlen, fun _ _ => rfl, by rw [if_neg (by simp)]; exact g0⟩
end Go.Proofs.YtbnckdleacieiaaDoor.EM
