/- Claimers, one behind the other, done to a memory whose slots' states are any words. No program is named. -/
import Derived.Test.YtoeiiodnpoldbaaDoorClaimMath
import Derived.Test.YtoeiiodnpoldbaaDoorBlankMath
namespace Go.Proofs.YtoeiiodnpoldbaaDoor.ClM
set_option maxRecDepth 20000
open DM PM CM KM BM Runs
set_option linter.unusedVariables false
set_option linter.unusedSimpArgs false

/-- The words of the first k slots' states are those of zs. -/
structure Stored (T N L : Nat) (zs : List Int) (k : Nat) (l : List Int) : Prop where
  len : l.length = wordsN T N L
  fits : BM.Fits l
  at_ : ∀ i, i < k → getI l (atI (T : Int) (L : Int) ((i : Int) + 1) 0) = zs[i]?.getD 0
section
variable {T N L : Nat} {zs : List Int}
/-- Where a slot's state is. -/
theorem state_at (hT : T ≤ 8) (hN : N ≤ 64) (hL : L ≤ 8) {i : Nat} (hi : i < N) : atI (T : Int) (L : Int) ((i : Int) + 1) 0 = ((4 + 3 * T + L + i * (6 + L) : Nat) : Int) ∧ 4 + 3 * T + L + i * (6 + L) < wordsN T N L := by
  obtain ⟨n, h1, h2, h3, h4⟩ := at_nat (a := 0) hT hN hL (show 1 ≤ i + 1 by omega) (show i + 1 ≤ N by omega) (by omega)
  simp only [Int.natCast_add, Int.natCast_one] at h1
  change atI (T : Int) (L : Int) ((i : Int) + 1) 0 = _ at h1
  have h5 : n = 4 + 3 * T + L + i * (6 + L) := by rw [h2]; unfold atN; simp
  rw [h1, ← h5]
  exact ⟨rfl, h4⟩
theorem state_there (hT : T ≤ 8) (hN : N ≤ 64) (hL : L ≤ 8) {i : Nat} (hi : i < N) {l : List Int} (hl : l.length = wordsN T N L) : there l (atI (T : Int) (L : Int) ((i : Int) + 1) 0) := by
  obtain ⟨h1, h2⟩ := state_at hT hN hL hi
  rw [h1]
  exact MM.there_in hl h2
theorem mul_ne {a b c : Nat} (hc : 1 ≤ c) (h : a ≠ b) : a * c ≠ b * c := fun e => h (Nat.eq_of_mul_eq_mul_right (by omega) e)
theorem state_ne (hT : T ≤ 8) (hN : N ≤ 64) (hL : L ≤ 8) {i j : Nat} (hi : i < N) (hj : j < N) (h : i ≠ j) : atI (T : Int) (L : Int) ((i : Int) + 1) 0 ≠ atI (T : Int) (L : Int) ((j : Int) + 1) 0 := by
  rw [(state_at hT hN hL hi).1, (state_at hT hN hL hj).1]
  have := mul_ne (c := 6 + L) (by omega) h
  omega
/-- Where an index of no slot would have it, no slot has it. -/
theorem state_out (hT : T ≤ 8) (hN : N ≤ 64) (hL : L ≤ 8) {a : Int} (ha : 0 ≤ a ∧ a ≤ 2147483647) (hno : ¬ (1 ≤ a ∧ a ≤ (N : Int))) {j : Nat} (hj : j < N) : atI (T : Int) (L : Int) a 0 ≠ atI (T : Int) (L : Int) ((j : Int) + 1) 0 := by
  rw [(state_at hT hN hL hj).1]
  have hb : ∀ m : Nat, m ≤ 64 → m * (6 + L) ≤ 896 := fun m hm => Nat.le_trans (Nat.mul_le_mul hm (show 6 + L ≤ 14 by omega)) (by decide)
  by_cases h0 : a = 0
  · subst h0
    have h1 : atI (T : Int) (L : Int) 0 0 = 3 * (T : Int) - 2 := by
      unfold atI
      rw [show 4 + 3 * (T : Int) + (L : Int) + (0 - 1) * (6 + (L : Int)) + 0 = 3 * (T : Int) - 2 by omega]
      exact wrap_in (by omega)
    rw [h1]
    have := Nat.zero_le (j * (6 + L))
    omega
  · obtain ⟨m, rfl⟩ : ∃ m : Nat, a = (m : Int) + 1 := ⟨(a - 1).toNat, by omega⟩
    have hm : N ≤ m := by omega
    have h2 : m * (6 + L) ≤ 2147483647 * 14 := Nat.mul_le_mul (by omega) (by omega)
    have h1 : atI (T : Int) (L : Int) ((m : Int) + 1) 0 = ((4 + 3 * T + L + m * (6 + L) : Nat) : Int) := by
      unfold atI
      rw [show 4 + 3 * (T : Int) + (L : Int) + ((m : Int) + 1 - 1) * (6 + (L : Int)) + 0 = ((4 + 3 * T + L + m * (6 + L) : Nat) : Int) by
        rw [Int.add_sub_cancel]
        simp only [Int.natCast_add, Int.natCast_mul]
        rw [Int.add_zero]
        rfl]
      exact wrap_in (by omega)
    rw [h1]
    have := mul_ne (a := m) (b := j) (c := 6 + L) (by omega) (by omega)
    omega
theorem Stored.start {l : List Int} (hl : l.length = wordsN T N L) (hf : BM.Fits l) : Stored T N L zs 0 l := ⟨hl, hf, fun i hi => by omega⟩
theorem Stored.step (hT : T ≤ 8) (hN : N ≤ 64) (hL : L ≤ 8) {k : Nat} {l : List Int} (h : Stored T N L zs k l) (hk : k < N) (hz : 0 ≤ zs[k]?.getD 0 ∧ zs[k]?.getD 0 < 18446744073709551616) : Stored T N L zs (k + 1) (setI l (atI (T : Int) (L : Int) ((k : Int) + 1) 0) (zs[k]?.getD 0)) := by
  refine ⟨by rw [setI_length]; exact h.len, fits_set h.fits _ hz, fun i hi => ?_⟩
  by_cases e : i = k
  · subst e
    exact get_set (state_there hT hN hL hk h.len) _
  · rw [get_other (state_ne hT hN hL hk (by omega) (fun q => e q.symm))]
    exact h.at_ i (by omega)

/-- Whether a slot's word is that of a timer, live, of the generation. -/
def liveB (tk : List Bool) (zs : List Int) (i : Nat) (r : Int) : Bool := !tk.getD i false && decide (zs[i - 1]?.getD 0 = SM.stI (genI r) 2)
/-- Amid the claimers: which slots were taken (by their index), and what stands there. -/
structure Once (T N L : Nat) (zs : List Int) (tk : List Bool) (l : List Int) : Prop where
  len : l.length = wordsN T N L
  fits : BM.Fits l
  row : tk.length = N + 1
  at_ : ∀ i, 1 ≤ i → i ≤ N → getI l (atI (T : Int) (L : Int) (i : Int) 0) = if tk.getD i false = true then SM.stI (zs[i - 1]?.getD 0 / 4294967296) 3 else zs[i - 1]?.getD 0
theorem Stored.once {l : List Int} (h : Stored T N L zs N l) : Once T N L zs (List.replicate (N + 1) false) l := by
  refine ⟨h.len, h.fits, List.length_replicate, fun i h1 h2 => ?_⟩
  obtain ⟨j, rfl⟩ : ∃ j, i = j + 1 := ⟨i - 1, by omega⟩
  have := h.at_ j (by omega)
  simp only [Int.natCast_add, Int.natCast_one]
  have h3 : (List.replicate (N + 1) false).getD (j + 1) false = false := by
    rw [List.getD_eq_getElem?_getD, List.getElem?_replicate]
    split <;> rfl
  rw [this, h3, if_neg (by decide), Nat.add_sub_cancel]
theorem live_gen {g : Int} (hg : 0 ≤ g ∧ g ≤ 4294967295) (s : Int) : SM.stI g s / 4294967296 = g := by unfold SM.stI; omega
theorem taken_ne (g v : Int) : SM.stI v 3 ≠ SM.stI g 2 := by unfold SM.stI; omega
/-- One that claims a slot that there is. -/
theorem Once.step (hT : T ≤ 8) (hN : N ≤ 64) (hL : L ≤ 8) {tk : List Bool} {l : List Int} (h : Once T N L zs tk l) {r : Int} (hr : 0 ≤ r ∧ r < 18446744073709551616) {i : Nat} (hi : idx r = (i : Int)) (h1 : 1 ≤ i) (h2 : i ≤ N) :
    decide (foundD l (3, atI (T : Int) (L : Int) (i : Int) 0, SM.stI (genI r) 2, SM.stI (genI r) 3, 0) = SM.stI (genI r) 2) = liveB tk zs i r ∧
    Once T N L zs (tk.set i (tk.getD i false || liveB tk zs i r)) (nextD l (3, atI (T : Int) (L : Int) (i : Int) 0, SM.stI (genI r) 2, SM.stI (genI r) 3, 0)) := by
  have hg := gen_ok hr
  have hat := h.at_ i h1 h2
  rw [foundD_yes (by simp), nextD_3]
  simp only
  have hw : decide (getI l (atI (T : Int) (L : Int) (i : Int) 0) = SM.stI (genI r) 2) = liveB tk zs i r := by
    unfold liveB
    rw [hat]
    cases hb : tk.getD i false
    · simp
    · simp only [if_pos, Bool.not_true, Bool.false_and]
      exact decide_eq_false (taken_ne _ _)
  refine ⟨hw, by rw [swapI_length]; exact h.len, ?_, by rw [List.length_set]; exact h.row, fun j j1 j2 => ?_⟩
  · unfold swapI
    split
    · exact fits_set h.fits _ ⟨SM.stI_lo _ _, SM.stI_hi _ _⟩
    · exact h.fits
  · have hth : there l (atI (T : Int) (L : Int) (i : Int) 0) := by
      have := state_there hT hN hL (i := i - 1) (by omega) h.len
      rwa [show (((i - 1 : Nat) : Int) + 1) = (i : Int) by omega] at this
    have hne : i ≠ j → atI (T : Int) (L : Int) (i : Int) 0 ≠ atI (T : Int) (L : Int) (j : Int) 0 := fun e => by
      have := state_ne hT hN hL (i := i - 1) (j := j - 1) (by omega) (by omega) (by omega)
      rwa [show (((i - 1 : Nat) : Int) + 1) = (i : Int) by omega, show (((j - 1 : Nat) : Int) + 1) = (j : Int) by omega] at this
    by_cases e : i = j
    · subst e
      have hset : (tk.set i (tk.getD i false || liveB tk zs i r)).getD i false = (tk.getD i false || liveB tk zs i r) := by
        rw [List.getD_eq_getElem?_getD, List.getElem?_set_self (by rw [h.row]; omega)]
        rfl
      rw [hset]
      unfold swapI
      by_cases hq : getI l (atI (T : Int) (L : Int) (i : Int) 0) = SM.stI (genI r) 2
      · rw [if_pos hq, get_set hth]
        rw [decide_eq_true hq] at hw
        rw [← hw, Bool.or_true, if_pos rfl]
        have hlv : zs[i - 1]?.getD 0 = SM.stI (genI r) 2 := by
          unfold liveB at hw
          have := hw.symm
          simp only [Bool.and_eq_true, decide_eq_true_eq] at this
          exact this.2
        rw [hlv, live_gen hg]
      · rw [if_neg hq]
        rw [decide_eq_false hq] at hw
        rw [← hw, Bool.or_false]
        exact hat
    · have hset : (tk.set i (tk.getD i false || liveB tk zs i r)).getD j false = tk.getD j false := by
        rw [List.getD_eq_getElem?_getD, List.getD_eq_getElem?_getD, List.getElem?_set_ne e]
        rfl
      rw [hset]
      have hsame : getI (swapI l (atI (T : Int) (L : Int) (i : Int) 0) (SM.stI (genI r) 2) (SM.stI (genI r) 3)) (atI (T : Int) (L : Int) (j : Int) 0) = getI l (atI (T : Int) (L : Int) (j : Int) 0) := by
        unfold swapI
        split
        · exact get_other (hne e)
        · rfl
      rw [hsame]
      exact h.at_ j j1 j2
/-- One that claims a slot that there is not. -/
theorem Once.out (hT : T ≤ 8) (hN : N ≤ 64) (hL : L ≤ 8) {tk : List Bool} {l : List Int} (h : Once T N L zs tk l) {r : Int} (hr : 0 ≤ r ∧ r < 18446744073709551616) (hi : ¬ (1 ≤ idx r ∧ idx r ≤ (N : Int))) :
    Once T N L zs tk (nextD l (3, atI (T : Int) (L : Int) (idx r) 0, SM.stI (genI r) 2, SM.stI (genI r) 3, 0)) := by
  rw [nextD_3]
  refine ⟨by rw [swapI_length]; exact h.len, ?_, h.row, fun j j1 j2 => ?_⟩
  · unfold swapI
    split
    · exact fits_set h.fits _ ⟨SM.stI_lo _ _, SM.stI_hi _ _⟩
    · exact h.fits
  · have hne : atI (T : Int) (L : Int) (idx r) 0 ≠ atI (T : Int) (L : Int) (j : Int) 0 := by
      have := state_out hT hN hL (a := idx r) (by unfold idx; omega) hi (j := j - 1) (by omega)
      rwa [show (((j - 1 : Nat) : Int) + 1) = (j : Int) by omega] at this
    have hsame : getI (swapI l (atI (T : Int) (L : Int) (idx r) 0) (SM.stI (genI r) 2) (SM.stI (genI r) 3)) (atI (T : Int) (L : Int) (j : Int) 0) = getI l (atI (T : Int) (L : Int) (j : Int) 0) := by
      unfold swapI
      split
      · exact get_other hne
      · rfl
    rw [hsame]
    exact h.at_ j j1 j2
/-- The one deed of a claimer. -/
def claimD (T L r : Int) : D := (3, atI T L (idx r) 0, SM.stI (genI r) 2, SM.stI (genI r) 3, 0)
theorem claimA_is (T L r : Int) : claimA T L r ⟨false, false⟩ = some (claimD T L r) := rfl
theorem Once.at_j {tk : List Bool} {l : List Int} (h : Once T N L zs tk l) {j : Nat} (hj : j < N) :
    getI l (atI (T : Int) (L : Int) ((j : Int) + 1) 0) = if tk.getD (j + 1) false = true then SM.stI (zs[j]?.getD 0 / 4294967296) 3 else zs[j]?.getD 0 := by
  have := h.at_ (j + 1) (by omega) (by omega)
  simpa only [Int.natCast_add, Int.natCast_one, Nat.add_sub_cancel] using this
theorem Once.taken (hT : T ≤ 8) (hN : N ≤ 64) (hL : L ≤ 8) {tk : List Bool} {l : List Int} (h : Once T N L zs tk l) {r : Int} (hr : 0 ≤ r ∧ r < 18446744073709551616) {j : Nat} (hi : idx r = (j : Int) + 1) (hj : j < N) (ht : tk[j + 1]? = some true) :
    decide (foundD l (claimD T L r) = SM.stI (genI r) 2) = false ∧ Once T N L zs (tk.set (j + 1) true) (nextD l (claimD T L r)) := by
  obtain ⟨h1, h2⟩ := h.step hT hN hL hr (i := j + 1) (by rw [hi]; simp) (by omega) (by omega)
  have h3 : tk.getD (j + 1) false = true := by rw [List.getD_eq_getElem?_getD, ht]; rfl
  have h4 : liveB tk zs (j + 1) r = false := by unfold liveB; rw [h3]; rfl
  have h5 : claimD T L r = (3, atI (T : Int) (L : Int) ((j + 1 : Nat) : Int) 0, SM.stI (genI r) 2, SM.stI (genI r) 3, 0) := by unfold claimD; rw [hi]; rfl
  rw [h4] at h1 h2
  rw [h3] at h2
  rw [h5]
  exact ⟨h1, h2⟩
theorem Once.free (hT : T ≤ 8) (hN : N ≤ 64) (hL : L ≤ 8) {tk : List Bool} {l : List Int} (h : Once T N L zs tk l) {r : Int} (hr : 0 ≤ r ∧ r < 18446744073709551616) {j : Nat} (hi : idx r = (j : Int) + 1) (hj : j < N) (ht : tk[j + 1]? = some false) :
    decide (foundD l (claimD T L r) = SM.stI (genI r) 2) = decide (zs[j]?.getD 0 = SM.stI (genI r) 2) ∧ Once T N L zs (tk.set (j + 1) (decide (zs[j]?.getD 0 = SM.stI (genI r) 2))) (nextD l (claimD T L r)) := by
  obtain ⟨h1, h2⟩ := h.step hT hN hL hr (i := j + 1) (by rw [hi]; simp) (by omega) (by omega)
  have h3 : tk.getD (j + 1) false = false := by rw [List.getD_eq_getElem?_getD, ht]; rfl
  have h4 : liveB tk zs (j + 1) r = decide (zs[j]?.getD 0 = SM.stI (genI r) 2) := by unfold liveB; rw [h3, Nat.add_sub_cancel]; rfl
  have h5 : claimD T L r = (3, atI (T : Int) (L : Int) ((j + 1 : Nat) : Int) 0, SM.stI (genI r) 2, SM.stI (genI r) 3, 0) := by unfold claimD; rw [hi]; rfl
  rw [h4] at h1 h2
  rw [h3, Bool.false_or] at h2
  rw [h5]
  exact ⟨h1, h2⟩
end
end Go.Proofs.YtoeiiodnpoldbaaDoor.ClM
