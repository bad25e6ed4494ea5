/- A marker at work while others store ways on without a mark: all ways on of its timer, from above. No program is named. -/
import Derived.Test.YtpefngpmbladeaaDoorMarkMath
import Derived.Test.YtpefngpmbladeaaDoorChainMath
namespace Go.Proofs.YtpefngpmbladeaaDoor.MkM
set_option maxRecDepth 20000
open DM PM CM KM BM Runs
set_option linter.unusedVariables false
set_option linter.unusedSimpArgs false

/-- Going the marking of the slot i's ways on below the level M, behind j deeds; of K times others may have come between. What was loaded stands there still, if nobody came since. -/
structure Going (T N L i M K : Nat) (came : Prop) (j : Nat) (l : List Int) (s : MkM.St) : Prop where
  len : l.length = wordsN T N L
  fits : BM.Fits l
  ok : Ok s
  lf : s.lf ≤ (M : Int)
  bit : ∀ h : Nat, h < M → getI l (nextI (T : Int) (L : Int) (i : Int) (h : Int)) % 2 = if (h : Int) < s.lf then 0 else 1
  way : s.st = 1 → came ∨ getI l (nextI (T : Int) (L : Int) (i : Int) (s.lf - 1)) = s.wy
  few : (s.lf = 0 ∧ j ≤ 217) ∨ (j : Int) + 2 * s.lf + 2 * ((K - j : Nat) : Int) ≤ 16 + 2 * (K : Int) + s.st

section
variable {T N L i M K : Nat}
/-- Where a way on is. -/
theorem next_nat (hT : T ≤ 8) (hN : N ≤ 64) (hL : L ≤ 8) (hi : i ≤ N) {h : Nat} (hh : h < L) : nextI (T : Int) (L : Int) (i : Int) (h : Int) = ((nextN T L i h : Nat) : Int) ∧ nextN T L i h < wordsN T N L := by
  have h1 := way_nat hT hN hL (r := 2 * (i : Int)) (h := h) (by unfold idx; omega) hh
  rw [show idx (2 * (i : Int)) = (i : Int) by unfold idx; omega] at h1
  simpa using h1
theorem next_ne (hT : T ≤ 8) (hN : N ≤ 64) (hL : L ≤ 8) (hi : i ≤ N) {h g : Nat} (hh : h < L) (hg : g < L) (e : h ≠ g) : nextI (T : Int) (L : Int) (i : Int) (h : Int) ≠ nextI (T : Int) (L : Int) (i : Int) (g : Int) := by
  rw [(next_nat hT hN hL hi hh).1, (next_nat hT hN hL hi hg).1]
  intro q
  exact e (next_inj hh hg (show nextN T L i h = nextN T L i g by omega)).2
theorem next_there (hT : T ≤ 8) (hN : N ≤ 64) (hL : L ≤ 8) (hi : i ≤ N) {h : Nat} (hh : h < L) {l : List Int} (hl : l.length = wordsN T N L) : there l (nextI (T : Int) (L : Int) (i : Int) (h : Int)) := by
  obtain ⟨h1, h2⟩ := next_nat hT hN hL hi hh
  rw [h1]
  exact MM.there_in hl h2

theorem Going.wide {P Q : Prop} {j : Nat} {l : List Int} {s : MkM.St} (h : Going T N L i M K P j l s) (hq : P → Q) : Going T N L i M K Q j l s :=
  ⟨h.len, h.fits, h.ok, h.lf, h.bit, fun e => (h.way e).imp hq id, h.few⟩
/-- Others come between. -/
theorem Going.others (hT : T ≤ 8) (hN : N ≤ 64) (hL : L ≤ 8) (hi : i ≤ N) (hM : M ≤ L) {j : Nat} {l : List Int} {s : MkM.St} (h : Going T N L i M K False j l s) (hj : j < K) {k : Nat} (hk : k < M) (he : ¬ getI l (nextI (T : Int) (L : Int) (i : Int) (k : Int)) % 2 = 1) {x : Int} (hx : 0 ≤ x ∧ x < 18446744073709551616) :
    Going T N L i M K (j < K) j (setI l (nextI (T : Int) (L : Int) (i : Int) (k : Int)) (x - x % 2)) s := by
  refine ⟨by rw [setI_length]; exact h.len, fits_set h.fits _ (by omega), h.ok, h.lf, fun g hg => ?_, fun _ => .inl hj, h.few⟩
  by_cases e : k = g
  · subst e
    have h1 := h.bit k hk
    rw [get_set (next_there hT hN hL hi (by omega) h.len)]
    split at h1
    · rw [if_pos (by assumption)]; omega
    · exact absurd h1 he
  · rw [get_other (next_ne hT hN hL hi (by omega) (by omega) e)]
    exact h.bit g hg
/-- A deed is done. -/
theorem Going.step (hT : T ≤ 8) (hN : N ≤ 64) (hL : L ≤ 8) (hi : i ≤ N) (hM : M ≤ L) (hK : K ≤ 100) {r : Int} (hr : idx r = (i : Int)) (hr2 : 0 ≤ r ∧ r < 18446744073709551616) {j : Nat} {l : List Int} {s : MkM.St} (h : Going T N L i M K (j < K) j l s) {d : D} (hd : markA (T : Int) (L : Int) r s = some d) :
    Going T N L i M K False (j + 1) (nextD l d) (markT s (foundD l d)) ∧ getI (nextD l d) d.2.1 - getI (nextD l d) d.2.1 % 2 = getI l d.2.1 - getI l d.2.1 % 2 ∧ DM.Fits d := by
  have hdf := markA_fits h.ok hr2 hd
  have hok := markT_ok h.ok (MM.fits_found h.fits d)
  obtain ⟨h1, h2, h3, h4, h5, h6, h7⟩ := h
  obtain ⟨lf, st, wy⟩ := s
  simp only at h4 h5 h6 h7
  have h8 := h3.st
  have h9 := h3.lf
  have h10 := h3.even
  simp only at h8 h9 h10
  by_cases h0 : lf = 0
  · subst h0
    rw [markA_0] at hd
    cases hd
  · obtain ⟨k, hk⟩ := Int.eq_ofNat_of_zero_le (show 0 ≤ lf - 1 by omega)
    have hkM : k < M := by omega
    have hev := h5 k hkM
    rw [if_pos (by omega), ← hk] at hev
    have hth := next_there hT hN hL hi (h := k) (by omega) h1
    rw [← hk] at hth
    have hno : ∀ g, g < M → g ≠ k → nextI (T : Int) (L : Int) (i : Int) (lf - 1) ≠ nextI (T : Int) (L : Int) (i : Int) (g : Int) := fun g hg e => by
      rw [hk]
      exact next_ne hT hN hL hi (by omega) (by omega) (fun q => e q.symm)
    rcases h8 with rfl | rfl
    · rw [markA_look h0, hr] at hd
      injection hd with hd
      subst hd
      rw [foundD_yes (by simp)] at hok ⊢
      rw [nextD_1]
      simp only at hok ⊢
      generalize hp : nextI (T : Int) (L : Int) (i : Int) (lf - 1) = p at hev hth hno h6 hdf hok ⊢
      rw [markT_to h0 (by omega)] at hok ⊢
      refine ⟨⟨h1, h2, hok, h4, h5, fun _ => .inr ?_, .inr ?_⟩, trivial, hdf⟩
      · show getI l (nextI (T : Int) (L : Int) (i : Int) (lf - 1)) = getI l p
        rw [hp]
      · show ((j + 1 : Nat) : Int) + 2 * lf + 2 * ((K - (j + 1) : Nat) : Int) ≤ 16 + 2 * (K : Int) + 1
        omega
    · rw [markA_turn h0, hr] at hd
      injection hd with hd
      subst hd
      rw [foundD_yes (by simp)] at hok ⊢
      rw [nextD_3]
      simp only at hok ⊢
      generalize hp : nextI (T : Int) (L : Int) (i : Int) (lf - 1) = p at hev hth hno h6 hdf hok ⊢
      by_cases hw : getI l p = wy
      · rw [markT_won h0 hw] at hok ⊢
        rw [show swapI l p wy (wy + 1) = setI l p (wy + 1) from if_pos hw]
        have hg := get_set hth (wy + 1)
        refine ⟨⟨by rw [setI_length]; exact h1, fits_set h2 _ hdf.2.2.1, hok, by show lf - 1 ≤ (M : Int); omega, fun g hgM => ?_, fun e => (by cases e), ?_⟩, by rw [hg, hw]; omega, hdf⟩
        · show getI (setI l p (wy + 1)) _ % 2 = if (g : Int) < lf - 1 then 0 else 1
          by_cases e : g = k
          · rw [e, ← hk, hp, hg, if_neg (by omega)]
            omega
          · rw [get_other (hno g hgM e), h5 g hgM]
            by_cases e2 : (g : Int) < lf - 1
            · rw [if_pos (by omega), if_pos e2]
            · rw [if_neg (by omega), if_neg e2]
        · show (lf - 1 = 0 ∧ j + 1 ≤ 217) ∨ ((j + 1 : Nat) : Int) + 2 * (lf - 1) + 2 * ((K - (j + 1) : Nat) : Int) ≤ 16 + 2 * (K : Int) + 0
          omega
      · have hjK : j < K := (h6 rfl).resolve_right hw
        rw [markT_lost h0 hw] at hok ⊢
        rw [show swapI l p wy (wy + 1) = l from if_neg hw]
        refine ⟨⟨h1, h2, hok, h4, h5, fun e => (by cases e), .inr ?_⟩, rfl, hdf⟩
        show ((j + 1 : Nat) : Int) + 2 * lf + 2 * ((K - (j + 1) : Nat) : Int) ≤ 16 + 2 * (K : Int) + 0
        omega
theorem markA_none {T L r : Int} {s : MkM.St} (h : markA T L r s = none) : s.lf = 0 := by
  unfold markA at h
  split at h
  · assumption
  · split at h <;> cases h
/-- At the end all are marked. -/
theorem Going.all {P : Prop} {j : Nat} {l : List Int} {s : MkM.St} (h : Going T N L i M K P j l s) (h0 : s.lf = 0) {k : Nat} (hk : k < M) : getI l (nextI (T : Int) (L : Int) (i : Int) (k : Int)) % 2 = 1 := by
  rw [h.bit k hk, h0, if_neg (by omega)]
/-- No level is marked ahead of the one above. -/
theorem Going.above {P : Prop} {j : Nat} {l : List Int} {s : MkM.St} (h : Going T N L i M K P j l s) {k : Nat} (hk : k + 1 < M) (hm : getI l (nextI (T : Int) (L : Int) (i : Int) (k : Int)) % 2 = 1) : getI l (nextI (T : Int) (L : Int) (i : Int) ((k : Int) + 1)) % 2 = 1 := by
  have h1 := h.bit k (by omega)
  have h2 := h.bit (k + 1) hk
  simp only [Int.natCast_add, Int.natCast_one] at h2
  rw [h2]
  rw [hm] at h1
  split at h1
  · cases h1
  · rw [if_neg (by omega)]
theorem Going.small {P : Prop} {j : Nat} {l : List Int} {s : MkM.St} (h : Going T N L i M K P j l s) (hK : K ≤ 100) (hP : j ≤ 300) : j ≤ 217 := by
  have h1 := h.ok.lf
  have h2 := h.ok.st
  rcases h.few with h3 | h3 <;> omega
/-- No way on is marked at the beginning. -/
theorem lay_next (g : Int) (hT : T ≤ 8) (hN : N ≤ 64) (hL : L ≤ 8) (hi : i ≤ N) {h : Nat} (hh : h < L) : ∀ k, k ≤ N → getI (layL (wordsN T N L) T N L g k) (nextI (T : Int) (L : Int) (i : Int) (h : Int)) = 0
  | 0, _ => by
    obtain ⟨h1, h2⟩ := next_nat hT hN hL hi hh
    have h4 : 4 ≤ nextN T L i h := by unfold nextN atN; split <;> omega
    rw [h1, lay_zero]
    unfold headL
    rw [get_other (by omega), get_other (by omega)]
    exact getI_some (by rw [List.getElem?_replicate, if_pos h2])
  | k + 1, hk => by
    obtain ⟨h1, h2⟩ := next_nat hT hN hL hi hh
    obtain ⟨b, hb, eb, _, _⟩ := at_nat (a := 0) hT hN hL (show 1 ≤ k + 1 by omega) hk (by omega)
    obtain ⟨c, hc, ec, _, _⟩ := at_nat (a := 5) hT hN hL (show 1 ≤ k + 1 by omega) hk (by omega)
    have h5 := next_at (T := T) (i := i) (j := k + 1) (a := 0) hh (by omega) (by omega)
    have h6 := next_at (T := T) (i := i) (j := k + 1) (a := 5) hh (by omega) (by omega)
    have ih := lay_next g hT hN hL hi hh k (by omega)
    simp only [Int.natCast_add, Int.natCast_one] at hb hc
    change atI T L ((k : Int) + 1) 0 = _ at hb
    change atI T L ((k : Int) + 1) 5 = _ at hc
    rw [h1] at ih ⊢
    rw [lay_succ, hb, hc, get_other (by omega), get_other (by omega)]
    exact ih
theorem Going.start (G tall : Int) (hT : T ≤ 8) (hN : N ≤ 64) (hL : L ≤ 8) (hi : i ≤ N) (hM : (M : Int) = leftI tall (L : Int)) (hG : 0 ≤ G ∧ G < 18446744073709551616) : Going T N L i M K False 0 (layL (wordsN T N L) (T : Int) (N : Int) (L : Int) G N) ⟨leftI tall (L : Int), 0, 0⟩ := by
  have hML : M ≤ L := by unfold leftI at hM; omega
  refine ⟨lay_length _ _ _ _ _ _, fits_lay _ _ _ hG (by omega) _, left_ok (by omega), by show leftI tall (L : Int) ≤ M; omega, fun h hh => ?_, fun e => (by cases e), .inr ?_⟩
  · show _ = if (h : Int) < leftI tall (L : Int) then (0 : Int) else 1
    rw [lay_next G hT hN hL hi (by omega) N (Nat.le_refl _), if_pos (by omega)]
    rfl
  · show ((0 : Nat) : Int) + 2 * leftI tall (L : Int) + 2 * ((K - 0 : Nat) : Int) ≤ 16 + 2 * (K : Int) + 0
    omega
end
end Go.Proofs.YtpefngpmbladeaaDoor.MkM
