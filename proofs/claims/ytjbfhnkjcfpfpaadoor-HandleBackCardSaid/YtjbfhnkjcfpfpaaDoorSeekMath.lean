/- Seeking, in plain arithmetic: what a seeker asks for, and what it becomes. No program is named. -/
import Derived.Test.YtjbfhnkjcfpfpaaDoorRuns
import Derived.Test.YtjbfhnkjcfpfpaaDoorPlanMath
import Derived.Test.YtjbfhnkjcfpfpaaDoorOrderMath
namespace Go.Proofs.YtjbfhnkjcfpfpaaDoor.KM
open DM PM CM Runs
open Go.RowKit (wrap64)

/-- The slot of a reference. -/
def idx (r : Int) : Int := r % 4294967296 / 2
/-- A seeker: its step (0 done, 1 a level begins, 2 looks, 3 cuts, 4 weighs, 5 numbers), its level, where it is, and what was found, from the highest level on. -/
structure St where
  st : Int
  lv : Int
  pr : Int
  cu : Int
  nx : Int
  ps : List Int
  ss : List Int
/-- On at the level below lv. -/
def desc (lv pr cu nx : Int) (ps ss : List Int) : St := if lv ≤ 0 then ⟨0, lv, pr, cu, nx, ps, ss⟩ else ⟨1, lv - 1, pr, cu, nx, ps, ss⟩
/-- Anew, of L levels. -/
def anew (L cu nx : Int) : St := desc L 0 cu nx [] []
def find (lv pr cu nx : Int) (ps ss : List Int) (x : Int) : St := desc lv pr cu nx (ps ++ [pr]) (ss ++ [x])
def reach (lv pr cu nx : Int) (ps ss : List Int) (r : Int) : St := if idx r = 0 then find lv pr cu nx ps ss 0 else ⟨2, lv, pr, r, nx, ps, ss⟩
def pass (lv pr cu nx : Int) (ps ss : List Int) (b : Bool) : St := if b then reach lv cu cu nx ps ss nx else find lv pr cu nx ps ss cu
def seekA (T L : Int) (s : St) : Option D :=
  if s.st = 1 then some (1, nextI T L (idx s.pr) s.lv, 0, 0, s.pr) else if s.st = 2 then some (1, nextI T L (idx s.cu) s.lv, 0, 0, s.cu) else if s.st = 3 then some (3, nextI T L (idx s.pr) s.lv, s.cu, s.nx, s.pr) else
  if s.st = 4 then some (1, atI T L (idx s.cu) 1, 0, 0, s.cu) else if s.st = 5 then some (1, atI T L (idx s.cu) 2, 0, 0, s.cu) else none
def seekT (L dl sq : Int) (s : St) (f : Int) : St :=
  if s.st = 1 then (if f % 2 = 1 then anew L s.cu s.nx else reach s.lv s.pr s.cu s.nx s.ps s.ss f) else
  if s.st = 2 then ⟨if f % 2 = 1 then 3 else 4, s.lv, s.pr, s.cu, f - f % 2, s.ps, s.ss⟩ else
  if s.st = 3 then (if f = s.cu then reach s.lv s.pr s.cu s.nx s.ps s.ss s.nx else anew L s.cu s.nx) else
  if s.st = 4 then (if wrap64 f = dl then ⟨5, s.lv, s.pr, s.cu, s.nx, s.ps, s.ss⟩ else pass s.lv s.pr s.cu s.nx s.ps s.ss (decide (wrap64 f < dl))) else
  if s.st = 5 then pass s.lv s.pr s.cu s.nx s.ps s.ss (decide (f < sq)) else s
/-- What it tells: ahead of the end nothing. -/
def predsL (s : St) : List Int := if s.st = 0 then s.ps.reverse else []
def succsL (s : St) : List Int := if s.st = 0 then s.ss.reverse else []

section
variable {T L dl sq lv pr cu nx f r : Int} {ps ss : List Int} {b : Bool}
theorem desc_end (h : lv ≤ 0) : desc lv pr cu nx ps ss = ⟨0, lv, pr, cu, nx, ps, ss⟩ := if_pos h
theorem desc_on (h : ¬ lv ≤ 0) : desc lv pr cu nx ps ss = ⟨1, lv - 1, pr, cu, nx, ps, ss⟩ := if_neg h
theorem reach_none (h : idx r = 0) : reach lv pr cu nx ps ss r = find lv pr cu nx ps ss 0 := if_pos h
theorem reach_some (h : ¬ idx r = 0) : reach lv pr cu nx ps ss r = ⟨2, lv, pr, r, nx, ps, ss⟩ := if_neg h
theorem pass_yes : pass lv pr cu nx ps ss true = reach lv cu cu nx ps ss nx := if_pos rfl
theorem pass_no : pass lv pr cu nx ps ss false = find lv pr cu nx ps ss cu := if_neg (by simp)
theorem seekA_0 : seekA T L ⟨0, lv, pr, cu, nx, ps, ss⟩ = none := by simp [seekA]
theorem seekA_1 : seekA T L ⟨1, lv, pr, cu, nx, ps, ss⟩ = some (1, nextI T L (idx pr) lv, 0, 0, pr) := by simp [seekA]
theorem seekA_2 : seekA T L ⟨2, lv, pr, cu, nx, ps, ss⟩ = some (1, nextI T L (idx cu) lv, 0, 0, cu) := by simp [seekA]
theorem seekA_3 : seekA T L ⟨3, lv, pr, cu, nx, ps, ss⟩ = some (3, nextI T L (idx pr) lv, cu, nx, pr) := by simp [seekA]
theorem seekA_4 : seekA T L ⟨4, lv, pr, cu, nx, ps, ss⟩ = some (1, atI T L (idx cu) 1, 0, 0, cu) := by simp [seekA]
theorem seekA_5 : seekA T L ⟨5, lv, pr, cu, nx, ps, ss⟩ = some (1, atI T L (idx cu) 2, 0, 0, cu) := by simp [seekA]
theorem seekT_0 : seekT L dl sq ⟨0, lv, pr, cu, nx, ps, ss⟩ f = ⟨0, lv, pr, cu, nx, ps, ss⟩ := by simp [seekT]
theorem seekT_1m (h : f % 2 = 1) : seekT L dl sq ⟨1, lv, pr, cu, nx, ps, ss⟩ f = anew L cu nx := by simp [seekT, h]
theorem seekT_1 (h : ¬ f % 2 = 1) : seekT L dl sq ⟨1, lv, pr, cu, nx, ps, ss⟩ f = reach lv pr cu nx ps ss f := by simp [seekT, h]
theorem seekT_2m (h : f % 2 = 1) : seekT L dl sq ⟨2, lv, pr, cu, nx, ps, ss⟩ f = ⟨3, lv, pr, cu, f - f % 2, ps, ss⟩ := by simp [seekT, h]
theorem seekT_2 (h : ¬ f % 2 = 1) : seekT L dl sq ⟨2, lv, pr, cu, nx, ps, ss⟩ f = ⟨4, lv, pr, cu, f - f % 2, ps, ss⟩ := by simp [seekT, h]
theorem seekT_3 : seekT L dl sq ⟨3, lv, pr, cu, nx, ps, ss⟩ cu = reach lv pr cu nx ps ss nx := by simp [seekT]
theorem seekT_3n (h : ¬ f = cu) : seekT L dl sq ⟨3, lv, pr, cu, nx, ps, ss⟩ f = anew L cu nx := by simp [seekT, h]
theorem seekT_4e (h : wrap64 f = dl) : seekT L dl sq ⟨4, lv, pr, cu, nx, ps, ss⟩ f = ⟨5, lv, pr, cu, nx, ps, ss⟩ := by simp [seekT, h]
theorem seekT_4 (h : ¬ wrap64 f = dl) (hb : b = decide (wrap64 f < dl)) : seekT L dl sq ⟨4, lv, pr, cu, nx, ps, ss⟩ f = pass lv pr cu nx ps ss b := by subst hb; simp [seekT, h]
theorem seekT_5 (hb : b = decide (f < sq)) : seekT L dl sq ⟨5, lv, pr, cu, nx, ps, ss⟩ f = pass lv pr cu nx ps ss b := by subst hb; simp [seekT]
end

/-- Such a seeker as there can be, told k words at most. -/
structure Ok (k : Nat) (s : St) : Prop where
  st : s.st = 0 ∨ s.st = 1 ∨ s.st = 2 ∨ s.st = 3 ∨ s.st = 4 ∨ s.st = 5
  lv : s.lv ≤ 9223372036854775807
  pr : 0 ≤ s.pr ∧ s.pr < 18446744073709551616
  cu : 0 ≤ s.cu ∧ s.cu < 18446744073709551616
  nx : 0 ≤ s.nx ∧ s.nx < 18446744073709551616
  len : s.ss.length = s.ps.length
  few : s.ps.length ≤ k
theorem Ok.up {k k' : Nat} {s : St} (h : Ok k s) (hk : k ≤ k') : Ok k' s := ⟨h.st, h.lv, h.pr, h.cu, h.nx, h.len, Nat.le_trans h.few hk⟩
section
variable {k : Nat} {lv pr cu nx r : Int} {ps ss : List Int} {b : Bool}
theorem desc_ok (hl : lv ≤ 9223372036854775807) (hp : 0 ≤ pr ∧ pr < 18446744073709551616) (hc : 0 ≤ cu ∧ cu < 18446744073709551616) (hn : 0 ≤ nx ∧ nx < 18446744073709551616) (he : ss.length = ps.length) (hk : ps.length ≤ k) : Ok k (desc lv pr cu nx ps ss) := by
  unfold desc
  split
  · exact ⟨.inl rfl, hl, hp, hc, hn, he, hk⟩
  · exact ⟨.inr (.inl rfl), by show lv - 1 ≤ _; omega, hp, hc, hn, he, hk⟩
theorem anew_ok {L : Int} (hl : L ≤ 9223372036854775807) (hc : 0 ≤ cu ∧ cu < 18446744073709551616) (hn : 0 ≤ nx ∧ nx < 18446744073709551616) : Ok k (anew L cu nx) :=
  desc_ok hl (by omega) hc hn rfl (Nat.zero_le _)
theorem find_ok {x : Int} (hl : lv ≤ 9223372036854775807) (hp : 0 ≤ pr ∧ pr < 18446744073709551616) (hc : 0 ≤ cu ∧ cu < 18446744073709551616) (hn : 0 ≤ nx ∧ nx < 18446744073709551616) (he : ss.length = ps.length) (hk : ps.length ≤ k) : Ok (k + 1) (find lv pr cu nx ps ss x) :=
  desc_ok hl hp hc hn (by simp [he]) (by simp; omega)
theorem reach_ok (hl : lv ≤ 9223372036854775807) (hp : 0 ≤ pr ∧ pr < 18446744073709551616) (hc : 0 ≤ cu ∧ cu < 18446744073709551616) (hn : 0 ≤ nx ∧ nx < 18446744073709551616) (he : ss.length = ps.length) (hk : ps.length ≤ k) (hr : 0 ≤ r ∧ r < 18446744073709551616) : Ok (k + 1) (reach lv pr cu nx ps ss r) := by
  unfold reach
  split
  · exact find_ok hl hp hc hn he hk
  · exact ⟨.inr (.inr (.inl rfl)), hl, hp, hr, hn, he, Nat.le_succ_of_le hk⟩
theorem pass_ok (hl : lv ≤ 9223372036854775807) (hp : 0 ≤ pr ∧ pr < 18446744073709551616) (hc : 0 ≤ cu ∧ cu < 18446744073709551616) (hn : 0 ≤ nx ∧ nx < 18446744073709551616) (he : ss.length = ps.length) (hk : ps.length ≤ k) : Ok (k + 1) (pass lv pr cu nx ps ss b) := by
  unfold pass
  split
  · exact reach_ok hl hc hc hn he hk hn
  · exact find_ok hl hp hc hn he hk
end
theorem seekT_ok {k : Nat} {L dl sq f : Int} {s : St} (h : Ok k s) (hL : L ≤ 9223372036854775807) (hf : 0 ≤ f ∧ f < 18446744073709551616) : Ok (k + 1) (seekT L dl sq s f) := by
  obtain ⟨h1, h2, h3, h4, h5, h6, h7⟩ := id h
  unfold seekT
  split
  · split
    · exact anew_ok hL h4 h5
    · exact reach_ok h2 h3 h4 h5 h6 h7 hf
  · split
    · exact ⟨by simp only; split <;> simp, h2, h3, h4, by simp only; omega, h6, Nat.le_succ_of_le h7⟩
    · split
      · split
        · exact reach_ok h2 h3 h4 h5 h6 h7 h5
        · exact anew_ok hL h4 h5
      · split
        · split
          · exact ⟨by simp, h2, h3, h4, h5, h6, Nat.le_succ_of_le h7⟩
          · exact pass_ok h2 h3 h4 h5 h6 h7
        · split
          · exact pass_ok h2 h3 h4 h5 h6 h7
          · exact h.up (Nat.le_succ _)
end Go.Proofs.YtjbfhnkjcfpfpaaDoor.KM
