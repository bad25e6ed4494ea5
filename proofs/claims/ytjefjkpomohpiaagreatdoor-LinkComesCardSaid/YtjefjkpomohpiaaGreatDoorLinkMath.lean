/- Linking, in plain arithmetic: what a linker asks for, and what it becomes. No program is named. -/
import Derived.Test.YtjefjkpomohpiaaGreatDoorSeekFull
import Derived.Test.YtjefjkpomohpiaaGreatDoorMem
namespace Go.Proofs.YtjefjkpomohpiaaGreatDoor.LiM
set_option maxRecDepth 20000
open DM PM CM KM Runs
open Go.RowKit (wrap64)
set_option linter.unusedVariables false
set_option linter.unusedSimpArgs false

/-- A linker: its step (0 done, 1 seeks, 2 stores, 3 swaps), the level at which it stores, its seeker, and what that found. -/
structure St where
  st : Int
  lv : Int
  sk : KM.St
  ps : List Int
  ss : List Int
/-- On to a level. -/
def goOn (tall L : Int) (sk : KM.St) (ps ss : List Int) (lv : Int) : St := ⟨if lv < min tall L then 2 else 3, lv, sk, ps, ss⟩
def begin (L lv : Int) : St := ⟨1, lv, anew L 0 0, [], []⟩
/-- The seeker was told a word. -/
def keep (tall L lv : Int) (sk : KM.St) (ps ss : List Int) : St := if sk.st = 0 then goOn tall L sk sk.ps.reverse sk.ss.reverse 0 else ⟨1, lv, sk, ps, ss⟩
def linkA (T L r : Int) (s : St) : Option D :=
  if s.st = 1 then seekA T L s.sk else if s.st = 2 then some (2, nextI T L (idx r) s.lv, s.ss.getD s.lv.toNat 0, 0, r) else if s.st = 3 then some (3, nextI T L (idx (s.ps.getD 0 0)) 0, s.ss.getD 0 0, r, s.ps.getD 0 0) else none
def linkT (L dl sq tall : Int) (s : St) (f : Int) : St :=
  if s.st = 1 then keep tall L s.lv (seekT L dl sq s.sk f) s.ps s.ss else if s.st = 2 then goOn tall L s.sk s.ps s.ss (s.lv + 1) else
  if s.st = 3 then (if f = s.ss.getD 0 0 then ⟨0, s.lv, s.sk, s.ps, s.ss⟩ else begin L s.lv) else s
section
variable {T L r dl sq tall lv f : Int} {sk : KM.St} {ps ss : List Int}
theorem linkA_0 : linkA T L r ⟨0, lv, sk, ps, ss⟩ = none := by simp [linkA]
theorem linkA_1 : linkA T L r ⟨1, lv, sk, ps, ss⟩ = seekA T L sk := by simp [linkA]
theorem linkA_2 : linkA T L r ⟨2, lv, sk, ps, ss⟩ = some (2, nextI T L (idx r) lv, ss.getD lv.toNat 0, 0, r) := by simp [linkA]
theorem linkA_3 : linkA T L r ⟨3, lv, sk, ps, ss⟩ = some (3, nextI T L (idx (ps.getD 0 0)) 0, ss.getD 0 0, r, ps.getD 0 0) := by simp [linkA]
theorem linkT_0 : linkT L dl sq tall ⟨0, lv, sk, ps, ss⟩ f = ⟨0, lv, sk, ps, ss⟩ := by simp [linkT]
theorem linkT_1 : linkT L dl sq tall ⟨1, lv, sk, ps, ss⟩ f = keep tall L lv (seekT L dl sq sk f) ps ss := by simp [linkT]
theorem linkT_2 : linkT L dl sq tall ⟨2, lv, sk, ps, ss⟩ f = goOn tall L sk ps ss (lv + 1) := by simp [linkT]
theorem linkT_3 (h : f = ss.getD 0 0) : linkT L dl sq tall ⟨3, lv, sk, ps, ss⟩ f = ⟨0, lv, sk, ps, ss⟩ := by simp [linkT, h]
theorem linkT_3n (h : ¬ f = ss.getD 0 0) : linkT L dl sq tall ⟨3, lv, sk, ps, ss⟩ f = begin L lv := by unfold linkT; rw [if_neg (show ¬ (3 : Int) = 1 by decide), if_neg (show ¬ (3 : Int) = 2 by decide), if_pos rfl]; exact if_neg h
theorem goOn_on (h : lv < min tall L) : goOn tall L sk ps ss lv = ⟨2, lv, sk, ps, ss⟩ := by unfold goOn; rw [if_pos h]
theorem goOn_end (h : ¬ lv < min tall L) : goOn tall L sk ps ss lv = ⟨3, lv, sk, ps, ss⟩ := by unfold goOn; rw [if_neg h]
theorem keep_done (h : sk.st = 0) : keep tall L lv sk ps ss = goOn tall L sk sk.ps.reverse sk.ss.reverse 0 := if_pos h
theorem keep_more (h : ¬ sk.st = 0) : keep tall L lv sk ps ss = ⟨1, lv, sk, ps, ss⟩ := if_neg h
end

/-- Such a linker as there can be, told k words at most. -/
structure Ok (L tall : Int) (k : Nat) (s : St) : Prop where
  st : s.st = 0 ∨ s.st = 1 ∨ s.st = 2 ∨ s.st = 3
  lv : 0 ≤ s.lv ∧ s.lv ≤ L
  ok : KM.Ok k s.sk
  full : Full L s.sk
  look : s.st = 1 → ¬ s.sk.st = 0 ∧ s.ps = [] ∧ s.ss = []
  lead : s.st = 2 → s.lv < tall ∧ s.lv < L
  len : ¬ s.st = 1 → (s.ps.length : Int) = L ∧ (s.ss.length : Int) = L
  few : s.ps.length ≤ k
  ps : ∀ x ∈ s.ps, Word x
  ss : ∀ x ∈ s.ss, Word x
section
variable {L tall : Int} {k : Nat}
theorem begin_ok {lv : Int} (h1 : 1 ≤ L) (h2 : L ≤ 9223372036854775807) (hl : 0 ≤ lv ∧ lv ≤ L) : Ok L tall k (begin L lv) := by
  refine ⟨.inr (.inl rfl), hl, (anew_ok (k := 0) h2 (by omega) (by omega)).up (Nat.zero_le _), anew_full (by omega), fun _ => ⟨?_, rfl, rfl⟩, fun h => (by cases h), fun h => absurd rfl h, Nat.zero_le _, fun x h => (by cases h), fun x h => (by cases h)⟩
  show ¬ (anew L 0 0).st = 0
  unfold anew
  rw [desc_on (by omega)]
  simp
theorem goOn_ok {lv : Int} {sk : KM.St} {ps ss : List Int} (hl : 0 ≤ lv ∧ lv ≤ L) (h1 : KM.Ok k sk) (h2 : Full L sk) (h3 : (ps.length : Int) = L) (h4 : (ss.length : Int) = L) (h5 : ps.length ≤ k) (h6 : ∀ x ∈ ps, Word x) (h7 : ∀ x ∈ ss, Word x) : Ok L tall k (goOn tall L sk ps ss lv) := by
  by_cases h : lv < min tall L
  · rw [goOn_on h]
    exact ⟨by simp, hl, h1, h2, fun h => (by cases h), fun _ => (by show lv < tall ∧ lv < L; omega), fun _ => ⟨h3, h4⟩, h5, h6, h7⟩
  · rw [goOn_end h]
    exact ⟨by simp, hl, h1, h2, fun h => (by cases h), fun h => (by cases h), fun _ => ⟨h3, h4⟩, h5, h6, h7⟩
theorem Ok.up {k' : Nat} {s : St} (h : Ok L tall k s) (hk : k ≤ k') : Ok L tall k' s := ⟨h.st, h.lv, h.ok.up hk, h.full, h.look, h.lead, h.len, Nat.le_trans h.few hk, h.ps, h.ss⟩
theorem rev_words {l : List Int} (h : ∀ x ∈ l, Word x) : ∀ x ∈ l.reverse, Word x := fun x hx => h x (List.mem_reverse.1 hx)
theorem linkT_ok {dl sq f : Int} {s : St} (h : Ok L tall k s) (h1 : 1 ≤ L) (h2 : L ≤ 9223372036854775807) (hf : Word f) : Ok L tall (k + 1) (linkT L dl sq tall s f) := by
  obtain ⟨st, lv, sk, ps, ss⟩ := s
  have hu := h.up (Nat.le_succ k)
  obtain ⟨q0, q1, q2, q3, q4, q5, q6, q7, q8, q9⟩ := h
  simp only at q0 q1 q2 q3 q4 q5 q6 q7 q8 q9
  rcases q0 with rfl | rfl | rfl | rfl
  · rw [linkT_0]; exact hu
  · rw [linkT_1]
    have k1 := seekT_ok (dl := dl) (sq := sq) q2 h2 hf
    have k2 := seekT_full (dl := dl) (sq := sq) (f := f) q2 q3 (by omega)
    obtain ⟨-, rfl, rfl⟩ := q4 rfl
    by_cases e : (seekT L dl sq sk f).st = 0
    · rw [keep_done e]
      have k3 := k2.done e
      exact goOn_ok (by omega) k1 k2 (by rw [List.length_reverse]; exact k3) (by rw [List.length_reverse, k1.len]; exact k3) (by rw [List.length_reverse]; exact k1.few) (rev_words k2.ps) (rev_words k2.ss)
    · rw [keep_more e]
      exact ⟨by simp, q1, k1, k2, fun _ => ⟨e, rfl, rfl⟩, fun h => (by cases h), fun h => absurd rfl h, Nat.zero_le _, fun x h => (by cases h), fun x h => (by cases h)⟩
  · rw [linkT_2]
    obtain ⟨a, b⟩ := q5 rfl
    obtain ⟨c, d⟩ := q6 (by decide)
    exact goOn_ok (by omega) hu.ok q3 c d (Nat.le_succ_of_le q7) q8 q9
  · obtain ⟨c, d⟩ := q6 (by decide)
    by_cases e : f = ss.getD 0 0
    · rw [linkT_3 e]
      exact ⟨by simp, q1, hu.ok, q3, fun h => (by cases h), fun h => (by cases h), fun _ => ⟨c, d⟩, Nat.le_succ_of_le q7, q8, q9⟩
    · rw [linkT_3n e]
      exact begin_ok h1 h2 q1
theorem word_getD {l : List Int} (h : ∀ x ∈ l, Word x) (i : Nat) : Word (l.getD i 0) := by
  rw [List.getD_eq_getElem?_getD]
  cases e : l[i]? with
  | none => exact ⟨by decide, by decide⟩
  | some x => exact h x (List.mem_of_getElem? e)
theorem link_fits {T r : Int} {s : St} (h : Ok L tall k s) (hr : Word r) {d : D} (hd : linkA T L r s = some d) : s.st = 1 ∨ DM.Fits d := by
  have q1 := MM.next_fits T L (idx r) s.lv
  have q2 := MM.next_fits T L (idx (s.ps.getD 0 0)) 0
  have q3 := word_getD h.ss s.lv.toNat
  have q4 := word_getD h.ss 0
  have q5 := word_getD h.ps 0
  unfold linkA at hd
  unfold DM.Fits
  unfold Word at hr q3 q4 q5
  split at hd
  · exact .inl ‹_›
  · split at hd
    · cases hd; right; simp only; omega
    · split at hd
      · cases hd; right; simp only; omega
      · cases hd
end
end Go.Proofs.YtjefjkpomohpiaaGreatDoor.LiM
