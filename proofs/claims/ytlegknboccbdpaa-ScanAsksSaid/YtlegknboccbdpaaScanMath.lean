/- Is there something earlier, in plain arithmetic: what a scanner asks for, and what it becomes. No program is named. -/
import Derived.Test.YtlegknboccbdpaaChainMath
import Derived.Test.YtlegknboccbdpaaClaimMath
namespace Go.Proofs.Ytlegknboccbdpaa.ScM
set_option maxRecDepth 20000
open DM PM CM KM Runs
open ClM (genI)
open Go.RowKit (wrap64)
set_option linter.unusedVariables false
set_option linter.unusedSimpArgs false

/-- A scanner: its step (0 done, else as the chapter counts them), the timer that it is at, whether something was seen. -/
structure St where
  st : Int
  cu : Int
  sn : Bool
def start : St := ⟨1, 0, false⟩
/-- Step 2. -/
def arrive (s : St) (w : Int) : St := if idx w = 0 then ⟨0, s.cu, s.sn⟩ else ⟨3, plainI w, s.sn⟩
def scanA (T L : Int) (s : St) : Option D :=
  if s.st = 1 then some (1, nextI T L 0 0, 0, 0, 0) else if s.st = 3 then some (1, atI T L (idx s.cu) 1, 0, 0, s.cu) else
  if s.st = 4 then some (1, atI T L (idx s.cu) 0, 0, 0, 0) else if s.st = 5 then some (1, nextI T L (idx s.cu) 0, 0, 0, s.cu) else none
def scanT (limit : Int) (s : St) (f : Int) : St :=
  if s.st = 1 then arrive s f else if s.st = 3 then (if limit ≤ wrap64 f then ⟨0, s.cu, s.sn⟩ else ⟨4, s.cu, s.sn⟩) else
  if s.st = 4 then (if f = SM.stI (genI s.cu) 2 then ⟨0, s.cu, true⟩ else ⟨5, s.cu, s.sn⟩) else if s.st = 5 then arrive s f else s
section
variable {T L limit cu f w : Int} {sn : Bool}
theorem arrive_done {s : St} (h : idx w = 0) : arrive s w = ⟨0, s.cu, s.sn⟩ := if_pos h
theorem arrive_more {s : St} (h : ¬ idx w = 0) : arrive s w = ⟨3, plainI w, s.sn⟩ := if_neg h
theorem scanA_0 : scanA T L ⟨0, cu, sn⟩ = none := by simp [scanA]
theorem scanA_1 : scanA T L ⟨1, cu, sn⟩ = some (1, nextI T L 0 0, 0, 0, 0) := by simp [scanA]
theorem scanA_3 : scanA T L ⟨3, cu, sn⟩ = some (1, atI T L (idx cu) 1, 0, 0, cu) := by simp [scanA]
theorem scanA_4 : scanA T L ⟨4, cu, sn⟩ = some (1, atI T L (idx cu) 0, 0, 0, 0) := by simp [scanA]
theorem scanA_5 : scanA T L ⟨5, cu, sn⟩ = some (1, nextI T L (idx cu) 0, 0, 0, cu) := by simp [scanA]
theorem scanT_0 : scanT limit ⟨0, cu, sn⟩ f = ⟨0, cu, sn⟩ := by simp [scanT]
theorem scanT_1 : scanT limit ⟨1, cu, sn⟩ f = arrive ⟨1, cu, sn⟩ f := by simp [scanT]
theorem scanT_3s (h : limit ≤ wrap64 f) : scanT limit ⟨3, cu, sn⟩ f = ⟨0, cu, sn⟩ := by simp [scanT, h]
theorem scanT_3 (h : ¬ limit ≤ wrap64 f) : scanT limit ⟨3, cu, sn⟩ f = ⟨4, cu, sn⟩ := by simp only [scanT, h]; simp
theorem scanT_4s (h : f = SM.stI (genI cu) 2) : scanT limit ⟨4, cu, sn⟩ f = ⟨0, cu, true⟩ := by simp [scanT, h]
theorem scanT_4 (h : ¬ f = SM.stI (genI cu) 2) : scanT limit ⟨4, cu, sn⟩ f = ⟨5, cu, sn⟩ := by simp only [scanT, h]; simp
theorem scanT_5 : scanT limit ⟨5, cu, sn⟩ f = arrive ⟨5, cu, sn⟩ f := by simp [scanT]
end
/-- Such a scanner as there can be. -/
structure Ok (s : St) : Prop where
  st : s.st = 0 ∨ s.st = 1 ∨ s.st = 3 ∨ s.st = 4 ∨ s.st = 5
  cu : (0 ≤ s.cu ∧ s.cu < 18446744073709551616) ∧ s.cu % 2 = 0
  sn : ¬ s.st = 0 → s.sn = false
theorem start_ok : Ok start := ⟨.inr (.inl rfl), ⟨⟨by decide, by decide⟩, rfl⟩, fun _ => rfl⟩
theorem plain_word {w : Int} (h : 0 ≤ w ∧ w < 18446744073709551616) : (0 ≤ plainI w ∧ plainI w < 18446744073709551616) ∧ plainI w % 2 = 0 := by unfold plainI; omega
theorem arrive_ok {s : St} (h : Ok s) (h0 : ¬ s.st = 0) {w : Int} (hw : 0 ≤ w ∧ w < 18446744073709551616) : Ok (arrive s w) := by
  by_cases e : idx w = 0
  · rw [arrive_done e]; exact ⟨.inl rfl, h.cu, fun z => absurd rfl z⟩
  · rw [arrive_more e]; exact ⟨by simp, plain_word hw, fun _ => h.sn h0⟩
theorem scanT_ok {s : St} (h : Ok s) {limit f : Int} (hf : 0 ≤ f ∧ f < 18446744073709551616) : Ok (scanT limit s f) := by
  obtain ⟨st, cu, sn⟩ := s
  have hu := h
  obtain ⟨q0, q1, q2⟩ := h
  simp only at q0 q1 q2
  rcases q0 with rfl | rfl | rfl | rfl | rfl
  · rw [scanT_0]; exact hu
  · rw [scanT_1]; exact arrive_ok hu (by simp) hf
  · by_cases e : limit ≤ wrap64 f
    · rw [scanT_3s e]; exact ⟨.inl rfl, q1, fun z => absurd rfl z⟩
    · rw [scanT_3 e]; exact ⟨by simp, q1, fun _ => q2 (by simp)⟩
  · by_cases e : f = SM.stI (genI cu) 2
    · rw [scanT_4s e]; exact ⟨.inl rfl, q1, fun z => absurd rfl z⟩
    · rw [scanT_4 e]; exact ⟨by simp, q1, fun _ => q2 (by simp)⟩
  · rw [scanT_5]; exact arrive_ok hu (by simp) hf
theorem scanA_none {T L : Int} {s : St} (h : Ok s) : scanA T L s = none ↔ s.st = 0 := by
  obtain ⟨st, cu, sn⟩ := s
  have h0 := h.st
  simp only at h0
  rcases h0 with rfl | rfl | rfl | rfl | rfl
  · simp [scanA_0]
  · simp [scanA_1]
  · simp [scanA_3]
  · simp [scanA_4]
  · simp [scanA_5]
theorem scanA_fits {T L : Int} {s : St} (h : Ok s) {d : D} (hd : scanA T L s = some d) : DM.Fits d := by
  have h5 := MM.at_fits T L (idx s.cu) 0
  have h6 := MM.at_fits T L (idx s.cu) 1
  have h8 := MM.next_fits T L (idx s.cu) 0
  have h9 := MM.next_fits T L 0 0
  have hc := h.cu
  unfold scanA at hd
  unfold DM.Fits
  repeat' (split at hd; · cases hd; simp only; omega)
  cases hd
end Go.Proofs.Ytlegknboccbdpaa.ScM
