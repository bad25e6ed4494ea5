/- What is due is taken, in plain arithmetic: what a walker asks for, and what it becomes. No program is named. -/
import Derived.Test.YtjbfhnkjcfpfpaaDoorChainMath
import Derived.Test.YtjbfhnkjcfpfpaaDoorClaimMath
namespace Go.Proofs.YtjbfhnkjcfpfpaaDoor.WaM
set_option maxRecDepth 20000
open DM PM CM KM Runs
open ClM (genI)
open Go.RowKit (wrap64)
set_option linter.unusedVariables false
set_option linter.unusedSimpArgs false

theorem wrap_bounds (z : Int) : -9223372036854775808 ≤ wrap64 z ∧ wrap64 z ≤ 9223372036854775807 := MM.wrap_lo z
/-- A timer that was taken: its handle, its deadline, its number. -/
abbrev Du := Int × Int × Int
def never : Int := 1152921504606846977
def handI (r : Int) : Int := genI r * 4294967296 + idx r
/-- The last one's number is known. -/
def fillS : List Du → Int → List Du
  | [], _ => []
  | [x], f => [(x.1, x.2.1, f)]
  | x :: y :: l, f => x :: fillS (y :: l) f
theorem fillS_snoc : ∀ (l : List Du) (h d z f : Int), fillS (l ++ [(h, d, z)]) f = l ++ [(h, d, f)]
  | [], h, d, z, f => rfl
  | [x], h, d, z, f => rfl
  | x :: y :: l, h, d, z, f => by
    show x :: fillS ((y :: l) ++ [(h, d, z)]) f = x :: ((y :: l) ++ [(h, d, f)])
    rw [fillS_snoc (y :: l)]
theorem fillS_len : ∀ (l : List Du) (f : Int), (fillS l f).length = l.length
  | [], f => rfl
  | [x], f => rfl
  | x :: y :: l, f => by
    show (x :: fillS (y :: l) f).length = _
    rw [List.length_cons, fillS_len (y :: l)]
    rfl
/-- A walker: its step (0 done, else as the chapter counts them), the time, the timer that it is at, that one's deadline, by which deadline it was stopped, what was taken. -/
structure St where
  st : Int
  nw : Int
  cu : Int
  dd : Int
  sp : Int
  out : List Du
def start : St := ⟨1, 0, 0, 0, never, []⟩
/-- Step 3. -/
def arrive (count : Int) (s : St) (w : Int) : St := if count ≤ (s.out.length : Int) ∨ idx w = 0 then ⟨0, s.nw, s.cu, s.dd, s.sp, s.out⟩ else ⟨4, s.nw, plainI w, s.dd, s.sp, s.out⟩
def walkA (T L : Int) (s : St) : Option D :=
  if s.st = 1 then some (1, 1, 0, 0, 0) else if s.st = 2 then some (1, nextI T L 0 0, 0, 0, 0) else if s.st = 4 then some (1, atI T L (idx s.cu) 1, 0, 0, s.cu) else
  if s.st = 5 then some (1, atI T L (idx s.cu) 0, 0, 0, 0) else if s.st = 6 then some (3, atI T L (idx s.cu) 0, SM.stI (genI s.cu) 2, SM.stI (genI s.cu) 3, 0) else
  if s.st = 7 then some (1, atI T L (idx s.cu) 2, 0, 0, s.cu) else if s.st = 8 then some (1, nextI T L (idx s.cu) 0, 0, 0, s.cu) else none
def walkT (count : Int) (s : St) (f : Int) : St :=
  if s.st = 1 then ⟨2, wrap64 f, s.cu, s.dd, s.sp, s.out⟩ else if s.st = 2 then arrive count s f else
  if s.st = 4 then (if s.nw < wrap64 f then ⟨0, s.nw, s.cu, wrap64 f, wrap64 f, s.out⟩ else ⟨5, s.nw, s.cu, wrap64 f, s.sp, s.out⟩) else
  if s.st = 5 then (if f = SM.stI (genI s.cu) 2 then ⟨6, s.nw, s.cu, s.dd, s.sp, s.out⟩ else ⟨8, s.nw, s.cu, s.dd, s.sp, s.out⟩) else
  if s.st = 6 then (if f = SM.stI (genI s.cu) 2 then ⟨7, s.nw, s.cu, s.dd, s.sp, s.out ++ [(handI s.cu, s.dd, 0)]⟩ else ⟨8, s.nw, s.cu, s.dd, s.sp, s.out⟩) else
  if s.st = 7 then ⟨8, s.nw, s.cu, s.dd, s.sp, fillS s.out f⟩ else if s.st = 8 then arrive count s f else s
section
variable {T L count nw cu dd sp f w : Int} {out : List Du}
theorem arrive_done {s : St} (h : count ≤ (s.out.length : Int) ∨ idx w = 0) : arrive count s w = ⟨0, s.nw, s.cu, s.dd, s.sp, s.out⟩ := if_pos h
theorem arrive_more {s : St} (h : ¬ (count ≤ (s.out.length : Int) ∨ idx w = 0)) : arrive count s w = ⟨4, s.nw, plainI w, s.dd, s.sp, s.out⟩ := if_neg h
theorem walkA_0 : walkA T L ⟨0, nw, cu, dd, sp, out⟩ = none := by simp [walkA]
theorem walkA_1 : walkA T L ⟨1, nw, cu, dd, sp, out⟩ = some (1, 1, 0, 0, 0) := by simp [walkA]
theorem walkA_2 : walkA T L ⟨2, nw, cu, dd, sp, out⟩ = some (1, nextI T L 0 0, 0, 0, 0) := by simp [walkA]
theorem walkA_4 : walkA T L ⟨4, nw, cu, dd, sp, out⟩ = some (1, atI T L (idx cu) 1, 0, 0, cu) := by simp [walkA]
theorem walkA_5 : walkA T L ⟨5, nw, cu, dd, sp, out⟩ = some (1, atI T L (idx cu) 0, 0, 0, 0) := by simp [walkA]
theorem walkA_6 : walkA T L ⟨6, nw, cu, dd, sp, out⟩ = some (3, atI T L (idx cu) 0, SM.stI (genI cu) 2, SM.stI (genI cu) 3, 0) := by simp [walkA]
theorem walkA_7 : walkA T L ⟨7, nw, cu, dd, sp, out⟩ = some (1, atI T L (idx cu) 2, 0, 0, cu) := by simp [walkA]
theorem walkA_8 : walkA T L ⟨8, nw, cu, dd, sp, out⟩ = some (1, nextI T L (idx cu) 0, 0, 0, cu) := by simp [walkA]
theorem walkT_0 : walkT count ⟨0, nw, cu, dd, sp, out⟩ f = ⟨0, nw, cu, dd, sp, out⟩ := by simp [walkT]
theorem walkT_1 : walkT count ⟨1, nw, cu, dd, sp, out⟩ f = ⟨2, wrap64 f, cu, dd, sp, out⟩ := by simp [walkT]
theorem walkT_2 : walkT count ⟨2, nw, cu, dd, sp, out⟩ f = arrive count ⟨2, nw, cu, dd, sp, out⟩ f := by simp [walkT]
theorem walkT_4s (h : nw < wrap64 f) : walkT count ⟨4, nw, cu, dd, sp, out⟩ f = ⟨0, nw, cu, wrap64 f, wrap64 f, out⟩ := by simp [walkT, h]
theorem walkT_4 (h : ¬ nw < wrap64 f) : walkT count ⟨4, nw, cu, dd, sp, out⟩ f = ⟨5, nw, cu, wrap64 f, sp, out⟩ := by simp only [walkT, h]; simp
theorem walkT_5 (h : f = SM.stI (genI cu) 2) : walkT count ⟨5, nw, cu, dd, sp, out⟩ f = ⟨6, nw, cu, dd, sp, out⟩ := by simp [walkT, h]
theorem walkT_5n (h : ¬ f = SM.stI (genI cu) 2) : walkT count ⟨5, nw, cu, dd, sp, out⟩ f = ⟨8, nw, cu, dd, sp, out⟩ := by simp only [walkT, h]; simp
theorem walkT_6 (h : f = SM.stI (genI cu) 2) : walkT count ⟨6, nw, cu, dd, sp, out⟩ f = ⟨7, nw, cu, dd, sp, out ++ [(handI cu, dd, 0)]⟩ := by simp [walkT, h]
theorem walkT_6n (h : ¬ f = SM.stI (genI cu) 2) : walkT count ⟨6, nw, cu, dd, sp, out⟩ f = ⟨8, nw, cu, dd, sp, out⟩ := by simp only [walkT, h]; simp
theorem walkT_7 : walkT count ⟨7, nw, cu, dd, sp, out⟩ f = ⟨8, nw, cu, dd, sp, fillS out f⟩ := by simp [walkT]
theorem walkT_8 : walkT count ⟨8, nw, cu, dd, sp, out⟩ f = arrive count ⟨8, nw, cu, dd, sp, out⟩ f := by simp [walkT]
end
/-- A timer such as can have been taken. -/
def DuOk (x : Du) : Prop := (0 ≤ x.1 ∧ x.1 < 18446744073709551616) ∧ (-9223372036854775808 ≤ x.2.1 ∧ x.2.1 ≤ 9223372036854775807) ∧ 0 ≤ x.2.2 ∧ x.2.2 < 18446744073709551616
/-- Such a walker as there can be, told k words at most. -/
structure Ok (k : Nat) (s : St) : Prop where
  st : s.st = 0 ∨ s.st = 1 ∨ s.st = 2 ∨ s.st = 4 ∨ s.st = 5 ∨ s.st = 6 ∨ s.st = 7 ∨ s.st = 8
  nw : -9223372036854775808 ≤ s.nw ∧ s.nw ≤ 9223372036854775807
  cu : (0 ≤ s.cu ∧ s.cu < 18446744073709551616) ∧ s.cu % 2 = 0
  dd : -9223372036854775808 ≤ s.dd ∧ s.dd ≤ 9223372036854775807
  sp : -9223372036854775808 ≤ s.sp ∧ s.sp ≤ 9223372036854775807
  out : ∀ x ∈ s.out, DuOk x
  len : s.out.length ≤ k
  some : s.st = 7 → s.out ≠ []
theorem start_ok : Ok 0 start := ⟨.inr (.inl rfl), ⟨by decide, by decide⟩, ⟨⟨by decide, by decide⟩, rfl⟩, ⟨by decide, by decide⟩, ⟨by decide, by decide⟩, fun x h => (by cases h), Nat.le_refl _, fun h => (by cases h)⟩
theorem Ok.up {k k' : Nat} {s : St} (h : Ok k s) (hk : k ≤ k') : Ok k' s := ⟨h.st, h.nw, h.cu, h.dd, h.sp, h.out, Nat.le_trans h.len hk, h.some⟩
theorem plain_word {w : Int} (h : 0 ≤ w ∧ w < 18446744073709551616) : (0 ≤ plainI w ∧ plainI w < 18446744073709551616) ∧ plainI w % 2 = 0 := by unfold plainI; omega
theorem arrive_ok {k : Nat} {s : St} (h : Ok k s) {count w : Int} (hw : 0 ≤ w ∧ w < 18446744073709551616) : Ok k (arrive count s w) := by
  by_cases e : count ≤ (s.out.length : Int) ∨ idx w = 0
  · rw [arrive_done e]; exact ⟨.inl rfl, h.nw, h.cu, h.dd, h.sp, h.out, h.len, fun h => by cases h⟩
  · rw [arrive_more e]; exact ⟨by simp, h.nw, plain_word hw, h.dd, h.sp, h.out, h.len, fun h => by cases h⟩
theorem fillS_ok : ∀ (l : List Du) (f : Int), (∀ x ∈ l, DuOk x) → (0 ≤ f ∧ f < 18446744073709551616) → ∀ x ∈ fillS l f, DuOk x
  | [], f, h, hf, x, hx => by cases hx
  | [y], f, h, hf, x, hx => by
    have hx : x ∈ [(y.1, y.2.1, f)] := hx
    rw [List.mem_singleton] at hx
    subst hx
    have := h y (by simp)
    exact ⟨this.1, this.2.1, hf⟩
  | y :: z :: l, f, h, hf, x, hx => by
    have hx : x ∈ y :: fillS (z :: l) f := hx
    rcases List.mem_cons.1 hx with rfl | hx
    · exact h x (by simp)
    · exact fillS_ok (z :: l) f (fun u hu => h u (List.mem_cons_of_mem _ hu)) hf x hx
theorem hand_ok {r : Int} (hr : 0 ≤ r ∧ r < 18446744073709551616) : 0 ≤ handI r ∧ handI r < 18446744073709551616 := by unfold handI genI idx; omega
theorem walkT_ok {k : Nat} {s : St} (h : Ok k s) {count f : Int} (hf : 0 ≤ f ∧ f < 18446744073709551616) : Ok (k + 1) (walkT count s f) := by
  obtain ⟨st, nw, cu, dd, sp, out⟩ := s
  have hu := h.up (Nat.le_succ k)
  obtain ⟨q0, q1, q2, q3, q4, q5, q6, q7⟩ := h
  have qw := wrap_bounds f
  simp only at q0 q1 q2 q3 q4 q5 q6 q7
  rcases q0 with rfl | rfl | rfl | rfl | rfl | rfl | rfl | rfl
  · rw [walkT_0]; exact hu
  · rw [walkT_1]; exact ⟨by simp, qw, q2, q3, q4, q5, by simp only; omega, fun h => by cases h⟩
  · rw [walkT_2]; exact arrive_ok hu hf
  · by_cases e : nw < wrap64 f
    · rw [walkT_4s e]; exact ⟨by simp, q1, q2, qw, qw, q5, by simp only; omega, fun h => by cases h⟩
    · rw [walkT_4 e]; exact ⟨by simp, q1, q2, qw, q4, q5, by simp only; omega, fun h => by cases h⟩
  · by_cases e : f = SM.stI (genI cu) 2
    · rw [walkT_5 e]; exact ⟨by simp, q1, q2, q3, q4, q5, by simp only; omega, fun h => by cases h⟩
    · rw [walkT_5n e]; exact ⟨by simp, q1, q2, q3, q4, q5, by simp only; omega, fun h => by cases h⟩
  · by_cases e : f = SM.stI (genI cu) 2
    · rw [walkT_6 e]
      refine ⟨by simp, q1, q2, q3, q4, fun x hx => ?_, by simp only [List.length_append, List.length_singleton]; omega, fun _ => by simp⟩
      rcases List.mem_append.1 hx with hx | hx
      · exact q5 x hx
      · rw [List.mem_singleton] at hx
        subst hx
        exact ⟨hand_ok q2.1, q3, Int.le_refl _, by simp only; omega⟩
    · rw [walkT_6n e]; exact ⟨by simp, q1, q2, q3, q4, q5, by simp only; omega, fun h => by cases h⟩
  · rw [walkT_7]; exact ⟨by simp, q1, q2, q3, q4, fillS_ok out f q5 hf, by simp only [fillS_len]; omega, fun h => by cases h⟩
  · rw [walkT_8]; exact arrive_ok hu hf
theorem walkA_none {T L : Int} {k : Nat} {s : St} (h : Ok k s) : walkA T L s = none ↔ s.st = 0 := by
  obtain ⟨st, nw, cu, dd, sp, out⟩ := s
  have h0 := h.st
  simp only at h0
  rcases h0 with rfl | rfl | rfl | rfl | rfl | rfl | rfl | rfl
  · simp [walkA_0]
  · simp [walkA_1]
  · simp [walkA_2]
  · simp [walkA_4]
  · simp [walkA_5]
  · simp [walkA_6]
  · simp [walkA_7]
  · simp [walkA_8]
theorem walkA_fits {T L : Int} {k : Nat} {s : St} (h : Ok k s) {d : D} (hd : walkA T L s = some d) : DM.Fits d := by
  have h1 := SM.stI_lo (genI s.cu) 2
  have h2 := SM.stI_hi (genI s.cu) 2
  have h3 := SM.stI_lo (genI s.cu) 3
  have h4 := SM.stI_hi (genI s.cu) 3
  have h5 := MM.at_fits T L (idx s.cu) 0
  have h6 := MM.at_fits T L (idx s.cu) 1
  have h7 := MM.at_fits T L (idx s.cu) 2
  have h8 := MM.next_fits T L (idx s.cu) 0
  have h9 := MM.next_fits T L 0 0
  have hc := h.cu
  unfold walkA at hd
  unfold DM.Fits
  repeat' (split at hd; · cases hd; simp only; omega)
  cases hd
end Go.Proofs.YtjbfhnkjcfpfpaaDoor.WaM
