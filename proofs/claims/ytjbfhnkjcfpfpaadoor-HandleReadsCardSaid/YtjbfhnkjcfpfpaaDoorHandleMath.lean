/- Timers' handles in plain arithmetic: texts of two numbers with a full stop between, how they are read; references of handles. No program is named. -/
import Derived.Test.YtjbfhnkjcfpfpaaDoorStateMath
import Derived.Lib.ItoaLen
namespace Go.Proofs.YtjbfhnkjcfpfpaaDoor.HaM
set_option maxRecDepth 20000
open SM
open Go.Lib (decDigits)
set_option linter.unusedVariables false
set_option linter.unusedSimpArgs false

def isD (b : UInt8) : Bool := decide (48 ≤ b.toNat ∧ b.toNat ≤ 57)
theorem digit_byte {d : Nat} (h : d < 10) : (UInt8.ofNat (48 + d)).toNat = 48 + d := by simp [UInt8.toNat_ofNat']; omega
theorem isD_digit {d : Nat} (h : d < 10) : isD (UInt8.ofNat (48 + d)) = true := by
  unfold isD
  rw [digit_byte h]
  exact decide_eq_true (by omega)
theorem byte_digit {b : UInt8} (h : isD b = true) : b = UInt8.ofNat (48 + (b.toNat - 48)) ∧ b.toNat - 48 < 10 := by
  have h1 := of_decide_eq_true h
  refine ⟨?_, by omega⟩
  rw [show 48 + (b.toNat - 48) = b.toNat by omega]
  simp
theorem dec_small {n : Nat} (h : n < 10) : decDigits n = [UInt8.ofNat (48 + n)] := by rw [decDigits, dif_pos h]
theorem dec_big {n : Nat} (h : ¬ n < 10) : decDigits n = decDigits (n / 10) ++ [UInt8.ofNat (48 + n % 10)] := by rw [decDigits, dif_neg h]
theorem dec_pos (n : Nat) : 1 ≤ (decDigits n).length := by
  by_cases h : n < 10
  · rw [dec_small h]; simp
  · rw [dec_big h]; simp
/-- A digit more. -/
theorem dec_more {n d : Nat} (hn : 1 ≤ n) (hd : d < 10) : decDigits (10 * n + d) = decDigits n ++ [UInt8.ofNat (48 + d)] := by
  rw [dec_big (by omega), show (10 * n + d) / 10 = n by omega, show (10 * n + d) % 10 = d by omega]

/-- The document's reading of a number below 2^32: z: does it begin with a nought; k digits were read, which make n. -/
def go (z : Bool) : Nat → Nat → List UInt8 → Option (Nat × Nat)
  | k, n, [] => if k = 0 then none else some (n, k)
  | k, n, b :: t => if isD b = true then (if 4294967295 < 10 * n + (b.toNat - 48) ∨ (1 ≤ k ∧ z = true) then none else go z (k + 1) (10 * n + (b.toNat - 48)) t) else (if k = 0 then none else some (n, k))
def headZ : List UInt8 → Bool
  | [] => false
  | b :: _ => decide (b.toNat = 48)
def half (s : List UInt8) : Option (Nat × Nat) := go (headZ s) 0 0 s
/-- No digit comes next. -/
def Ends (t : List UInt8) : Prop := ∀ b t', t = b :: t' → isD b = false
theorem go_more {z : Bool} {k n : Nat} {b : UInt8} {t : List UInt8} (hb : isD b = true) (h : ¬ (4294967295 < 10 * n + (b.toNat - 48) ∨ (1 ≤ k ∧ z = true))) : go z k n (b :: t) = go z (k + 1) (10 * n + (b.toNat - 48)) t := by
  rw [go, if_pos hb, if_neg h]
theorem go_bad {z : Bool} {k n : Nat} {b : UInt8} {t : List UInt8} (hb : isD b = true) (h : 4294967295 < 10 * n + (b.toNat - 48) ∨ (1 ≤ k ∧ z = true)) : go z k n (b :: t) = none := by
  rw [go, if_pos hb, if_pos h]
theorem go_end {z : Bool} {k n : Nat} {t : List UInt8} (ht : Ends t) (hk : k ≠ 0) : go z k n t = some (n, k) := by
  cases t with
  | nil => rw [go, if_neg hk]
  | cons b t => rw [go, if_neg (by rw [ht b t rfl]; simp), if_neg hk]
theorem go_none {z : Bool} {n : Nat} {t : List UInt8} (ht : Ends t) : go z 0 n t = none := by
  cases t with
  | nil => rw [go, if_pos rfl]
  | cons b t => rw [go, if_neg (by rw [ht b t rfl]; simp), if_pos rfl]
theorem go_dec {z : Bool} : ∀ (n : Nat) (t : List UInt8), n ≤ 4294967295 → (z = true → n < 10) → go z 0 0 (decDigits n ++ t) = go z (decDigits n).length n t := by
  intro n
  induction n using Nat.strongRecOn with
  | _ n ih =>
    intro t hn hz
    by_cases h : n < 10
    · rw [dec_small h]
      simp only [List.cons_append, List.nil_append, List.length_cons, List.length_nil, Nat.zero_add]
      rw [go_more (isD_digit h) (by rw [digit_byte h]; omega), digit_byte h]
      rw [show 10 * 0 + (48 + n - 48) = n by omega]
    · rw [dec_big h, List.append_assoc, ih (n / 10) (by omega) _ (by omega) (fun e => absurd (hz e) h)]
      simp only [List.cons_append, List.nil_append, List.length_append, List.length_cons, List.length_nil, Nat.zero_add]
      have hd : n % 10 < 10 := by omega
      rw [go_more (isD_digit hd) (by rw [digit_byte hd]; intro e; rcases e with e | ⟨-, e⟩; omega; exact h (hz e)), digit_byte hd]
      rw [show 10 * (n / 10) + (48 + n % 10 - 48) = n by omega]
theorem head_dec : ∀ (n : Nat) (t : List UInt8), headZ (decDigits n ++ t) = decide (n = 0) := by
  intro n
  induction n using Nat.strongRecOn with
  | _ n ih =>
    intro t
    by_cases h : n < 10
    · rw [dec_small h]
      simp only [List.cons_append, List.nil_append, headZ]
      rw [digit_byte h]
      by_cases e : n = 0
      · simp [e]
      · rw [decide_eq_false e]; exact decide_eq_false (by omega)
    · rw [dec_big h, List.append_assoc, ih (n / 10) (by omega)]
      rw [decide_eq_false (show ¬ n / 10 = 0 by omega), decide_eq_false (show ¬ n = 0 by omega)]
theorem half_dec {n : Nat} {t : List UInt8} (hn : n ≤ 4294967295) (ht : Ends t) : half (decDigits n ++ t) = some (n, (decDigits n).length) := by
  unfold half
  rw [head_dec, go_dec n t hn (fun e => by have := of_decide_eq_true e; omega), go_end ht (by have := dec_pos n; omega)]
/-- What is read is a number's digits, and no digit comes next. -/
theorem go_is {z : Bool} {s : List UInt8} (hz : z = headZ s) : ∀ (t : List UInt8) (k n : Nat) (p : List UInt8), s = p ++ t → k = p.length → (k = 0 → n = 0) → (1 ≤ k → decDigits n = p ∧ n ≤ 4294967295 ∧ (z = false → 1 ≤ n)) → ∀ (m j : Nat), go z k n t = some (m, j) →
    ∃ r, s = decDigits m ++ r ∧ j = (decDigits m).length ∧ m ≤ 4294967295 ∧ Ends r := by
  intro t
  induction t with
  | nil =>
    intro k n p hs hk h0 h1 m j hg
    rw [go] at hg
    split at hg
    · cases hg
    · rename_i hk0
      cases hg
      obtain ⟨q1, q2, -⟩ := h1 (by omega)
      exact ⟨[], by rw [q1]; exact hs, by rw [q1]; exact hk, q2, fun b t' e => by cases e⟩
  | cons b t ih =>
    intro k n p hs hk h0 h1 m j hg
    by_cases hb : isD b = true
    · obtain ⟨e1, e2⟩ := byte_digit hb
      by_cases hbad : 4294967295 < 10 * n + (b.toNat - 48) ∨ (1 ≤ k ∧ z = true)
      · rw [go_bad hb hbad] at hg; cases hg
      · rw [go_more hb hbad] at hg
        refine ih (k + 1) _ (p ++ [b]) (by rw [hs]; simp) (by simp [hk]) (fun e => by omega) (fun _ => ?_) m j hg
        by_cases hk0 : k = 0
        · have hn := h0 hk0
          subst hk0
          subst hn
          have hp : p = [] := List.eq_nil_of_length_eq_zero hk.symm
          subst hp
          rw [show 10 * 0 + (b.toNat - 48) = b.toNat - 48 by omega]
          refine ⟨by rw [dec_small e2, ← e1]; rfl, by omega, fun e => ?_⟩
          rw [hz, hs] at e
          have e3 : ¬ b.toNat = 48 := of_decide_eq_false e
          have e4 := of_decide_eq_true hb
          omega
        · obtain ⟨q1, q2, q3⟩ := h1 (by omega)
          have hzf : z = false := by
            cases z with
            | false => rfl
            | true => exact absurd (.inr ⟨by omega, rfl⟩) hbad
          have hn := q3 hzf
          refine ⟨by rw [dec_more hn e2, q1, ← e1], by omega, fun _ => by omega⟩
    · rw [go, if_neg hb] at hg
      split at hg
      · cases hg
      · rename_i hk0
        cases hg
        obtain ⟨q1, q2, -⟩ := h1 (by omega)
        exact ⟨b :: t, by rw [q1]; exact hs, by rw [q1]; exact hk, q2, fun b' t' e => by cases e; simpa using hb⟩
theorem half_is {s : List UInt8} {n k : Nat} (h : half s = some (n, k)) : ∃ r, s = decDigits n ++ r ∧ k = (decDigits n).length ∧ n ≤ 4294967295 ∧ Ends r :=
  go_is rfl s 0 0 [] rfl rfl (fun _ => rfl) (fun e => absurd e (by omega)) n k h

/-- A text's two numbers. -/
def parts (s : List UInt8) : Option (Nat × Nat) :=
  match half s with
  | none => none
  | some (g, i) =>
    if s[i]? = some 46 then
      match half (s.drop (i + 1)) with
      | none => none
      | some (n, k) => if i + 1 + k = s.length then some (g, n) else none
    else none
theorem stop_ends (t : List UInt8) : Ends (46 :: t) := fun b t' e => by cases e; rfl
theorem nil_ends : Ends [] := fun b t' e => by cases e
theorem parts_text {g n : Nat} (hg : g ≤ 4294967295) (hn : n ≤ 4294967295) : parts (decDigits g ++ 46 :: decDigits n) = some (g, n) := by
  unfold parts
  have h1 := half_dec (n := n) (t := []) hn nil_ends
  rw [List.append_nil] at h1
  rw [half_dec hg (stop_ends _)]
  simp only
  rw [if_pos (by simp)]
  have h2 : (decDigits g ++ 46 :: decDigits n).drop ((decDigits g).length + 1) = decDigits n := by
    rw [List.drop_append]
    simp
  rw [h2, h1]
  simp only
  rw [if_pos (by simp; omega)]
theorem parts_is {s : List UInt8} {g n : Nat} (h : parts s = some (g, n)) : g ≤ 4294967295 ∧ n ≤ 4294967295 ∧ s = decDigits g ++ 46 :: decDigits n := by
  unfold parts at h
  cases h1 : half s with
  | none => rw [h1] at h; cases h
  | some x =>
    obtain ⟨g', i⟩ := x
    rw [h1] at h
    simp only at h
    split at h
    · rename_i hdot
      cases h2 : half (s.drop (i + 1)) with
      | none => rw [h2] at h; cases h
      | some y =>
        obtain ⟨n', k⟩ := y
        rw [h2] at h
        simp only at h
        split at h
        · rename_i hlen
          cases h
          obtain ⟨r, q1, q2, q3, -⟩ := half_is h1
          obtain ⟨r2, p1, p2, p3, -⟩ := half_is h2
          refine ⟨q3, p3, ?_⟩
          subst q2
          subst p2
          rw [q1] at hdot p1 hlen
          rw [List.getElem?_append_right (Nat.le_refl _), Nat.sub_self] at hdot
          cases r with
          | nil => simp at hdot
          | cons b r =>
            simp only [List.getElem?_cons_zero, Option.some.injEq] at hdot
            subst hdot
            have h3 : (decDigits g ++ 46 :: r).drop ((decDigits g).length + 1) = r := by
              rw [List.drop_append]
              simp
            rw [h3] at p1
            rw [p1] at hlen
            have h4 : r2 = [] := List.eq_nil_of_length_eq_zero (by simp at hlen; omega)
            rw [q1, p1, h4, List.append_nil]
        · cases h
    · cases h

/-- A handle's text; what a text is the handle of. -/
def textH (h : Int) : List UInt8 := decI (h / 4294967296) ++ 46 :: decI (h % 4294967296)
def parseH (s : List UInt8) : Option Int := (parts s).map fun x => (x.1 : Int) * 4294967296 + (x.2 : Int)
theorem parse_text {h : Int} (h0 : 0 ≤ h) (h1 : h < 18446744073709551616) : parseH (textH h) = some h := by
  unfold parseH textH decI
  rw [parts_text (by omega) (by omega)]
  simp only [Option.map_some, Option.some.injEq]
  omega
theorem parse_is {s : List UInt8} {h : Int} (hp : parseH s = some h) : (0 ≤ h ∧ h < 18446744073709551616) ∧ s = textH h := by
  unfold parseH at hp
  cases h1 : parts s with
  | none => rw [h1] at hp; cases hp
  | some x =>
    obtain ⟨g, n⟩ := x
    rw [h1] at hp
    simp only [Option.map_some, Option.some.injEq] at hp
    obtain ⟨q1, q2, q3⟩ := parts_is h1
    subst hp
    refine ⟨by omega, ?_⟩
    unfold textH decI
    rw [show (((g : Int) * 4294967296 + (n : Int)) / 4294967296).toNat = g by omega, show (((g : Int) * 4294967296 + (n : Int)) % 4294967296).toNat = n by omega]
    exact q3
theorem text_len {h : Int} (h0 : 0 ≤ h) (h1 : h < 18446744073709551616) : (textH h).length ≤ 41 := by
  have h2 := Go.Lib.nDigits_le20 (h / 4294967296).toNat (by omega)
  have h3 := Go.Lib.nDigits_le20 (h % 4294967296).toNat (by omega)
  unfold textH decI
  rw [List.length_append, List.length_cons, Go.Lib.decDigits_length, Go.Lib.decDigits_length]
  omega
end Go.Proofs.YtjbfhnkjcfpfpaaDoor.HaM
