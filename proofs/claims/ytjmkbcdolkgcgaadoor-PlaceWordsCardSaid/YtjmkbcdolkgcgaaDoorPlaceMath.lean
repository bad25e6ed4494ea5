/- What a plan's words are for, in plain lists: the spots in the order of their places; the same as the program tells them, each with its place; that both say the same. No program is named. -/
import Derived.Test.YtjmkbcdolkgcgaaDoorPlanList
namespace Go.Proofs.YtjmkbcdolkgcgaaDoor.PM
open Go.RowKit

/-- A spot: its kind, of which thread or slot, of which level. -/
abbrev Sp := Int × Int × Int

/-! All spots, in the order of their places (chapter 9). -/
def oneL : List Sp := [(1, 0, 0), (2, 0, 0), (3, 0, 0), (4, 0, 0)]
def thL (k : Int) (t : Nat) : List Sp := (List.range t).map fun i : Nat => (k, (i : Int), 0)
def lvL (k o : Int) (h : Nat) : List Sp := (List.range h).map fun i : Nat => (k, o, (i : Int))
def sixL (i : Int) : List Sp := [(9, i, 0), (10, i, 0), (11, i, 0), (12, i, 0), (13, i, 0), (14, i, 0)]
def slL (L i : Nat) : List Sp := sixL ((i + 1 : Nat) : Int) ++ lvL 15 ((i + 1 : Nat) : Int) L
def frL (T L : Nat) : List Sp := oneL ++ thL 5 T ++ thL 6 T ++ thL 7 T ++ lvL 8 0 L
def toL (T L s : Nat) : List Sp := frL T L ++ (List.range s).flatMap (slL L)
def spL (T S L : Nat) : List Sp := toL T L S

theorem th_length (k : Int) (t : Nat) : (thL k t).length = t := by simp [thL]
theorem lv_length (k o : Int) (h : Nat) : (lvL k o h).length = h := by simp [lvL]
theorem th_succ (k : Int) (t : Nat) : thL k (t + 1) = thL k t ++ [(k, (t : Int), 0)] := by simp [thL, List.range_succ]
theorem lv_succ (k o : Int) (h : Nat) : lvL k o (h + 1) = lvL k o h ++ [(k, o, (h : Int))] := by simp [lvL, List.range_succ]
theorem th_zero (k : Int) : thL k 0 = [] := by simp [thL]
theorem lv_zero (k o : Int) : lvL k o 0 = [] := by simp [lvL]
theorem to_zero (T L : Nat) : toL T L 0 = frL T L := by simp [toL]
theorem to_succ (T L s : Nat) : toL T L (s + 1) = toL T L s ++ slL L s := by simp [toL, List.range_succ, List.flatMap_append]
theorem sl_length (L i : Nat) : (slL L i).length = 6 + L := by simp [slL, sixL, lv_length]; omega
theorem fr_length (T L : Nat) : (frL T L).length = 4 + 3 * T + L := by simp [frL, oneL, th_length, lv_length]; omega
theorem to_length (T L : Nat) : ∀ s, (toL T L s).length = 4 + 3 * T + L + s * (6 + L)
  | 0 => by rw [to_zero, fr_length]; omega
  | s + 1 => by rw [to_succ, List.length_append, to_length T L s, sl_length, Nat.add_mul]; omega
theorem sp_length (T S L : Nat) : (spL T S L).length = wordsN T S L := to_length T L S

theorem get_left {α : Type} {a b : List α} {i : Nat} {x : α} (h : a[i]? = some x) : (a ++ b)[i]? = some x := by
  rw [List.getElem?_append_left (List.getElem?_eq_some_iff.1 h).1]; exact h
theorem get_right {α : Type} {a b : List α} {i n : Nat} {x : α} (hn : a.length = n) (h : b[i]? = some x) : (a ++ b)[n + i]? = some x := by
  subst hn; rw [List.getElem?_append_right (by omega)]; simpa using h
theorem th_get {k : Int} {t i : Nat} (h : i < t) : (thL k t)[i]? = some (k, (i : Int), 0) := by simp [thL, h]
theorem lv_get {k o : Int} {t i : Nat} (h : i < t) : (lvL k o t)[i]? = some (k, o, (i : Int)) := by simp [lvL, h]

theorem to_get {T L s i : Nat} {x : Sp} (h : (toL T L s)[i]? = some x) : ∀ n, s ≤ n → (toL T L n)[i]? = some x := by
  intro n hn
  induction n with
  | zero => obtain rfl : s = 0 := by omega
            exact h
  | succ n ih =>
    by_cases e : s = n + 1
    · subst e; exact h
    · rw [to_succ]; exact get_left (ih (by omega))
theorem sp_front {T S L i : Nat} {x : Sp} (h : (frL T L)[i]? = some x) : (spL T S L)[i]? = some x := to_get (s := 0) (by rw [to_zero]; exact h) S (Nat.zero_le _)
theorem sp_slot {T S L s j : Nat} {x : Sp} (hs : s < S) (h : (slL L s)[j]? = some x) : (spL T S L)[4 + 3 * T + L + s * (6 + L) + j]? = some x :=
  to_get (s := s + 1) (by rw [to_succ]; exact get_right (to_length T L s) h) S hs

/-! As the document's answer lays them. -/
def rowsL (T q : Nat) : List Sp := oneL ++ (List.range q).flatMap fun j : Nat => thL (5 + (j : Int)) T
theorem rows_zero (T : Nat) : rowsL T 0 = oneL := by simp [rowsL]
theorem rows_succ (T q : Nat) : rowsL T (q + 1) = rowsL T q ++ thL (5 + (q : Int)) T := by simp [rowsL, List.range_succ, List.flatMap_append]
theorem rows_three (T L : Nat) : rowsL T 3 ++ lvL 8 0 L = frL T L := by
  rw [rows_succ, rows_succ, rows_succ, rows_zero]
  rfl
theorem rows_length (T : Nat) : ∀ q, (rowsL T q).length = 4 + q * T
  | 0 => by rw [rows_zero]; simp [oneL]
  | q + 1 => by rw [rows_succ, List.length_append, rows_length T q, th_length, Nat.succ_mul]; omega
def sixQ (i : Int) (q : Nat) : List Sp := (List.range q).map fun j : Nat => (9 + (j : Int), i, 0)
theorem sixQ_zero (i : Int) : sixQ i 0 = [] := by simp [sixQ]
theorem sixQ_succ (i : Int) (q : Nat) : sixQ i (q + 1) = sixQ i q ++ [(9 + (q : Int), i, 0)] := by simp [sixQ, List.range_succ]
theorem sixQ_six (i : Int) : sixQ i 6 = sixL i := rfl
theorem sixQ_length (i : Int) (q : Nat) : (sixQ i q).length = q := by simp [sixQ]

/-! The same, as the program tells them: each with its place. -/
abbrev PSp := Int × Sp
def oneG : List PSp := [(0, (1, 0, 0)), (1, (2, 0, 0)), (2, (3, 0, 0)), (3, (4, 0, 0))]
def thG (T : Int) (t : Nat) : List PSp := [(ofI T 0 t, (5, (t : Int), 0)), (ofI T 1 t, (6, (t : Int), 0)), (ofI T 2 t, (7, (t : Int), 0))]
def wayK (i : Int) : Int := if i = 0 then 8 else 15
def wayG (T L i : Int) (k : Nat) : List PSp := (List.range k).map fun h : Nat => (nextI T L i (h : Int), (wayK i, i, (h : Int)))
def ownG (T L i : Int) : List PSp := [(atI T L i 0, (9, i, 0)), (atI T L i 1, (10, i, 0)), (atI T L i 2, (11, i, 0)), (atI T L i 3, (12, i, 0)), (atI T L i 4, (13, i, 0)), (atI T L i 5, (14, i, 0))]
def sloG (T L i : Int) (n : Nat) : List PSp := (if i = 0 then [] else ownG T L i) ++ wayG T L i n
def thrG (T : Int) (t : Nat) : List PSp := (List.range t).flatMap (thG T)
def slsG (T L : Int) (n s : Nat) : List PSp := (List.range s).flatMap fun i : Nat => sloG T L (i : Int) n
def spG (T S L : Nat) : List PSp := oneG ++ (thrG T T ++ slsG T L L (S + 1))
theorem thr_zero (T : Int) : thrG T 0 = [] := by simp [thrG]
theorem thr_succ (T : Int) (t : Nat) : thrG T (t + 1) = thrG T t ++ thG T t := by simp [thrG, List.range_succ, List.flatMap_append]
theorem thr_length (T : Int) : ∀ t, (thrG T t).length = 3 * t
  | 0 => by simp [thr_zero]
  | t + 1 => by rw [thr_succ, List.length_append, thr_length T t]; simp [thG]; omega
theorem thr_prefix (T : Int) {k t : Nat} {q : List PSp} (h : q <+: thG T k) (hk : k < t) : thrG T k ++ q <+: thrG T t := by
  induction t with
  | zero => omega
  | succ t ih =>
    by_cases e : k = t
    · subst e
      rw [thr_succ]
      exact (List.prefix_append_right_inj _).2 h
    · rw [thr_succ]
      exact (ih (by omega)).trans (List.prefix_append _ _)
theorem way_length (T L i : Int) (k : Nat) : (wayG T L i k).length = k := by simp [wayG]
theorem way_prefix (T L i : Int) {k t : Nat} (hk : k ≤ t) : wayG T L i k <+: wayG T L i t := by
  unfold wayG
  rw [show t = k + (t - k) by omega, List.range_add, List.map_append]
  exact List.prefix_append _ _
theorem sls_zero (T L : Int) (n : Nat) : slsG T L n 0 = [] := by simp [slsG]
theorem sls_succ (T L : Int) (n s : Nat) : slsG T L n (s + 1) = slsG T L n s ++ sloG T L (s : Int) n := by simp [slsG, List.range_succ, List.flatMap_append]
theorem way_zero (T L i : Int) : wayG T L i 0 = [] := by simp [wayG]
theorem way_succ (T L i : Int) (k : Nat) : wayG T L i (k + 1) = wayG T L i k ++ [(nextI T L i (k : Int), (wayK i, i, (k : Int)))] := by simp [wayG, List.range_succ]
theorem slo_zero (T L : Int) (n : Nat) : sloG T L 0 n = wayG T L 0 n := by simp [sloG]
theorem sls_prefix (T L : Int) {n k t : Nat} {q : List PSp} (h : q <+: sloG T L (k : Int) n) (hk : k < t) : slsG T L n k ++ q <+: slsG T L n t := by
  induction t with
  | zero => omega
  | succ t ih =>
    by_cases e : k = t
    · subst e
      rw [sls_succ]
      exact (List.prefix_append_right_inj _).2 h
    · rw [sls_succ]
      exact (ih (by omega)).trans (List.prefix_append _ _)
theorem slo_some (T L : Int) {i : Int} (h : ¬ i = 0) (n : Nat) : sloG T L i n = ownG T L i ++ wayG T L i n := by simp [sloG, h]

theorem sls_length (T L : Int) (n : Nat) : ∀ s, (slsG T L n (s + 1)).length = n + s * (6 + n)
  | 0 => by rw [sls_succ, sls_zero, show ((0 : Nat) : Int) = 0 from rfl, slo_zero]; simp [way_length]
  | s + 1 => by
    rw [sls_succ, List.length_append, sls_length T L n s, slo_some _ _ (by omega), List.length_append, way_length]
    simp [ownG, Nat.add_mul]
    omega

/-- Where a spot of a right plan stands: by its kind. -/
def posN (T L : Nat) (s : Sp) : Nat :=
  if s.1 ≤ 4 then (s.1 - 1).toNat
  else if s.1 ≤ 7 then 4 + (s.1 - 5).toNat * T + s.2.1.toNat
  else if s.1 = 8 then 4 + 3 * T + s.2.2.toNat
  else 4 + 3 * T + L + (s.2.1 - 1).toNat * (6 + L) + (s.1 - 9).toNat + s.2.2.toNat

/-- The plan's numbers are small. -/
structure Small (T S L : Nat) : Prop where
  t1 : 1 ≤ T
  t : T ≤ 8
  s1 : 1 ≤ S
  s : S ≤ 64
  l1 : 1 ≤ L
  l : L ≤ 8

/-- One spot with its place: it stands there, and nowhere else. -/
def Stands (T S L : Nat) (x : PSp) : Prop := ∃ i : Nat, x.1 = (i : Int) ∧ (spL T S L)[i]? = some x.2 ∧ posN T L x.2 = i

theorem stands_one {T S L : Nat} : ∀ x ∈ oneG, Stands T S L x := by
  intro x hx
  simp only [oneG, List.mem_cons, List.not_mem_nil, or_false] at hx
  rcases hx with rfl | rfl | rfl | rfl
  · exact ⟨0, rfl, sp_front rfl, rfl⟩
  · exact ⟨1, rfl, sp_front rfl, rfl⟩
  · exact ⟨2, rfl, sp_front rfl, rfl⟩
  · exact ⟨3, rfl, sp_front rfl, rfl⟩
theorem fr_row0 {T L t : Nat} (h : t < T) : (frL T L)[4 + t]? = some (5, (t : Int), 0) := by
  unfold frL
  exact get_left (get_left (get_left (get_right (n := 4) rfl (th_get h))))
theorem fr_row1 {T L t : Nat} (h : t < T) : (frL T L)[4 + T + t]? = some (6, (t : Int), 0) := by
  unfold frL
  exact get_left (get_left (get_right (by simp [oneL, th_length]; omega) (th_get h)))
theorem fr_row2 {T L t : Nat} (h : t < T) : (frL T L)[4 + T + T + t]? = some (7, (t : Int), 0) := by
  unfold frL
  exact get_left (get_right (by simp [oneL, th_length]; omega) (th_get h))
theorem fr_head {T L h : Nat} (hh : h < L) : (frL T L)[4 + 3 * T + h]? = some (8, 0, (h : Int)) := by
  unfold frL
  exact get_right (by simp [oneL, th_length]; omega) (lv_get hh)
theorem stands_th {T S L t : Nat} (hs : Small T S L) (h : t < T) : ∀ x ∈ thG T t, Stands T S L x := by
  have hT := hs.t
  intro x hx
  simp only [thG, List.mem_cons, List.not_mem_nil, or_false] at hx
  rcases hx with rfl | rfl | rfl
  · refine ⟨4 + t, ?_, sp_front (fr_row0 h), by simp [posN]⟩
    have := of_cast (T := T) (n := 0) (t := t) (by omega) (by omega)
    simpa using this
  · refine ⟨4 + T + t, ?_, sp_front (fr_row1 h), by simp [posN]⟩
    have := of_cast (T := T) (n := 1) (t := t) (by omega) (by omega)
    simpa using this
  · refine ⟨4 + T + T + t, ?_, sp_front (fr_row2 h), by simp [posN]; omega⟩
    have := of_cast (T := T) (n := 2) (t := t) (by omega) (by omega)
    rw [show (2 : Int) = ((2 : Nat) : Int) from rfl]
    show ofI T _ _ = _
    rw [this]
    omega
theorem stands_head {T S L h : Nat} (hs : Small T S L) (hh : h < L) : Stands T S L (nextI T L 0 (h : Int), (8, 0, (h : Int))) := by
  have hT := hs.t
  have hL := hs.l
  refine ⟨4 + 3 * T + h, ?_, sp_front (fr_head hh), by simp [posN]⟩
  have := next_cast (T := T) (L := L) (i := 0) (k := h) (by omega) (by omega) (by omega) (by omega)
  simpa [nextN] using this
theorem sl_six {L s : Nat} {j : Nat} (h : j < 6) : (slL L s)[j]? = some (9 + (j : Int), ((s + 1 : Nat) : Int), 0) := by
  unfold slL
  refine get_left ?_
  match j, h with
  | 0, _ | 1, _ | 2, _ | 3, _ | 4, _ | 5, _ => rfl
theorem sl_way {L s h : Nat} (hh : h < L) : (slL L s)[6 + h]? = some (15, ((s + 1 : Nat) : Int), (h : Int)) := by
  unfold slL
  exact get_right (n := 6) rfl (lv_get hh)
theorem stands_six {T S L s j : Nat} (hs : Small T S L) (hi : s < S) (h : j < 6) : Stands T S L (atI T L ((s + 1 : Nat) : Int) (j : Int), (9 + (j : Int), ((s + 1 : Nat) : Int), 0)) := by
  have hT := hs.t
  have hL := hs.l
  have hS := hs.s
  refine ⟨4 + 3 * T + L + s * (6 + L) + j, ?_, sp_slot hi (sl_six h), ?_⟩
  · have := at_cast (T := T) (L := L) (i := s + 1) (k := j) (by omega) (by omega) (by omega) (by omega) (by omega)
    simpa [atN] using this
  · unfold posN
    rw [if_neg (by simp; omega), if_neg (by simp; omega), if_neg (by simp; omega)]
    simp
    omega
theorem stands_way {T S L s h : Nat} (hs : Small T S L) (hi : s < S) (hh : h < L) : Stands T S L (nextI T L ((s + 1 : Nat) : Int) (h : Int), (15, ((s + 1 : Nat) : Int), (h : Int))) := by
  have hT := hs.t
  have hL := hs.l
  have hS := hs.s
  refine ⟨4 + 3 * T + L + s * (6 + L) + (6 + h), ?_, sp_slot hi (sl_way hh), ?_⟩
  · have := next_cast (T := T) (L := L) (i := s + 1) (k := h) (by omega) (by omega) (by omega) (by omega)
    simpa [nextN, atN] using this
  · simp [posN]; omega
theorem stands_all {T S L : Nat} (hs : Small T S L) : ∀ x ∈ spG T S L, Stands T S L x := by
  intro x hx
  simp only [spG, List.mem_append] at hx
  rcases hx with hx | hx | hx
  · exact stands_one x hx
  · simp only [thrG, List.mem_flatMap, List.mem_range] at hx
    obtain ⟨t, ht, hx⟩ := hx
    exact stands_th hs ht x hx
  · simp only [slsG, List.mem_flatMap, List.mem_range] at hx
    obtain ⟨i, hi, hx⟩ := hx
    cases i with
    | zero =>
      rw [show ((0 : Nat) : Int) = 0 from rfl, slo_zero] at hx
      simp only [wayG, List.mem_map, List.mem_range] at hx
      obtain ⟨h, hh, rfl⟩ := hx
      exact stands_head hs hh
    | succ s =>
      rw [slo_some _ _ (by omega)] at hx
      rw [List.mem_append] at hx
      rcases hx with hx | hx
      · simp only [ownG, List.mem_cons, List.not_mem_nil, or_false] at hx
        rcases hx with rfl | rfl | rfl | rfl | rfl | rfl
        · exact stands_six (j := 0) hs (by omega) (by omega)
        · exact stands_six (j := 1) hs (by omega) (by omega)
        · exact stands_six (j := 2) hs (by omega) (by omega)
        · exact stands_six (j := 3) hs (by omega) (by omega)
        · exact stands_six (j := 4) hs (by omega) (by omega)
        · exact stands_six (j := 5) hs (by omega) (by omega)
      · simp only [wayG, List.mem_map, List.mem_range] at hx
        obtain ⟨h, hh, rfl⟩ := hx
        have e : wayK ((s + 1 : Nat) : Int) = 15 := if_neg (by omega)
        rw [e]
        exact stands_way hs (by omega) hh

/-- Each place of a right plan is told. -/
theorem told_all {T S L : Nat} (hs : Small T S L) {i : Nat} (hi : i < wordsN T S L) : ∃ x ∈ spG T S L, x.1 = (i : Int) := by
  suffices h : ∃ x ∈ spG T S L, posN T L x.2 = i by
    obtain ⟨x, hx, he⟩ := h
    obtain ⟨j, h1, _, h3⟩ := stands_all hs x hx
    exact ⟨x, hx, by rw [h1, ← he, h3]⟩
  have hT := hs.t
  have hL := hs.l
  have hS := hs.s
  simp only [spG, List.mem_append]
  by_cases h1 : i < 4
  · have hm : ((i : Int), ((i : Int) + 1, (0 : Int), (0 : Int))) ∈ oneG := by
      match i, h1 with
      | 0, _ | 1, _ | 2, _ | 3, _ => simp [oneG]
    exact ⟨_, .inl hm, by simp [posN]; omega⟩
  by_cases h2 : i < 4 + 3 * T
  · have hth : ∀ t, t < T → ∀ x ∈ thG T t, x ∈ thrG T T := fun t ht x hx => by
      simp only [thrG, List.mem_flatMap, List.mem_range]
      exact ⟨t, ht, hx⟩
    by_cases a : i < 4 + T
    · exact ⟨_, .inr (.inl (hth (i - 4) (by omega) (ofI T 0 ((i - 4 : Nat) : Int), (5, ((i - 4 : Nat) : Int), 0)) (by simp [thG]))), by simp [posN]; omega⟩
    by_cases b : i < 4 + 2 * T
    · exact ⟨_, .inr (.inl (hth (i - 4 - T) (by omega) (ofI T 1 ((i - 4 - T : Nat) : Int), (6, ((i - 4 - T : Nat) : Int), 0)) (by simp [thG]))), by simp [posN]; omega⟩
    · exact ⟨_, .inr (.inl (hth (i - 4 - T - T) (by omega) (ofI T 2 ((i - 4 - T - T : Nat) : Int), (7, ((i - 4 - T - T : Nat) : Int), 0)) (by simp [thG]))), by simp [posN]; omega⟩
  have hsl : ∀ s, s < S + 1 → ∀ x ∈ sloG T L ((s : Nat) : Int) L, x ∈ slsG T L L (S + 1) := fun s hs' x hx => by
    simp only [slsG, List.mem_flatMap, List.mem_range]
    exact ⟨s, hs', hx⟩
  by_cases h3 : i < 4 + 3 * T + L
  · refine ⟨(nextI T L 0 ((i - 4 - 3 * T : Nat) : Int), (8, 0, ((i - 4 - 3 * T : Nat) : Int))), .inr (.inr (hsl 0 (by omega) _ ?_)), by simp [posN]; omega⟩
    rw [show ((0 : Nat) : Int) = 0 from rfl, slo_zero]
    simp only [wayG, List.mem_map, List.mem_range]
    exact ⟨i - 4 - 3 * T, by omega, rfl⟩
  · obtain ⟨d, hd⟩ : ∃ d, i = 4 + 3 * T + L + d := ⟨i - (4 + 3 * T + L), by omega⟩
    have hdS : d < S * (6 + L) := by unfold wordsN at hi; omega
    obtain ⟨q, r, hq, hr, hdq⟩ : ∃ q r, q < S ∧ r < 6 + L ∧ d = q * (6 + L) + r :=
      ⟨d / (6 + L), d % (6 + L), Nat.div_lt_of_lt_mul (by rw [Nat.mul_comm]; exact hdS), Nat.mod_lt _ (by omega), by rw [Nat.mul_comm]; exact (Nat.div_add_mod d (6 + L)).symm⟩
    by_cases h6 : r < 6
    · refine ⟨(atI T L ((q + 1 : Nat) : Int) (r : Int), (9 + (r : Int), ((q + 1 : Nat) : Int), 0)), .inr (.inr (hsl (q + 1) (by omega) _ ?_)), ?_⟩
      · rw [slo_some _ _ (by omega), List.mem_append]
        left
        match r, h6 with
        | 0, _ | 1, _ | 2, _ | 3, _ | 4, _ | 5, _ => simp [ownG]
      · unfold posN
        rw [if_neg (by simp; omega), if_neg (by simp; omega), if_neg (by simp; omega)]
        simp
        omega
    · refine ⟨(nextI T L ((q + 1 : Nat) : Int) ((r - 6 : Nat) : Int), (15, ((q + 1 : Nat) : Int), ((r - 6 : Nat) : Int))), .inr (.inr (hsl (q + 1) (by omega) _ ?_)), ?_⟩
      · rw [slo_some _ _ (by omega), List.mem_append]
        right
        have e : wayK ((q + 1 : Nat) : Int) = 15 := if_neg (by omega)
        simp only [wayG, List.mem_map, List.mem_range]
        exact ⟨r - 6, by omega, by rw [e]⟩
      · simp [posN]; omega

/-! What stands at a place, and where a spot stands. -/
def none3 : Sp := (0, 0, 0)
/-- The spot at a place of a list of spots. -/
def whatL (l : List Sp) (i : Int) : Sp := if 0 ≤ i then (l[i.toNat]?).getD none3 else none3
/-- The first place of a spot in a list from n on; -1 if there is none. -/
def findL (s : Sp) : List Sp → Nat → Int
  | [], _ => -1
  | x :: r, n => if x = s then (n : Int) else findL s r (n + 1)
def whereL (l : List Sp) (s : Sp) : Int := findL s l 0
theorem find_some {s : Sp} : ∀ {l : List Sp} {n i : Nat}, l[i]? = some s → (∀ j, j < i → l[j]? ≠ some s) → findL s l n = ((n + i : Nat) : Int)
  | [], _, _, h, _ => by simp at h
  | x :: r, n, 0, h, _ => by simp at h; subst h; simp [findL]
  | x :: r, n, i + 1, h, hn => by
    have h0 := hn 0 (by omega)
    have hx : ¬ x = s := fun e => h0 (by simp [e])
    unfold findL
    rw [if_neg hx, find_some (l := r) (n := n + 1) (i := i) (by simpa using h) (fun j hj => by simpa using hn (j + 1) (by omega))]
    omega
theorem find_none {s : Sp} : ∀ {l : List Sp} {n : Nat}, s ∉ l → findL s l n = -1
  | [], _, _ => rfl
  | x :: r, n, h => by
    have hx : ¬ x = s := fun e => h (by simp [e])
    unfold findL
    rw [if_neg hx, find_none (fun hm => h (by simp [hm]))]

/-- All spots of a plan; none of one that is not right. -/
def spI (T S L G : Int) : List Sp := if rightB T S L G = true then spL T.toNat S.toNat L.toNat else []
/-- The same, as the program tells them. -/
def gI (T S L G : Int) : List PSp := if rightB T S L G = true then spG T.toNat S.toNat L.toNat else []
def whatI (T S L G i : Int) : Sp := whatL (spI T S L G) i
def whereI (T S L G : Int) (s : Sp) : Int := whereL (spI T S L G) s

theorem small_of {T S L G : Int} (h : rightB T S L G = true) : ∃ t s l : Nat, T = (t : Int) ∧ S = (s : Int) ∧ L = (l : Int) ∧ Small t s l := by
  obtain ⟨h1, h2, h3, h4, h5, h6, _⟩ := right_is h
  exact ⟨T.toNat, S.toNat, L.toNat, by omega, by omega, by omega, ⟨by omega, by omega, by omega, by omega, by omega, by omega⟩⟩

/-- The place of what stands somewhere. -/
theorem pos_of_get {T S L : Nat} (hs : Small T S L) {i : Nat} {s : Sp} (h : (spL T S L)[i]? = some s) : posN T L s = i := by
  have hi : i < wordsN T S L := by rw [← sp_length]; exact (List.getElem?_eq_some_iff.1 h).1
  obtain ⟨x, hx, he⟩ := told_all hs hi
  obtain ⟨j, h1, h2, h3⟩ := stands_all hs x hx
  obtain rfl : i = j := by omega
  rw [h2] at h
  cases h
  exact h3
theorem where_of_get {T S L : Nat} (hs : Small T S L) {i : Nat} {s : Sp} (h : (spL T S L)[i]? = some s) : whereL (spL T S L) s = (i : Int) := by
  unfold whereL
  rw [find_some h fun j hj e => by have a := pos_of_get hs h; have b := pos_of_get hs e; omega]
  simp

/-- What the program finds at a place is what stands there. -/
theorem what_hit {T S L G i : Int} {x : PSp} (hx : x ∈ gI T S L G) (he : x.1 = i) : whatI T S L G i = x.2 := by
  unfold gI at hx
  split at hx
  · rename_i h
    obtain ⟨t, s, l, rfl, rfl, rfl, hs⟩ := small_of h
    simp only [Int.toNat_natCast] at hx
    obtain ⟨j, h1, h2, _⟩ := stands_all hs x hx
    unfold whatI spI whatL
    rw [if_pos h, if_pos (by omega)]
    simp only [Int.toNat_natCast]
    rw [show i.toNat = j by omega, h2]
    rfl
  · simp at hx
theorem what_miss {T S L G i : Int} (h : ∀ x ∈ gI T S L G, ¬ x.1 = i) : whatI T S L G i = none3 := by
  unfold whatI whatL
  split
  · rename_i h0
    unfold spI
    split
    · rename_i hr
      have h' := h
      unfold gI at h'
      rw [if_pos hr] at h'
      obtain ⟨t, s, l, rfl, rfl, rfl, hs⟩ := small_of hr
      simp only [Int.toNat_natCast] at h' ⊢
      by_cases hi : i.toNat < wordsN t s l
      · obtain ⟨x, hx, he⟩ := told_all hs hi
        exact absurd (by omega) (h' x hx)
      · rw [List.getElem?_eq_none (by rw [sp_length]; omega)]
        rfl
    · simp
  · rfl
theorem where_hit {T S L G : Int} {s : Sp} {x : PSp} (hx : x ∈ gI T S L G) (he : x.2 = s) : whereI T S L G s = x.1 := by
  unfold gI at hx
  split at hx
  · rename_i h
    obtain ⟨t, n, l, rfl, rfl, rfl, hs⟩ := small_of h
    simp only [Int.toNat_natCast] at hx
    obtain ⟨j, h1, h2, _⟩ := stands_all hs x hx
    unfold whereI spI
    rw [if_pos h]
    simp only [Int.toNat_natCast]
    rw [← he, where_of_get hs h2, h1]
  · simp at hx
theorem where_miss {T S L G : Int} {s : Sp} (h : ∀ x ∈ gI T S L G, ¬ x.2 = s) : whereI T S L G s = -1 := by
  unfold whereI whereL
  refine find_none fun hm => ?_
  unfold spI at hm
  split at hm
  · rename_i hr
    unfold gI at h
    rw [if_pos hr] at h
    obtain ⟨t, n, l, rfl, rfl, rfl, hs⟩ := small_of hr
    simp only [Int.toNat_natCast] at hm h
    obtain ⟨i, hi, hg⟩ := List.getElem_of_mem hm
    obtain ⟨x, hx, he⟩ := told_all hs (i := i) (by rw [← sp_length]; exact hi)
    obtain ⟨j, h1, h2, _⟩ := stands_all hs x hx
    obtain rfl : i = j := by omega
    refine h x hx ?_
    rw [List.getElem?_eq_getElem hi, hg] at h2
    simpa using h2.symm
  · simp at hm
end Go.Proofs.YtjmkbcdolkgcgaaDoor.PM
