/- What the laws of layer 9 say of spots, in plain lists. No program is named. -/
import Derived.Test.YtjmkbcdolkgcgaaDoorPlaceTextMath
namespace Go.Proofs.YtjmkbcdolkgcgaaDoor.PM
open Go.RowKit

theorem what_stands {t s l : Nat} {G : Int} {x : PSp} (hr : rightB t s l G = true) (h : Stands t s l x) : whatI t s l G x.1 = x.2 := by
  obtain ⟨i, h1, h2, _⟩ := h
  unfold whatI spI whatL
  rw [if_pos hr, if_pos (by omega), h1]
  simp only [Int.toNat_natCast]
  rw [h2]
  rfl
theorem where_stands {t s l : Nat} {G : Int} {x : PSp} (hs : Small t s l) (hr : rightB t s l G = true) (h : Stands t s l x) : whereI t s l G x.2 = x.1 := by
  obtain ⟨i, h1, h2, _⟩ := h
  unfold whereI spI
  rw [if_pos hr]
  simp only [Int.toNat_natCast]
  rw [where_of_get hs h2, h1]

/-- Of a right plan's words: where the plan has them there stand these. -/
theorem what_six {T S L G i : Int} (hr : rightB T S L G = true) (h1 : 1 ≤ i) (h2 : i ≤ S) (j : Nat) (hj : j < 6) : whatI T S L G (atI T L i j) = (9 + (j : Int), i, 0) := by
  obtain ⟨t, s, l, rfl, rfl, rfl, hs⟩ := small_of hr
  obtain ⟨n, rfl⟩ : ∃ n : Nat, i = ((n + 1 : Nat) : Int) := ⟨(i - 1).toNat, by omega⟩
  exact what_stands hr (stands_six hs (by omega) hj)
theorem where_six {T S L G i : Int} (hr : rightB T S L G = true) (h1 : 1 ≤ i) (h2 : i ≤ S) (j : Nat) (hj : j < 6) : whereI T S L G (9 + (j : Int), i, 0) = atI T L i j := by
  obtain ⟨t, s, l, rfl, rfl, rfl, hs⟩ := small_of hr
  obtain ⟨n, rfl⟩ : ∃ n : Nat, i = ((n + 1 : Nat) : Int) := ⟨(i - 1).toNat, by omega⟩
  exact where_stands hs hr (stands_six hs (by omega) hj)
theorem what_next {T S L G i k : Int} (hr : rightB T S L G = true) (h1 : 1 ≤ i) (h2 : i ≤ S) (k0 : 0 ≤ k) (k1 : k < L) : whatI T S L G (nextI T L i k) = (15, i, k) := by
  obtain ⟨t, s, l, rfl, rfl, rfl, hs⟩ := small_of hr
  obtain ⟨n, rfl⟩ : ∃ n : Nat, i = ((n + 1 : Nat) : Int) := ⟨(i - 1).toNat, by omega⟩
  obtain ⟨m, rfl⟩ := Int.eq_ofNat_of_zero_le k0
  exact what_stands hr (stands_way hs (by omega) (by omega))
theorem what_head {T S L G k : Int} (hr : rightB T S L G = true) (k0 : 0 ≤ k) (k1 : k < L) : whatI T S L G (nextI T L 0 k) = (8, 0, k) := by
  obtain ⟨t, s, l, rfl, rfl, rfl, hs⟩ := small_of hr
  obtain ⟨m, rfl⟩ := Int.eq_ofNat_of_zero_le k0
  exact what_stands hr (stands_head hs (by omega))
theorem what_sem {T S L G k : Int} (hr : rightB T S L G = true) (k0 : 0 ≤ k) (k1 : k < T) : whatI T S L G (ofI T 2 k) = (7, k, 0) := by
  obtain ⟨t, s, l, rfl, rfl, rfl, hs⟩ := small_of hr
  obtain ⟨m, rfl⟩ := Int.eq_ofNat_of_zero_le k0
  exact what_stands hr (stands_th hs (show m < t by omega) (ofI t 2 m, (7, (m : Int), 0)) (by simp [thG]))
theorem what_none {T S L G : Int} : whatI T S L G (-1) = (0, 0, 0) := by unfold whatI whatL; rw [if_neg (by decide)]; rfl

/-- Each spot that there is has a kind. -/
theorem kind_pos {T S L : Nat} : ∀ x ∈ spL T S L, 1 ≤ x.1 := by
  intro x hx
  simp only [spL, toL, frL, List.mem_append, List.mem_flatMap, List.mem_range, slL, oneL, thL, lvL, sixL, List.mem_map, List.mem_cons, List.not_mem_nil, or_false] at hx
  rcases hx with (((((rfl | rfl | rfl | rfl) | ⟨_, _, rfl⟩) | ⟨_, _, rfl⟩) | ⟨_, _, rfl⟩) | ⟨_, _, rfl⟩) | ⟨_, _, (rfl | rfl | rfl | rfl | rfl | rfl) | ⟨_, _, rfl⟩⟩ <;> simp

/-- A word that there is: its spot has a kind, and stands there. -/
theorem back_there {T S L G i : Int} (hr : rightB T S L G = true) (h0 : 0 ≤ i) (h1 : i < atI T L (wrap64 (S + 1)) 0) : ∃ a b c, whatI T S L G i = (a, b, c) ∧ 1 ≤ a ∧ whereI T S L G (a, b, c) = i := by
  obtain ⟨t, s, l, rfl, rfl, rfl, hs⟩ := small_of hr
  have ht := hs.t
  have hss := hs.s
  have hl := hs.l
  rw [words_cast (by omega) (by omega) (by omega)] at h1
  obtain ⟨n, rfl⟩ := Int.eq_ofNat_of_zero_le h0
  obtain ⟨x, hx, he⟩ := told_all hs (i := n) (by omega)
  have hst := stands_all hs x hx
  have h2 := what_stands hr hst
  have h3 := where_stands hs hr hst
  rw [he] at h2 h3
  obtain ⟨j, _, hg, _⟩ := hst
  have hk := kind_pos _ (List.mem_of_getElem? hg)
  obtain ⟨p, a, b, c⟩ := x
  exact ⟨a, b, c, h2, hk, h3⟩
theorem back_wrong {T S L G i : Int} (hr : rightB T S L G = false) : whatI T S L G i = (0, 0, 0) := by
  have e : spI T S L G = [] := by unfold spI; rw [if_neg (by rw [hr]; decide)]
  unfold whatI whatL
  rw [e]
  split <;> rfl
theorem back_low {T S L G i : Int} (h : i < 0) : whatI T S L G i = (0, 0, 0) := by unfold whatI whatL; rw [if_neg (by omega)]; rfl
theorem back_high {T S L G i : Int} (hr : rightB T S L G = true) (h1 : atI T L (wrap64 (S + 1)) 0 ≤ i) : whatI T S L G i = (0, 0, 0) := by
  obtain ⟨t, s, l, rfl, rfl, rfl, hs⟩ := small_of hr
  have ht := hs.t
  have hss := hs.s
  have hl := hs.l
  rw [words_cast (by omega) (by omega) (by omega)] at h1
  unfold whatI spI whatL
  rw [if_pos hr]
  split
  · simp only [Int.toNat_natCast]
    rw [List.getElem?_eq_none (by rw [sp_length]; omega)]
    rfl
  · rfl
/-- A spot's place: none, or one at which it stands. -/
theorem back_where (T S L G : Int) (x : Sp) : whereI T S L G x = -1 ∨ ∃ n : Nat, whereI T S L G x = (n : Int) ∧ whatI T S L G (n : Int) = x := by
  cases hr : rightB T S L G
  · left
    unfold whereI spI
    rw [if_neg (by rw [hr]; decide)]
    rfl
  · obtain ⟨t, s, l, rfl, rfl, rfl, hs⟩ := small_of hr
    unfold whereI whatI spI
    rw [if_pos hr]
    simp only [Int.toNat_natCast]
    by_cases hm : x ∈ spL t s l
    · right
      obtain ⟨i, hi⟩ := List.getElem?_of_mem hm
      refine ⟨i, where_of_get hs hi, ?_⟩
      unfold whatL
      rw [if_pos (by omega)]
      simp [hi]
    · exact .inl (find_none hm)

/-! The chapter's examples. -/
theorem ex_11 : whatI 2 3 4 0 11 = (8, 0, 1) := by decide +kernel
theorem ex_24 : whatI 2 3 4 0 24 = (9, 2, 0) := by decide +kernel
theorem ex_43 : whatI 2 3 4 0 43 = (15, 3, 3) := by decide +kernel
theorem ex_44 : whatI 2 3 4 0 44 = (0, 0, 0) := by decide +kernel
theorem ex_where : whereI 2 3 4 0 (8, 0, 1) = 11 := by decide +kernel
theorem ex_head : textS (8, 0, 1) = [104, 101, 97, 100, 32, 49] := by decide +kernel
theorem ex_state : textS (9, 2, 0) = [115, 108, 111, 116, 32, 50, 32, 115, 116, 97, 116, 101] := by decide +kernel
theorem ex_next : textS (15, 3, 3) = [115, 108, 111, 116, 32, 51, 32, 110, 101, 120, 116, 32, 51] := by decide +kernel
end Go.Proofs.YtjmkbcdolkgcgaaDoor.PM
