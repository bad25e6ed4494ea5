import Derived.WalkKit
/- Slots that wait, in plain lists: three lists by the rest of their epochs; which are ripe, which stay; the document's one list is these three, one behind the other. No program is named. -/
namespace Go.Proofs.YtafjokjmogadnaaGreatDoor.LM
set_option linter.unusedVariables false
set_option linter.unusedSimpArgs false

abbrev R2 := Int × Int
abbrev Ls := Nat → List R2
/-- Is a slot ripe in the epoch c? -/
def ripeB (c : Int) (x : R2) : Bool := decide (2 ≤ c) && decide (x.2 ≤ c - 2)
theorem ripe_yes {c : Int} {x : R2} (h1 : 2 ≤ c) (h2 : x.2 ≤ c - 2) : ripeB c x = true := by simp [ripeB, h1, h2]
theorem ripe_out {c : Int} {x : R2} (h : ripeB c x = true) : 2 ≤ c ∧ x.2 ≤ c - 2 := by simpa [ripeB] using h
def noL : Ls := fun _ => []
def allL (L : Ls) : List R2 := L 0 ++ (L 1 ++ L 2)
def putL (L : Ls) (i : Nat) (l : List R2) : Ls := fun j => if j = i then l else L j
theorem putL_same (L : Ls) (i : Nat) (l : List R2) : putL L i l i = l := if_pos rfl
theorem putL_other (L : Ls) {i j : Nat} (l : List R2) (h : j ≠ i) : putL L i l j = L j := if_neg h
def lenL (L : Ls) : Nat := (L 0).length + (L 1).length + (L 2).length
theorem lenL_all (L : Ls) : (allL L).length = lenL L := by simp [allL, lenL]; omega
theorem lenL_put (L : Ls) {i : Nat} (hi : i < 3) (l : List R2) : lenL (putL L i l) + (L i).length = lenL L + l.length := by
  match i, hi with
  | 0, _ => simp [lenL, putL]; omega
  | 1, _ => simp [lenL, putL]; omega
  | 2, _ => simp [lenL, putL]; omega
theorem lenL_le (L : Ls) {i : Nat} (hi : i < 3) : (L i).length ≤ lenL L := by
  match i, hi with
  | 0, _ => simp [lenL]; omega
  | 1, _ => simp [lenL]; omega
  | 2, _ => simp [lenL]
/-- All slots of the first k lists. -/
def upL (L : Ls) : Nat → List R2
  | 0 => []
  | k + 1 => upL L k ++ L k
theorem upL_3 (L : Ls) : upL L 3 = allL L := by simp [upL, allL]
theorem upL_len (L : Ls) : ∀ {k : Nat}, k ≤ 3 → (upL L k).length ≤ lenL L
  | 0, _ => by simp [upL]
  | 1, _ => by simp [upL, lenL]; omega
  | 2, _ => by simp [upL, lenL]
  | 3, _ => by simp [upL, lenL]; omega
/-- Ripe, k lists gone through. -/
def amidL (L : Ls) (c : Int) (k : Nat) : Ls := fun i => if i < k then (L i).filter (fun x => !ripeB c x) else L i
theorem amidL_0 (L : Ls) (c : Int) : amidL L c 0 = L := by funext i; simp [amidL]
theorem amidL_at (L : Ls) (c : Int) (k : Nat) : amidL L c k k = L k := by simp [amidL]
theorem amidL_succ (L : Ls) (c : Int) (k : Nat) : putL (amidL L c k) k ((L k).filter (fun x => !ripeB c x)) = amidL L c (k + 1) := by
  funext i
  unfold putL amidL
  by_cases h : i = k
  · subst h
    simp
  · by_cases h2 : i < k
    · rw [if_neg h, if_pos h2, if_pos (by omega)]
    · rw [if_neg h, if_neg h2, if_neg (by omega)]
theorem amidL_all (L : Ls) (c : Int) : allL (amidL L c 3) = (allL L).filter (fun x => !ripeB c x) := by simp [allL, amidL]
theorem amidL_len (L : Ls) (c : Int) (k : Nat) : lenL (amidL L c k) ≤ lenL L := by
  have h : ∀ i, (amidL L c k i).length ≤ (L i).length := fun i => by
    unfold amidL
    split
    · exact List.length_filter_le _ _
    · exact Nat.le_refl _
  have h0 := h 0
  have h1 := h 1
  have h2 := h 2
  unfold lenL
  omega
/-- Copy, k lists gone through. -/
def takeL (L : Ls) (k : Nat) : Ls := fun i => if i < k then L i else []
theorem takeL_0 (L : Ls) : takeL L 0 = noL := by funext i; simp [takeL, noL]
theorem takeL_succ (L : Ls) (k : Nat) : putL (takeL L k) k (L k) = takeL L (k + 1) := by
  funext i
  unfold putL takeL
  by_cases h : i = k
  · subst h
    simp
  · by_cases h2 : i < k
    · rw [if_neg h, if_pos h2, if_pos (by omega)]
    · rw [if_neg h, if_neg h2, if_neg (by omega)]
theorem takeL_3 (L : Ls) {i : Nat} (h : i < 3) : takeL L 3 i = L i := if_pos h
/-- What Ripe has told, k lists gone through. -/
def outL (L : Ls) (c : Int) (k : Nat) : List R2 := (upL L k).filter (ripeB c)
theorem outL_succ (L : Ls) (c : Int) (k : Nat) : outL L c (k + 1) = outL L c k ++ (L k).filter (ripeB c) := by simp [outL, upL]
theorem outL_3 (L : Ls) (c : Int) : outL L c 3 = (allL L).filter (ripeB c) := by rw [outL, upL_3]
/-- One element more has been looked at. -/
theorem filter_take {p : R2 → Bool} {l : List R2} {k : Nat} {x : R2} (h : l[k]? = some x) : (l.take (k + 1)).filter p = (l.take k).filter p ++ (if p x then [x] else []) := by
  obtain ⟨hk, e⟩ := List.getElem?_eq_some_iff.1 h
  rw [List.take_succ_eq_append_getElem hk, List.filter_append, e]
  cases hp : p x <;> simp [hp]
theorem filter_yes {p : R2 → Bool} {l : List R2} {k : Nat} {x : R2} (h : l[k]? = some x) (hp : p x = true) : (l.take (k + 1)).filter p = (l.take k).filter p ++ [x] := by rw [filter_take h, if_pos hp]
theorem filter_no {p : R2 → Bool} {l : List R2} {k : Nat} {x : R2} (h : l[k]? = some x) (hp : p x = false) : (l.take (k + 1)).filter p = (l.take k).filter p := by rw [filter_take h, if_neg (by simp [hp]), List.append_nil]
theorem filter_len (p : R2 → Bool) (l : List R2) (k : Nat) : ((l.take k).filter p).length ≤ k := Nat.le_trans (List.length_filter_le _ _) (by simp; omega)

/-! Each slot is in the list of its epoch. -/
def Right (L : Ls) : Prop := ∀ i x, i < 3 → x ∈ L i → x.2 % 3 = (i : Int)
theorem right_no : Right noL := fun i x _ h => by simp [noL] at h
def addL (L : Ls) (x : R2) : Ls := putL L (x.2 % 3).toNat (L (x.2 % 3).toNat ++ [x])
theorem rest_of (e : Int) : ∃ i : Nat, i < 3 ∧ e % 3 = (i : Int) := ⟨(e % 3).toNat, by omega, by omega⟩
theorem addL_is (L : Ls) {x : R2} {i : Nat} (h : x.2 % 3 = (i : Int)) : addL L x = putL L i (L i ++ [x]) := by
  unfold addL
  rw [h]
  rfl
theorem right_add {L : Ls} (h : Right L) (x : R2) : Right (addL L x) := by
  obtain ⟨k, hk, e⟩ := rest_of x.2
  rw [addL_is L e]
  intro i y hi hy
  by_cases hik : i = k
  · subst hik
    rw [putL_same] at hy
    rcases List.mem_append.1 hy with hy | hy
    · exact h i y hi hy
    · obtain rfl : y = x := by simpa using hy
      exact e
  · rw [putL_other _ _ hik] at hy
    exact h i y hi hy
theorem right_amid {L : Ls} (h : Right L) (c : Int) (k : Nat) : Right (amidL L c k) := by
  intro i y hi hy
  unfold amidL at hy
  split at hy
  · exact h i y hi (List.mem_filter.1 hy).1
  · exact h i y hi hy
theorem lenL_add (L : Ls) (x : R2) : lenL (addL L x) = lenL L + 1 := by
  obtain ⟨k, hk, e⟩ := rest_of x.2
  rw [addL_is L e]
  have := lenL_put L hk (L k ++ [x])
  simp at this
  omega
/-- Where the document puts one more: behind the last one whose epoch's rest is no more. a of the first k have been seen. -/
def Behind (e : Int) (l : List R2) (a k : Nat) : Prop := a ≤ k ∧ (∀ i x, a ≤ i → i < k → l[i]? = some x → ¬ x.2 % 3 ≤ e % 3) ∧ (0 < a → ∃ x, l[a - 1]? = some x ∧ x.2 % 3 ≤ e % 3)
theorem behind_0 (e : Int) (l : List R2) : Behind e l 0 0 := ⟨Nat.le_refl _, fun i _ h1 h2 => by omega, fun h => by omega⟩
theorem behind_yes {e : Int} {l : List R2} {a k : Nat} {x : R2} (h : Behind e l a k) (hx : l[k]? = some x) (hp : x.2 % 3 ≤ e % 3) : Behind e l (k + 1) (k + 1) :=
  ⟨Nat.le_refl _, fun i _ h1 h2 => by omega, fun _ => ⟨x, by simpa using hx, hp⟩⟩
theorem behind_no {e : Int} {l : List R2} {a k : Nat} {x : R2} (h : Behind e l a k) (hx : l[k]? = some x) (hp : ¬ x.2 % 3 ≤ e % 3) : Behind e l a (k + 1) :=
  ⟨Nat.le_succ_of_le h.1, fun i y h1 h2 hy => by
    by_cases hi : i = k
    · subst hi
      rw [hx] at hy
      cases hy
      exact hp
    · exact h.2.1 i y h1 (by omega) hy, h.2.2⟩
/-- Where the list is in two parts by that. -/
theorem behind_parts {e : Int} {p s : List R2} {a : Nat} (h : Behind e (p ++ s) a (p ++ s).length) (hp : ∀ x ∈ p, x.2 % 3 ≤ e % 3) (hs : ∀ x ∈ s, ¬ x.2 % 3 ≤ e % 3) : a = p.length := by
  obtain ⟨h1, h2, h3⟩ := h
  rcases Nat.lt_trichotomy a p.length with hlt | heq | hgt
  · obtain ⟨x, hx⟩ : ∃ x, p[p.length - 1]? = some x := ⟨_, List.getElem?_eq_getElem (by omega)⟩
    have hx2 : (p ++ s)[p.length - 1]? = some x := by rw [List.getElem?_append_left (by omega)]; exact hx
    exact absurd (hp x (List.mem_of_getElem? hx)) (h2 (p.length - 1) x (by omega) (by simp; omega) hx2)
  · exact heq
  · obtain ⟨x, hx, hle⟩ := h3 (by omega)
    rw [List.getElem?_append_right (by omega)] at hx
    exact absurd hle (hs x (List.mem_of_getElem? hx))
theorem behind_all {L : Ls} (hR : Right L) {x : R2} {a : Nat} (h : Behind x.2 (allL L) a (allL L).length) : (allL L).take a ++ [x] ++ (allL L).drop a = allL (addL L x) := by
  obtain ⟨k, hk, e⟩ := rest_of x.2
  rw [addL_is L e]
  have h0 := fun y (hy : y ∈ L 0) => hR 0 y (by omega) hy
  have h1 := fun y (hy : y ∈ L 1) => hR 1 y (by omega) hy
  have h2 := fun y (hy : y ∈ L 2) => hR 2 y (by omega) hy
  have key : ∀ p s : List R2, allL L = p ++ s → (∀ y ∈ p, y.2 % 3 ≤ x.2 % 3) → (∀ y ∈ s, ¬ y.2 % 3 ≤ x.2 % 3) → (allL L).take a ++ [x] ++ (allL L).drop a = p ++ [x] ++ s := by
    intro p s el hp hs
    rw [el] at h ⊢
    have := behind_parts h hp hs
    subst this
    simp
  match k, hk with
  | 0, _ =>
    rw [key (L 0) (L 1 ++ L 2) rfl (fun y hy => by have := h0 y hy; omega) (fun y hy => by
      rcases List.mem_append.1 hy with hy | hy
      · have := h1 y hy; omega
      · have := h2 y hy; omega)]
    simp [allL, putL]
  | 1, _ =>
    rw [key (L 0 ++ L 1) (L 2) (by simp [allL]) (fun y hy => by
      rcases List.mem_append.1 hy with hy | hy
      · have := h0 y hy; omega
      · have := h1 y hy; omega) (fun y hy => by have := h2 y hy; omega)]
    simp [allL, putL]
  | 2, _ =>
    rw [key (L 0 ++ (L 1 ++ L 2)) [] (by simp [allL]) (fun y hy => by
      rcases List.mem_append.1 hy with hy | hy
      · have := h0 y hy; omega
      · rcases List.mem_append.1 hy with hy | hy
        · have := h1 y hy; omega
        · have := h2 y hy; omega) (fun y hy => by simp at hy)]
    simp [allL, putL]

/-! Epochs that rise: all slots are of one that is, or was; of those two epochs on none stays. -/
def Upto (L : Ls) (e : Int) : Prop := ∀ x ∈ allL L, x.2 ≤ e
theorem upto_no (e : Int) : Upto noL e := fun x h => by simp [allL, noL] at h
theorem upto_more {L : Ls} {e e' : Int} (h : Upto L e) (he : e ≤ e') : Upto L e' := fun x hx => Int.le_trans (h x hx) he
theorem upto_add {L : Ls} {e : Int} (h : Upto L e) (r : Int) : Upto (addL L (r, e)) e := by
  obtain ⟨k, hk, ek⟩ := rest_of e
  intro x hx
  rw [addL_is L (x := (r, e)) ek] at hx
  unfold Upto at h
  have h' : x ∈ allL L ∨ x = (r, e) := by
    match k, hk with
    | 0, _ => simp [allL, putL] at hx ⊢; grind
    | 1, _ => simp [allL, putL] at hx ⊢; grind
    | 2, _ => simp [allL, putL] at hx ⊢; grind
  rcases h' with h' | rfl
  · exact h x h'
  · exact Int.le_refl _
theorem upto_amid {L : Ls} {e : Int} (h : Upto L e) (c : Int) : Upto (amidL L c 3) e := by
  intro x hx
  rw [amidL_all] at hx
  exact h x (List.mem_filter.1 hx).1
theorem upto_gone {L : Ls} {e : Int} (h : Upto L e) (he : 0 ≤ e) : (allL L).filter (ripeB (e + 2)) = allL L ∧ lenL (amidL L (e + 2) 3) = 0 := by
  have h1 : ∀ x ∈ allL L, ripeB (e + 2) x = true := fun x hx => ripe_yes (by omega) (by have := h x hx; omega)
  refine ⟨List.filter_eq_self.2 h1, ?_⟩
  rw [← lenL_all, amidL_all, List.filter_eq_nil_iff.2 (fun x hx => by simp [h1 x hx])]
  rfl
theorem parts_len (L : Ls) (c : Int) : lenL (amidL L c 3) + ((allL L).filter (ripeB c)).length = lenL L := by
  rw [← lenL_all, ← lenL_all, amidL_all]
  generalize allL L = l
  induction l with
  | nil => rfl
  | cons x l ih => cases hp : ripeB c x <;> simp [hp] <;> omega
/-- The lowest bit of any number. -/
theorem and_one_any (u : Int) : bits BinOp.and IntKind.i64 u 1 = 0 ∨ bits BinOp.and IntKind.i64 u 1 = 1 := by
  have h1 : (BitVec.ofInt (IntKind.bits .i64) 1).toNat = 1 := by decide
  have h : bits BinOp.and IntKind.i64 u 1 = IntKind.i64.wrap (((BitVec.ofInt (IntKind.bits .i64) u).toNat % 2 : Nat) : Int) := by
    simp only [bits, BitVec.toNat_and, h1, Nat.and_one_is_mod]
  rw [h]
  rcases Nat.mod_two_eq_zero_or_one (BitVec.ofInt (IntKind.bits .i64) u).toNat with e | e
  · rw [e]
    exact .inl (by decide)
  · rw [e]
    exact .inr (by decide)
end Go.Proofs.YtafjokjmogadnaaGreatDoor.LM
