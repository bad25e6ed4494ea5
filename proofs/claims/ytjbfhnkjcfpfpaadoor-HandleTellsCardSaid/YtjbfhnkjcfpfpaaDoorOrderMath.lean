/- Plain arithmetic of keys: how two lie, how many of a list are less, whether a list rises, what sorting gives. No program is named. -/
namespace Go.Proofs.YtjbfhnkjcfpfpaaDoor.OM

abbrev Key := Int × Int

def cmpI (a b : Int) : Int := if a < b then -1 else if b < a then 1 else 0
def cmpK (x y : Key) : Int := if cmpI x.1 y.1 = 0 then cmpI x.2 y.2 else cmpI x.1 y.1
def ltK (x y : Key) : Bool := decide (x.1 < y.1) || (decide (x.1 = y.1) && decide (x.2 < y.2))

theorem cmpI_cases (a b : Int) : (a < b ∧ cmpI a b = -1) ∨ (b < a ∧ cmpI a b = 1) ∨ (a = b ∧ cmpI a b = 0) := by
  unfold cmpI
  by_cases h : a < b
  · exact .inl ⟨h, if_pos h⟩
  · by_cases h2 : b < a
    · exact .inr (.inl ⟨h2, by rw [if_neg h, if_pos h2]⟩)
    · exact .inr (.inr ⟨by omega, by rw [if_neg h, if_neg h2]⟩)
theorem cmpI_range (a b : Int) : -1 ≤ cmpI a b ∧ cmpI a b ≤ 1 := by rcases cmpI_cases a b with ⟨_, e⟩ | ⟨_, e⟩ | ⟨_, e⟩ <;> omega
theorem ltK_iff (x y : Key) : ltK x y = true ↔ x.1 < y.1 ∨ (x.1 = y.1 ∧ x.2 < y.2) := by simp [ltK]
theorem cmpK_cases (x y : Key) : (ltK x y = true ∧ ltK y x = false ∧ cmpK x y = -1) ∨ (ltK x y = false ∧ ltK y x = true ∧ cmpK x y = 1) ∨ (x = y ∧ ltK x y = false ∧ ltK y x = false ∧ cmpK x y = 0) := by
  obtain ⟨a, b⟩ := x
  obtain ⟨c, d⟩ := y
  have h1 := ltK_iff (a, b) (c, d)
  have h2 := ltK_iff (c, d) (a, b)
  simp only at h1 h2
  have e : cmpK (a, b) (c, d) = if cmpI a c = 0 then cmpI b d else cmpI a c := rfl
  rw [e]
  cases g1 : ltK (a, b) (c, d) <;> cases g2 : ltK (c, d) (a, b) <;> rw [g1] at h1 <;> rw [g2] at h2 <;> simp only [Bool.false_eq_true, false_iff, true_iff] at h1 h2 <;>
    rcases cmpI_cases a c with ⟨p, q⟩ | ⟨p, q⟩ | ⟨p, q⟩ <;> rcases cmpI_cases b d with ⟨r, s⟩ | ⟨r, s⟩ | ⟨r, s⟩ <;> simp [q, s] <;> omega
theorem cmpK_range (x y : Key) : -1 ≤ cmpK x y ∧ cmpK x y ≤ 1 := by
  rcases cmpK_cases x y with ⟨_, _, e⟩ | ⟨_, _, e⟩ | ⟨_, _, _, e⟩ <;> omega
theorem cmpK_lt (x y : Key) : decide (cmpK x y < 0) = ltK x y := by
  rcases cmpK_cases x y with ⟨h, _, e⟩ | ⟨h, _, e⟩ | ⟨_, h, _, e⟩ <;> rw [h, e] <;> decide
theorem ltK_irrefl (x : Key) : ltK x x = false := by
  have := ltK_iff x x
  cases h : ltK x x
  · rfl
  · rw [h] at this; simp at this
theorem ltK_trans (x y z : Key) (h1 : ltK x y = true) (h2 : ltK y z = true) : ltK x z = true := by
  rw [ltK_iff] at *; omega
theorem ltK_ntrans (x y z : Key) (h1 : ltK x y = false) (h2 : ltK y z = false) : ltK x z = false := by
  have a := ltK_iff x y; have b := ltK_iff y z; have c := ltK_iff x z
  rw [h1] at a; rw [h2] at b
  cases h : ltK x z
  · rfl
  · rw [h] at c; simp at a b c; omega
theorem ltK_total (x y : Key) (h1 : ltK x y = false) (h2 : ltK y x = false) : x = y := by
  rcases cmpK_cases x y with ⟨h, _, _⟩ | ⟨_, h, _⟩ | ⟨h, _⟩
  · rw [h1] at h; cases h
  · rw [h2] at h; cases h
  · exact h
theorem ltK_asymm (x y : Key) (h : ltK x y = true) : ltK y x = false := by
  rcases cmpK_cases x y with ⟨_, h', _⟩ | ⟨h', _, _⟩ | ⟨_, h', _⟩
  · exact h'
  · rw [h'] at h; cases h
  · rw [h'] at h; cases h

/-! How many of a list are less. -/
def placeK (l : List Key) (k : Key) : Nat := (l.filter fun x => ltK x k).length
theorem placeK_le (l : List Key) (k : Key) : placeK l k ≤ l.length := List.length_filter_le _ _
theorem placeK_snoc (l : List Key) (x k : Key) : placeK (l ++ [x]) k = placeK l k + if ltK x k = true then 1 else 0 := by
  unfold placeK
  rw [List.filter_append]
  by_cases h : ltK x k = true <;> simp [h]
theorem take_snoc {α : Type} (l : List α) (i : Nat) (h : i < l.length) : l.take (i + 1) = l.take i ++ [l[i]] := List.take_succ_eq_append_getElem h
theorem placeK_take (l : List Key) (k : Key) (i : Nat) (h : i < l.length) : placeK (l.take (i + 1)) k = placeK (l.take i) k + if ltK l[i] k = true then 1 else 0 := by
  rw [take_snoc l i h, placeK_snoc]
theorem placeK_perm {a b : List Key} (h : a.Perm b) (k : Key) : placeK a k = placeK b k := (h.filter _).length_eq

/-! Whether a list rises. -/
def risesTo (l : List Key) (n : Nat) : Prop := ∀ j x y, j + 1 < n → l[j]? = some x → l[j + 1]? = some y → ltK x y = true
def risingK (l : List Key) : Bool := (List.range (l.length - 1)).all fun j => match l[j]?, l[j + 1]? with | some x, some y => ltK x y | _, _ => true
theorem risingK_true (l : List Key) (h : risesTo l l.length) : risingK l = true := by
  unfold risingK
  rw [List.all_eq_true]
  intro j hj
  have hlt : j < l.length - 1 := List.mem_range.1 hj
  rw [List.getElem?_eq_getElem (by omega), List.getElem?_eq_getElem (by omega)]
  exact h j _ _ (by omega) (List.getElem?_eq_getElem (by omega)) (List.getElem?_eq_getElem (by omega))
theorem risingK_false (l : List Key) (j : Nat) (hj : j + 1 < l.length) (h : ltK l[j] l[j + 1] = false) : risingK l = false := by
  unfold risingK
  rw [List.all_eq_false]
  refine ⟨j, List.mem_range.2 (by omega), ?_⟩
  rw [List.getElem?_eq_getElem (by omega), List.getElem?_eq_getElem hj]
  simp [h]

theorem risesTo_zero (l : List Key) : risesTo l 1 := fun j x y h _ _ => by omega
theorem risesTo_step (l : List Key) (k : Nat) (hk : k + 1 < l.length) (h : risesTo l (k + 1)) (hc : ltK l[k] l[k + 1] = true) : risesTo l (k + 1 + 1) := by
  intro j x y hj hx hy
  by_cases e : j = k
  · subst e
    rw [List.getElem?_eq_getElem (by omega)] at hx hy
    simp only [Option.some.injEq] at hx hy
    rw [← hx, ← hy]
    exact hc
  · exact h j x y (by omega) hx hy

/-! Sorting. -/
def leK (x y : Key) : Bool := !ltK y x
def sortK (l : List Key) : List Key := l.mergeSort leK
theorem leK_trans (x y z : Key) (h1 : leK x y = true) (h2 : leK y z = true) : leK x z = true := by
  unfold leK at *
  simp only [Bool.not_eq_true'] at *
  exact ltK_ntrans z y x h2 h1
theorem leK_total (x y : Key) : (leK x y || leK y x) = true := by
  unfold leK
  rcases cmpK_cases x y with ⟨h, h', _⟩ | ⟨h, h', _⟩ | ⟨_, h, h', _⟩ <;> simp [h, h']
theorem sortK_perm (l : List Key) : (sortK l).Perm l := List.mergeSort_perm l leK
theorem sortK_pairwise (l : List Key) : (sortK l).Pairwise fun x y => leK x y = true := List.pairwise_mergeSort (fun a b c => leK_trans a b c) (fun a b => leK_total a b) l
theorem sortK_length (l : List Key) : (sortK l).length = l.length := (sortK_perm l).length_eq

/-- There is one sorted list of the same keys. -/
theorem sorted_unique : ∀ {a b : List Key}, a.Perm b → a.Pairwise (fun x y => leK x y = true) → b.Pairwise (fun x y => leK x y = true) → a = b
  | [], b, h, _, _ => by simpa using h.symm.eq_nil.symm
  | x :: a, [], h, _, _ => by simpa using h.eq_nil
  | x :: a, y :: b, h, ha, hb => by
    have hx : x = y := by
      rw [List.pairwise_cons] at ha hb
      have h1 : y ∈ x :: a := h.symm.subset (by simp)
      have h2 : x ∈ y :: b := h.subset (by simp)
      by_cases e : x = y
      · exact e
      · have g1 : leK x y = true := ha.1 y (by simpa [Ne.symm e] using h1)
        have g2 : leK y x = true := hb.1 x (by simpa [e] using h2)
        unfold leK at g1 g2
        simp only [Bool.not_eq_true'] at g1 g2
        exact ltK_total x y g2 g1
    subst hx
    rw [List.pairwise_cons] at ha hb
    rw [sorted_unique (List.Perm.cons_inv h) ha.2 hb.2]

theorem sortK_nil : sortK [] = [] := by simp [sortK]
/-- A key brought into a sorted list at its place. -/
theorem sortK_ins (q p : List Key) (x : Key) (k : Nat) (hp : p = sortK q) (hk : k ≤ p.length) (hge : ∀ j y, k ≤ j → p[j]? = some y → ltK x y = true) (hlt : ∀ y, 0 < k → p[k - 1]? = some y → ltK x y = false) :
    p.take k ++ x :: p.drop k = sortK (q ++ [x]) := by
  have hs := sortK_pairwise q
  rw [← hp] at hs
  have hperm : (p.take k ++ x :: p.drop k).Perm (q ++ [x]) := by
    have h1 : (p.take k ++ x :: p.drop k).Perm (x :: (p.take k ++ p.drop k)) := List.perm_middle
    rw [List.take_append_drop] at h1
    refine h1.trans ?_
    have h2 : (x :: p).Perm (x :: q) := by rw [hp]; exact (sortK_perm q).cons x
    exact h2.trans (List.perm_append_singleton x q).symm
  refine sorted_unique (hperm.trans (sortK_perm _).symm) ?_ (sortK_pairwise _)
  have hs2 := hs
  rw [← List.take_append_drop k p, List.pairwise_append] at hs
  rw [List.pairwise_append]
  refine ⟨hs.1, ?_, ?_⟩
  · rw [List.pairwise_cons]
    refine ⟨fun y hy => ?_, hs.2.1⟩
    obtain ⟨j, hj⟩ := List.getElem?_of_mem hy
    rw [List.getElem?_drop] at hj
    unfold leK
    rw [ltK_asymm _ _ (hge (k + j) y (by omega) hj)]
    rfl
  · intro a ha b hb
    rcases List.mem_cons.1 hb with rfl | hb
    · obtain ⟨j, hj⟩ := List.getElem?_of_mem ha
      have hjk : j < k := by
        have := (List.getElem?_eq_some_iff.1 hj).1
        simp at this
        omega
      rw [List.getElem?_take, if_pos hjk] at hj
      have hk1 : p[k - 1]? = some (p[k - 1]'(by omega)) := List.getElem?_eq_getElem (by omega)
      have h1 := hlt _ (by omega) hk1
      by_cases e : j = k - 1
      · subst e
        rw [hj] at hk1
        simp only [Option.some.injEq] at hk1
        unfold leK
        rw [hk1, h1]
        rfl
      · obtain ⟨hjl, hje⟩ := List.getElem?_eq_some_iff.1 hj
        have h2 := List.pairwise_iff_getElem.1 hs2 j (k - 1) hjl (by omega) (by omega)
        rw [hje] at h2
        refine leK_trans _ _ _ h2 ?_
        unfold leK
        rw [h1]
        rfl
    · exact hs.2.2 a ha b hb

/-! A key that is moved ahead in a list, step by step. -/
def insL (p : List Key) (j : Nat) (y : Key) : List Key := p.take j ++ y :: p.drop j
theorem insL_length {p : List Key} {j : Nat} (y : Key) (hj : j ≤ p.length) : (insL p j y).length = p.length + 1 := by simp [insL]; omega
theorem insL_end (p : List Key) (y : Key) : insL p p.length y = p ++ [y] := by simp [insL]
theorem insL_get {p : List Key} {j : Nat} (y : Key) (hj : j ≤ p.length) (t : Nat) : (insL p j y)[t]? = if t < j then p[t]? else if t = j then some y else p[t - 1]? := by
  unfold insL
  by_cases h : t < j
  · rw [if_pos h, List.getElem?_append_left (by simp; omega), List.getElem?_take, if_pos h]
  · rw [if_neg h, List.getElem?_append_right (by simp; omega)]
    have e : t - (p.take j).length = t - j := by simp; omega
    rw [e]
    by_cases h2 : t = j
    · rw [if_pos h2, show t - j = 0 by omega]; rfl
    · rw [if_neg h2, show t - j = (t - j - 1) + 1 by omega, List.getElem?_cons_succ, List.getElem?_drop]
      congr 1
      omega
theorem insL_set {p : List Key} {j : Nat} (y x : Key) (hj : j ≤ p.length) : (insL p j y).set j x = insL p j x := by
  apply List.ext_getElem?
  intro t
  rw [insL_get x hj]
  by_cases h : t = j
  · subst h
    rw [List.getElem?_set_self (by rw [insL_length y hj]; omega)]
    simp
  · rw [List.getElem?_set_ne (by omega), insL_get y hj]
    simp [h]
theorem insL_step {p : List Key} {t : Nat} (y : Key) (ht : t < p.length) : (insL p (t + 1) y).set (t + 1) p[t] = insL p t p[t] := by
  apply List.ext_getElem?
  intro i
  rw [insL_get _ (by omega)]
  by_cases h : i = t + 1
  · subst h
    rw [List.getElem?_set_self (by rw [insL_length y (by omega)]; omega), if_neg (by omega), if_neg (by omega), Nat.add_sub_cancel, List.getElem?_eq_getElem ht]
  · rw [List.getElem?_set_ne (by omega), insL_get y (by omega)]
    by_cases h1 : i < t
    · rw [if_pos (by omega), if_pos h1]
    · by_cases h2 : i = t
      · subst h2
        rw [if_pos (by omega), if_neg (by omega), if_pos rfl, List.getElem?_eq_getElem ht]
      · rw [if_neg (by omega), if_neg h, if_neg h1, if_neg h2]

/-- What stands behind is no less than what stands ahead. -/
theorem sortK_le (l : List Key) (i j : Nat) (x y : Key) (hij : i ≤ j) (hx : (sortK l)[i]? = some x) (hy : (sortK l)[j]? = some y) : ltK y x = false := by
  obtain ⟨hi, rfl⟩ := List.getElem?_eq_some_iff.1 hx
  obtain ⟨hj, rfl⟩ := List.getElem?_eq_some_iff.1 hy
  by_cases e : i = j
  · subst e; exact ltK_irrefl _
  · have := List.pairwise_iff_getElem.1 (sortK_pairwise l) i j hi hj (by omega)
    unfold leK at this
    simpa using this
/-- The place of a sorted key's first occurrence. -/
theorem placeK_sorted (l : List Key) (i : Nat) (x : Key) (hx : (sortK l)[i]? = some x) (hf : ∀ y, 0 < i → (sortK l)[i - 1]? = some y → y ≠ x) : placeK l x = i := by
  rw [← placeK_perm (sortK_perm l)]
  obtain ⟨hi, _⟩ := List.getElem?_eq_some_iff.1 hx
  have e : (sortK l) = (sortK l).take i ++ (sortK l).drop i := (List.take_append_drop _ _).symm
  unfold placeK
  rw [e, List.filter_append, List.length_append]
  have h1 : ((sortK l).take i).filter (fun y => ltK y x) = (sortK l).take i := by
    rw [List.filter_eq_self]
    intro y hy
    obtain ⟨j, hj⟩ := List.getElem?_of_mem hy
    have hji : j < i := by
      have := (List.getElem?_eq_some_iff.1 hj).1
      simp at this
      omega
    rw [List.getElem?_take, if_pos hji] at hj
    have hk : (sortK l)[i - 1]? = some ((sortK l)[i - 1]'(by omega)) := List.getElem?_eq_getElem (by omega)
    have hne := hf _ (by omega) hk
    have g1 := sortK_le l (i - 1) i _ _ (by omega) hk hx
    have g2 : ltK ((sortK l)[i - 1]'(by omega)) x = true := by
      cases h : ltK ((sortK l)[i - 1]'(by omega)) x
      · exact absurd (ltK_total _ _ h g1) hne
      · rfl
    have g3 := sortK_le l j (i - 1) _ _ (by omega) hj hk
    cases h : ltK y x
    · have := ltK_ntrans _ _ _ g3 h
      rw [g2] at this
      cases this
    · rfl
  have h2 : ((sortK l).drop i).filter (fun y => ltK y x) = [] := by
    rw [List.filter_eq_nil_iff]
    intro y hy
    obtain ⟨j, hj⟩ := List.getElem?_of_mem hy
    rw [List.getElem?_drop] at hj
    have := sortK_le l i (i + j) _ _ (by omega) hx hj
    simp [this]
  rw [h1, h2]
  simp
  omega
end Go.Proofs.YtjbfhnkjcfpfpaaDoor.OM
