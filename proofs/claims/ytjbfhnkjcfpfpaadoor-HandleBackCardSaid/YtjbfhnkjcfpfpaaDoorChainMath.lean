/- The chains that words tell, in plain lists: which references each has, which of them have no mark, what there is to find for a key. No program is named. -/
import Derived.Test.YtjbfhnkjcfpfpaaDoorSeekMath
import Derived.Test.YtjbfhnkjcfpfpaaDoorMem
namespace Go.Proofs.YtjbfhnkjcfpfpaaDoor.KM
open DM PM CM BM OM Runs
open Go.RowKit (wrap64)
set_option linter.unusedVariables false
set_option linter.unusedSimpArgs false

theorem idx_lo (r : Int) : 0 ≤ idx r := by unfold idx; omega
theorem idx_zero : idx 0 = 0 := rfl
def plainI (r : Int) : Int := r - r % 2
theorem plain_even (r : Int) : plainI r % 2 = 0 := by unfold plainI; omega

/-! Words. -/
/-- A way on. -/
def wayI (T L : Int) (m : List Int) (r h : Int) : Int := getI m (nextI T L (idx r) h)
/-- A timer's place in the order. -/
def keyI (T L : Int) (m : List Int) (r : Int) : Key := (wrap64 (getI m (atI T L (idx r) 1)), getI m (atI T L (idx r) 2))
theorem key_same {T L : Int} {m : List Int} {a b : Int} (h : idx a = idx b) : keyI T L m a = keyI T L m b := by unfold keyI; rw [h]
theorem way_same {T L : Int} {m : List Int} {a b h : Int} (e : idx a = idx b) : wayI T L m a h = wayI T L m b h := by unfold wayI; rw [e]

section
variable (nx : Int → Int) (key : Int → Key) (N : Int)
/-- Does a chain stop ahead of r? -/
def bars (out : List Int) (r : Int) : Bool := decide (N < idx r) || (match out.getLast? with
  | none => false
  | some q => !ltK (key q) (key r))
def chainF : Nat → List Int → Int → List Int × Bool
  | 0, out, _ => (out, false)
  | f + 1, out, r => if idx r = 0 then (out, decide (r = 0)) else if bars key N out r = true then (out, false) else chainF f (out ++ [r]) (plainI (nx r))
/-- A chain, from a reference on. -/
def Path : Int → List Int → Prop
  | r, [] => r = 0
  | r, c :: cs => r = c ∧ c % 2 = 0 ∧ 1 ≤ idx c ∧ idx c ≤ N ∧ Path (plainI (nx c)) cs
def Rises (l : List Int) : Prop := l.Pairwise fun a b => ltK (key a) (key b) = true
end
theorem rises_snoc {key : Int → Key} {out : List Int} {r : Int} (h : Rises key out) (hl : ∀ q, out.getLast? = some q → ltK (key q) (key r) = true) : Rises key (out ++ [r]) := by
  rw [Rises, List.pairwise_append]
  refine ⟨h, by simp, fun a ha b hb => ?_⟩
  simp only [List.mem_singleton] at hb
  subst hb
  cases hq : out.getLast? with
  | none => rw [List.getLast?_eq_none_iff] at hq; subst hq; cases ha
  | some q =>
    have h1 := hl q hq
    obtain ⟨ys, rfl⟩ := List.getLast?_eq_some_iff.1 hq
    rw [Rises, List.pairwise_append] at h
    rw [List.mem_append, List.mem_singleton] at ha
    rcases ha with ha | rfl
    · exact ltK_trans _ _ _ (h.2.2 a ha q (by simp)) h1
    · exact h1
theorem bars_no {key : Int → Key} {N : Int} {out : List Int} {r : Int} (h : bars key N out r = false) : idx r ≤ N ∧ ∀ q, out.getLast? = some q → ltK (key q) (key r) = true := by
  unfold bars at h
  rw [Bool.or_eq_false_iff, decide_eq_false_iff_not] at h
  refine ⟨by omega, fun q hq => ?_⟩
  have h2 := h.2
  rw [hq] at h2
  simpa using h2
theorem bars_is {key : Int → Key} {N : Int} {out : List Int} {r : Int} (h1 : idx r ≤ N) (h2 : ∀ q, out.getLast? = some q → ltK (key q) (key r) = true) : bars key N out r = false := by
  unfold bars
  rw [Bool.or_eq_false_iff, decide_eq_false_iff_not]
  refine ⟨by omega, ?_⟩
  cases hq : out.getLast? with
  | none => rfl
  | some q => simp [h2 q hq]
theorem chain_path {nx : Int → Int} {key : Int → Key} {N : Int} : ∀ (f : Nat) (out : List Int) (r : Int) (res : List Int), chainF nx key N f out r = (res, true) → r % 2 = 0 → Rises key out → ∃ cs, res = out ++ cs ∧ Path nx N r cs ∧ Rises key (out ++ cs)
  | 0, out, r, res, h, _, _ => by simp [chainF] at h
  | f + 1, out, r, res, h, he, hr => by
    unfold chainF at h
    split at h
    · simp only [Prod.mk.injEq, decide_eq_true_eq] at h
      exact ⟨[], by rw [List.append_nil, h.1], h.2, by rw [List.append_nil]; exact hr⟩
    · split at h
      · simp at h
      · obtain ⟨h1, h2⟩ := bars_no (by simpa using ‹¬ bars key N out r = true›)
        obtain ⟨cs, e1, e2, e3⟩ := chain_path f _ _ _ h (plain_even _) (rises_snoc hr h2)
        have := idx_lo r
        exact ⟨r :: cs, by rw [e1, List.append_assoc]; rfl, ⟨rfl, he, by omega, h1, e2⟩, by rw [List.append_assoc] at e3; exact e3⟩
theorem path_chain {nx : Int → Int} {key : Int → Key} {N : Int} : ∀ (cs : List Int) (f : Nat) (out : List Int) (r : Int), Path nx N r cs → Rises key (out ++ cs) → cs.length < f → chainF nx key N f out r = (out ++ cs, true)
  | [], f, out, r, hp, hr, hf => by
    obtain ⟨f, rfl⟩ : ∃ f', f = f' + 1 := ⟨f - 1, by simp at hf; omega⟩
    have hp : r = 0 := hp
    subst hp
    unfold chainF
    rw [if_pos idx_zero, List.append_nil]
    rfl
  | c :: cs, f, out, r, hp, hr, hf => by
    obtain ⟨f, rfl⟩ : ∃ f', f = f' + 1 := ⟨f - 1, by simp at hf; omega⟩
    obtain ⟨rfl, h1, h2, h3, h4⟩ := hp
    unfold chainF
    have e : out ++ r :: cs = (out ++ [r]) ++ cs := by rw [List.append_assoc]; rfl
    rw [if_neg (by omega), if_neg, e]
    · rw [e] at hr
      exact path_chain cs f (out ++ [r]) _ h4 hr (by simp at hf; omega)
    · rw [bars_is h3]
      · simp
      · intro q hq
        obtain ⟨ys, rfl⟩ := List.getLast?_eq_some_iff.1 hq
        rw [Rises, List.pairwise_append] at hr
        exact hr.2.2 q (by simp) r (by simp)
theorem path_in {nx : Int → Int} {N : Int} : ∀ (cs : List Int) (r : Int), Path nx N r cs → ∀ c ∈ cs, 1 ≤ idx c ∧ idx c ≤ N ∧ c % 2 = 0
  | [], _, _, c, hc => by cases hc
  | x :: cs, r, hp, c, hc => by
    obtain ⟨rfl, h1, h2, h3, h4⟩ := hp
    rcases List.mem_cons.1 hc with rfl | hc
    · exact ⟨h2, h3, h1⟩
    · exact path_in cs _ h4 c hc
/-- Ways that read the same along it. -/
theorem path_cong {nx nx' : Int → Int} {N : Int} : ∀ (cs : List Int) (r : Int), Path nx N r cs → (∀ c ∈ cs, nx' c = nx c) → Path nx' N r cs
  | [], _, hp, _ => hp
  | x :: cs, r, hp, he => by
    obtain ⟨rfl, h1, h2, h3, h4⟩ := hp
    refine ⟨rfl, h1, h2, h3, ?_⟩
    rw [he r (by simp)]
    exact path_cong cs _ h4 fun c hc => he c (by simp [hc])
/-- A member, and what is behind it. -/
theorem path_split {nx : Int → Int} {N : Int} : ∀ (A : List Int) (r p : Int) (cs : List Int), Path nx N r (A ++ p :: cs) → Path nx N (plainI (nx p)) cs
  | [], r, p, cs, hp => hp.2.2.2.2
  | x :: A, r, p, cs, hp => path_split A _ p cs hp.2.2.2.2
theorem path_join {nx : Int → Int} {N : Int} : ∀ (A : List Int) (r p : Int) (cs cs' : List Int), Path nx N r (A ++ p :: cs) → Path nx N (plainI (nx p)) cs' → Path nx N r (A ++ p :: cs')
  | [], r, p, cs, cs', hp, hq => ⟨hp.1, hp.2.1, hp.2.2.1, hp.2.2.2.1, hq⟩
  | x :: A, r, p, cs, cs', hp, hq => ⟨hp.1, hp.2.1, hp.2.2.1, hp.2.2.2.1, path_join A _ p cs cs' hp.2.2.2.2 hq⟩
/-- In what rises no slot is twice. -/
theorem rises_apart {key : Int → Key} {l : List Int} (h : Rises key l) (hk : ∀ a b, idx a = idx b → key a = key b) : l.Pairwise fun a b => idx a ≠ idx b :=
  List.Pairwise.imp (fun {a b} hab e => by rw [hk a b e, ltK_irrefl] at hab; cases hab) h
theorem rises_few {key : Int → Key} {N : Nat} {l : List Int} (h : Rises key l) (hk : ∀ a b, idx a = idx b → key a = key b) (hl : ∀ c ∈ l, 1 ≤ idx c ∧ idx c ≤ (N : Int)) : l.length ≤ N := by
  have hg : BM.Good N (l.map idx) := by
    refine ⟨?_, fun x hx => ?_⟩
    · rw [List.Nodup, List.pairwise_map]
      exact rises_apart h hk
    · obtain ⟨c, hc, rfl⟩ := List.mem_map.1 hx
      exact hl c hc
  have := good_len N _ hg
  rwa [List.length_map] at this

/-- The chain of a level; does it rise, of slots that there are, to its end? -/
def chainI (T L N : Int) (m : List Int) (h : Int) : List Int × Bool := if wayI T L m 0 h % 2 = 1 then ([], false) else chainF (fun r => wayI T L m r h) (keyI T L m) N (N.toNat + 1) [] (wayI T L m 0 h)
/-- Those of it without a mark. -/
def freeB (T L : Int) (m : List Int) (h r : Int) : Bool := !decide (wayI T L m r h % 2 = 1)
def keptL (T L N : Int) (m : List Int) (h : Int) : List Int := (chainI T L N m h).1.filter (freeB T L m h)
/-- What there is to find in a list: the last one that is less, the first one that is not. -/
def findL (lt : Int → Bool) : List Int → Int → Int × Int
  | [], p => (p, 0)
  | c :: cs, p => if lt c = true then findL lt cs c else (p, c)
/-- All chains rise, and whoever is in one without a mark is so in the one below. -/
def GoodW (T L N : Int) (m : List Int) : Prop := ∀ h : Nat, (h : Int) < L → (chainI T L N m h).2 = true ∧ ∀ g : Nat, h = g + 1 → ∀ r ∈ (chainI T L N m h).1, freeB T L m h r = true → r ∈ (chainI T L N m g).1 ∧ freeB T L m g r = true
def Chain (T L N : Int) (m : List Int) (h : Int) (cs : List Int) : Prop := wayI T L m 0 h % 2 = 0 ∧ Path (fun r => wayI T L m r h) N (wayI T L m 0 h) cs ∧ Rises (keyI T L m) cs
theorem chain_of {T L N : Int} {m : List Int} {h : Int} {cs : List Int} (e : chainI T L N m h = (cs, true)) : Chain T L N m h cs := by
  unfold chainI at e
  split at e
  · simp at e
  · obtain ⟨cs', e1, e2, e3⟩ := chain_path _ _ _ _ e (by omega) List.Pairwise.nil
    rw [List.nil_append] at e1 e3
    subst e1
    exact ⟨by omega, e2, e3⟩
theorem chain_is {T L : Int} {N : Nat} {m : List Int} {h : Int} {cs : List Int} (hN : N ≤ 64) (hc : Chain T L N m h cs) : chainI T L N m h = (cs, true) := by
  obtain ⟨h1, h2, h3⟩ := hc
  unfold chainI
  rw [if_neg (by omega)]
  have := rises_few h3 (fun a b e => key_same e) (fun c hc => ⟨(path_in _ _ h2 c hc).1, (path_in _ _ h2 c hc).2.1⟩)
  have e := path_chain cs ((N : Int).toNat + 1) [] _ h2 (by simpa using h3) (by omega)
  rwa [List.nil_append] at e

/-! Where the ways on are. -/
theorem mul_step {L i j : Nat} (h : i < j) (hi : 1 ≤ i) : (i - 1) * (6 + L) + (6 + L) ≤ (j - 1) * (6 + L) := by
  have h1 := Nat.mul_le_mul_right (6 + L) (show i ≤ j - 1 by omega)
  have e : i * (6 + L) = (i - 1) * (6 + L) + (6 + L) := by rw [← Nat.succ_mul]; congr 1; omega
  omega
theorem next_inj {T L i j h g : Nat} (hh : h < L) (hg : g < L) (e : nextN T L i h = nextN T L j g) : i = j ∧ h = g := by
  unfold nextN atN at e
  split at e <;> split at e
  · omega
  · have := Nat.zero_le ((j - 1) * (6 + L)); omega
  · have := Nat.zero_le ((i - 1) * (6 + L)); omega
  · rcases Nat.lt_trichotomy i j with h1 | h1 | h1
    · have := mul_step (L := L) h1 (by omega); omega
    · subst h1; omega
    · have := mul_step (L := L) h1 (by omega); omega
theorem next_at {T L i j h a : Nat} (hh : h < L) (hj : 1 ≤ j) (ha : a ≤ 5) : nextN T L i h ≠ atN T L j a := by
  intro e
  unfold nextN at e
  split at e
  · unfold atN at e; have := Nat.zero_le ((j - 1) * (6 + L)); omega
  · unfold atN at e
    rcases Nat.lt_trichotomy i j with h1 | h1 | h1
    · have := mul_step (L := L) h1 (by omega); omega
    · subst h1; omega
    · have := mul_step (L := L) h1 (by omega); omega
theorem next_in {T N L i h : Nat} (hi : i ≤ N) (hh : h < L) : nextN T L i h < wordsN T N L := by
  unfold nextN wordsN
  split
  · have := Nat.zero_le (N * (6 + L)); omega
  · unfold atN
    have h1 := Nat.mul_le_mul_right (6 + L) hi
    have e : i * (6 + L) = (i - 1) * (6 + L) + (6 + L) := by rw [← Nat.succ_mul]; congr 1; omega
    omega
section
variable {T N L : Nat}
theorem way_nat (hT : T ≤ 8) (hN : N ≤ 64) (hL : L ≤ 8) {r : Int} {h : Nat} (hr : idx r ≤ (N : Int)) (hh : h < L) : nextI (T : Int) (L : Int) (idx r) (h : Int) = ((nextN T L (idx r).toNat h : Nat) : Int) ∧ nextN T L (idx r).toNat h < wordsN T N L := by
  have h0 := idx_lo r
  refine ⟨?_, next_in (by omega) hh⟩
  have := next_cast (T := T) (L := L) (i := (idx r).toNat) (k := h) (by omega) (by omega) (by omega) (by omega)
  rwa [Int.toNat_of_nonneg h0] at this
theorem key_nat (hT : T ≤ 8) (hN : N ≤ 64) (hL : L ≤ 8) {r : Int} {a : Nat} (h1 : 1 ≤ idx r) (hr : idx r ≤ (N : Int)) (ha : a ≤ 5) : atI (T : Int) (L : Int) (idx r) (a : Int) = ((atN T L (idx r).toNat a : Nat) : Int) := by
  have h0 := idx_lo r
  have := at_cast (T := T) (L := L) (i := (idx r).toNat) (k := a) (by omega) (by omega) (by omega) (by omega) (by omega)
  rwa [Int.toNat_of_nonneg h0] at this
/-- A way on is turned. -/
theorem set_way (hT : T ≤ 8) (hN : N ≤ 64) (hL : L ≤ 8) {m : List Int} (hm : m.length = wordsN T N L) {p r v : Int} {h g : Nat} (hp : idx p ≤ (N : Int)) (hr : idx r ≤ (N : Int)) (hh : h < L) (hg : g < L) :
    wayI T L (setI m (nextI T L (idx p) h) v) r g = if idx r = idx p ∧ g = h then v else wayI T L m r g := by
  obtain ⟨e1, b1⟩ := way_nat hT hN hL hp hh
  obtain ⟨e2, b2⟩ := way_nat hT hN hL hr hg
  unfold wayI
  split
  · obtain ⟨q1, q2⟩ := ‹_›
    subst q2
    rw [q1]
    exact get_set (by rw [e1]; exact MM.there_in hm b1) v
  · refine get_other fun e => ?_
    rw [e1, e2] at e
    have := next_inj hh hg (show nextN T L (idx p).toNat h = nextN T L (idx r).toNat g by omega)
    have z1 := idx_lo r
    have z2 := idx_lo p
    exact absurd (show idx r = idx p ∧ g = h from ⟨by omega, by omega⟩) ‹¬ (idx r = idx p ∧ g = h)›
theorem set_key (hT : T ≤ 8) (hN : N ≤ 64) (hL : L ≤ 8) {m : List Int} {p r v : Int} {h : Nat} (hp : idx p ≤ (N : Int)) (h1 : 1 ≤ idx r) (hr : idx r ≤ (N : Int)) (hh : h < L) :
    keyI T L (setI m (nextI T L (idx p) h) v) r = keyI T L m r := by
  obtain ⟨e1, b1⟩ := way_nat hT hN hL hp hh
  have a1 := key_nat hT hN hL (a := 1) h1 hr (by omega)
  have a2 := key_nat hT hN hL (a := 2) h1 hr (by omega)
  have z1 := idx_lo r
  unfold keyI
  change atI _ _ _ 1 = _ at a1
  change atI _ _ _ 2 = _ at a2
  rw [get_other, get_other]
  · rw [e1, a2]; intro e; exact next_at hh (by omega) (by omega) (show nextN T L (idx p).toNat h = atN T L (idx r).toNat 2 by omega)
  · rw [e1, a1]; intro e; exact next_at hh (by omega) (by omega) (show nextN T L (idx p).toNat h = atN T L (idx r).toNat 1 by omega)
end
theorem find_past (lt : Int → Bool) : ∀ (A : List Int) (p : Int) (B : List Int) (q : Int), (∀ a ∈ A, lt a = true) → lt q = true → findL lt (A ++ q :: B) p = findL lt B q
  | [], p, B, q, _, hq => by rw [List.nil_append]; exact if_pos hq
  | a :: A, p, B, q, hA, hq => by
    show (if lt a = true then _ else _) = _
    rw [if_pos (hA a (by simp))]
    exact find_past lt A a B q (fun x hx => hA x (by simp [hx])) hq
theorem find_cong {lt lt' : Int → Bool} : ∀ (l : List Int) (p : Int), (∀ c ∈ l, lt c = lt' c) → findL lt l p = findL lt' l p
  | [], _, _ => rfl
  | c :: cs, p, h => by
    show (if lt c = true then _ else _) = (if lt' c = true then _ else _)
    rw [h c (by simp), find_cong cs c fun x hx => h x (by simp [hx])]
/-- Where it is found. -/
theorem find_where (lt : Int → Bool) : ∀ (l : List Int) (p : Int), (findL lt l p).1 = p ∨ ((findL lt l p).1 ∈ l ∧ lt (findL lt l p).1 = true)
  | [], _ => .inl rfl
  | c :: cs, p => by
    show (if lt c = true then findL lt cs c else (p, c)).1 = p ∨ _
    by_cases h : lt c = true
    · have e : findL lt (c :: cs) p = findL lt cs c := if_pos h
      rw [e]
      rcases find_where lt cs c with h1 | ⟨h1, h2⟩
      · exact .inr (by rw [h1]; exact ⟨by simp, h⟩)
      · exact .inr ⟨by simp [h1], h2⟩
    · exact .inl (by rw [if_neg h])
end Go.Proofs.YtjbfhnkjcfpfpaaDoor.KM
