/- A timer that is brought into a chain, in plain lists: behind the last one that is less, ahead of the first one that is not. No program is named. -/
import Derived.Test.YtjefjkpomohpiaaGreatDoorSeekAloneMath
namespace Go.Proofs.YtjefjkpomohpiaaGreatDoor.KM
set_option maxRecDepth 20000
open DM PM CM BM OM Runs
open Go.RowKit (wrap64)
set_option linter.unusedVariables false
set_option linter.unusedSimpArgs false

def lastD (A : List Int) (p : Int) : Int := A.getLast?.getD p
def headD (B : List Int) : Int := B.head?.getD 0
theorem last_snoc (A : List Int) (p q : Int) : lastD (A ++ [p]) q = p := by simp [lastD]
theorem last_cases (A : List Int) : A = [] ∨ ∃ A' p, A = A' ++ [p] := by
  rcases List.eq_nil_or_concat A with h | ⟨A', p, h⟩
  · exact .inl h
  · exact .inr ⟨A', p, by rw [h, List.concat_eq_append]⟩
theorem find_split (lt : Int → Bool) : ∀ (A : List Int) (p : Int) (B : List Int), (∀ a ∈ A, lt a = true) → (∀ b ∈ B, lt b = false) → findL lt (A ++ B) p = (lastD A p, headD B)
  | [], p, [], _, _ => rfl
  | [], p, b :: B, _, hB => if_neg (by rw [hB b (by simp)]; simp)
  | a :: A, p, B, hA, hB => by
    have e : findL lt (a :: A ++ B) p = findL lt (A ++ B) a := if_pos (hA a (by simp))
    rw [e, find_split lt A a B (fun x hx => hA x (by simp [hx])) hB]
    congr 1
    cases A with
    | nil => rfl
    | cons b A => simp [lastD, List.getLast?_cons]
theorem find_next (lt : Int → Bool) : ∀ (l : List Int) (p : Int), (findL lt l p).2 = 0 ∨ ((findL lt l p).2 ∈ l ∧ lt (findL lt l p).2 = false)
  | [], _ => .inl rfl
  | c :: cs, p => by
    by_cases h : lt c = true
    · have e : findL lt (c :: cs) p = findL lt cs c := if_pos h
      rw [e]
      exact (find_next lt cs c).imp id fun q => ⟨by simp [q.1], q.2⟩
    · have e : findL lt (c :: cs) p = (p, c) := if_neg h
      rw [e]
      exact .inr ⟨by simp, by simpa using h⟩
theorem path_head {nx : Int → Int} {N : Int} : ∀ {cs : List Int} {r : Int}, Path nx N r cs → r = headD cs
  | [], _, h => h
  | _ :: _, _, h => h.1
theorem head_even {nx : Int → Int} {N : Int} {cs : List Int} {r : Int} (h : Path nx N r cs) : r % 2 = 0 := by
  cases cs with
  | nil => rw [show r = 0 from h]; rfl
  | cons c cs => rw [h.1]; exact h.2.1
/-- What is behind the first one that is not less is not less. -/
theorem behind_not {T N L : Nat} {m : List Int} {h : Int} {B : List Int} {sc : Int} {lt : Int → Bool} {K : Key} (hp : Path (fun r => wayI T L m r h) N sc B) (hr : Rises (keyI T L m) B) (hlt : ∀ b ∈ B, ltK (keyI T L m b) K = lt b) (hs : sc = 0 ∨ lt sc = false) : ∀ b ∈ B, lt b = false := by
  cases B with
  | nil => intro b hb; cases hb
  | cons c cs =>
    obtain ⟨rfl, h1, h2, -, -⟩ := hp
    have hc : lt sc = false := hs.elim (fun e => by rw [e, idx_zero] at h2; omega) id
    intro b hb
    rcases List.mem_cons.1 hb with rfl | hb
    · exact hc
    · cases e : lt b with
      | false => rfl
      | true =>
        have h3 := ltK_trans _ _ _ ((List.pairwise_cons.1 hr).1 b hb) (by rw [hlt b (by simp [hb])]; exact e)
        rw [hlt sc (by simp)] at h3
        rw [h3] at hc
        cases hc
/-- A level that was sought: the last one that is less, and the first one that is not, stand side by side. -/
theorem Sought.split {T N L g : Nat} {lt : Int → Bool} {l m : List Int} {K : Key} (h : Sought T N L lt l m g) (hlt : ∀ c : Int, 1 ≤ idx c → idx c ≤ (N : Int) → ltK (keyI T L m c) K = lt c) :
    ∃ A B, Chain T L N m g (A ++ B) ∧ (A ++ B).Sublist (chainI T L N l g).1 ∧ (A ++ B).filter (freeB T L m g) = keptL T L N l g ∧ (∀ a ∈ A, lt a = true) ∧ (∀ b ∈ B, lt b = false) ∧ lastD A 0 = (resL T L N lt l g).1 ∧ headD B = (resL T L N lt l g).2 ∧ wayI T L m (lastD A 0) g = headD B := by
  obtain ⟨cl, h1, h2, h3, h4, -⟩ := h
  have hin := path_in _ _ h1.2.1
  have hw := find_where lt (keptL T L N l g) 0
  have hn := find_next lt (keptL T L N l g) 0
  change (resL T L N lt l g).1 = 0 ∨ ((resL T L N lt l g).1 ∈ _ ∧ lt (resL T L N lt l g).1 = true) at hw
  change (resL T L N lt l g).2 = 0 ∨ ((resL T L N lt l g).2 ∈ _ ∧ lt (resL T L N lt l g).2 = false) at hn
  generalize (resL T L N lt l g).1 = p at h4 hw ⊢
  generalize (resL T L N lt l g).2 = s at h4 hn ⊢
  have hs := hn.imp id And.right
  rcases hw with rfl | ⟨hp, hpl⟩
  · have hq := h1.2.1
    rw [h4] at hq
    have hB := behind_not (lt := lt) (K := K) hq h1.2.2 (fun b hb => hlt b (hin b hb).1 (hin b hb).2.1) hs
    exact ⟨[], cl, h1, h2, h3, fun a ha => (by cases ha), hB, rfl, (path_head hq).symm, by rw [← path_head hq]; exact h4⟩
  · rw [← h3] at hp
    obtain ⟨hpc, hpf⟩ := List.mem_filter.1 hp
    obtain ⟨A, B, rfl⟩ := List.append_of_mem hpc
    have hpath := path_split A _ p B h1.2.1
    have hev : plainI (wayI T L m p g) = s := by
      unfold freeB at hpf
      simp at hpf
      rw [← h4]
      unfold plainI
      omega
    rw [hev] at hpath
    have hr := h1.2.2
    rw [Rises, List.pairwise_append, List.pairwise_cons] at hr
    have hB := behind_not (lt := lt) (K := K) hpath hr.2.1.2 (fun b hb => hlt b (hin b (by simp [hb])).1 (hin b (by simp [hb])).2.1) hs
    have e : (A ++ [p]) ++ B = A ++ p :: B := by simp
    refine ⟨A ++ [p], B, e ▸ h1, e ▸ h2, by rw [e]; exact h3, fun a ha => ?_, hB, last_snoc A p 0, (path_head hpath).symm, by rw [last_snoc, ← path_head hpath]; exact h4⟩
    rw [List.mem_append, List.mem_singleton] at ha
    rcases ha with ha | rfl
    · have h5 := hin a (by simp [ha])
      rw [← hlt a h5.1 h5.2.1]
      refine ltK_trans _ _ _ (hr.2.2 a ha p (by simp)) ?_
      rw [hlt p (hin p (by simp)).1 (hin p (by simp)).2.1]
      exact hpl
    · exact hpl
/-- It hangs there. -/
theorem hang {T N L h : Nat} (hT : T ≤ 8) (hN : N ≤ 64) (hL : L ≤ 8) (hh : h < L) {m A B : List Int} {r : Int} (hm : m.length = wordsN T N L) (hc : Chain T L N m h (A ++ B)) (h1 : 1 ≤ idx r) (h2 : idx r ≤ (N : Int)) (he : r % 2 = 0) (hap : ∀ c ∈ A ++ B, idx c ≠ idx r)
    (hw : wayI T L m r h = headD B) (hp : wayI T L m (lastD A 0) h = headD B) (hA : ∀ a ∈ A, ltK (keyI T L m a) (keyI T L m r) = true) (hB : ∀ b ∈ B, ltK (keyI T L m r) (keyI T L m b) = true) :
    Chain T L N (setI m (nextI T L (idx (lastD A 0)) h) r) h (A ++ r :: B) ∧ (A ++ r :: B).filter (freeB T L (setI m (nextI T L (idx (lastD A 0)) h) r) h) = A.filter (freeB T L m h) ++ r :: B.filter (freeB T L m h) := by
  have hin := path_in _ _ hc.2.1
  have hli : idx (lastD A 0) ≤ (N : Int) ∧ idx r ≠ idx (lastD A 0) ∧ ∀ b ∈ B, idx b ≠ idx (lastD A 0) := by
    rcases last_cases A with rfl | ⟨A', p, rfl⟩
    · have e : lastD [] 0 = 0 := rfl
      rw [e, idx_zero]
      exact ⟨by omega, by omega, fun b hb => by have := (hin b (by simpa using hb)).1; omega⟩
    · rw [last_snoc]
      refine ⟨(hin p (by simp)).2.1, fun e => hap p (by simp) e.symm, fun b hb e => ?_⟩
      have := rises_apart hc.2.2 fun a b e => key_same e
      rw [List.pairwise_append] at this
      exact this.2.2 p (by simp) b hb e.symm
  have hset := fun {x : Int} {g : Nat} (a : idx x ≤ (N : Int)) (b : g < L) => set_way (v := r) hT hN hL hm hli.1 a hh b
  have hkey := fun {x : Int} (a : 1 ≤ idx x) (b : idx x ≤ (N : Int)) => set_key (m := m) (v := r) hT hN hL hli.1 a b hh
  obtain ⟨m', hm'⟩ : ∃ m', m' = setI m (nextI T L (idx (lastD A 0)) h) r := ⟨_, rfl⟩
  rw [← hm'] at hset hkey ⊢
  clear hm'
  have hsame : ∀ x : Int, idx x ≤ (N : Int) → idx x ≠ idx (lastD A 0) → wayI T L m' x h = wayI T L m x h := fun x a b => by rw [hset a hh, if_neg fun q => b q.1]
  have hlast : wayI T L m' (lastD A 0) h = r := by rw [hset hli.1 hh, if_pos ⟨rfl, rfl⟩]
  have hwr : wayI T L m' r h = headD B := by rw [hsame r h2 hli.2.1]; exact hw
  have hpB : Path (fun x => wayI T L m x h) N (headD B) B := by
    rcases last_cases A with rfl | ⟨A', p, rfl⟩
    · have := hc.2.1
      rwa [path_head this] at this
    · have e : (A' ++ [p]) ++ B = A' ++ p :: B := by simp
      have := path_split A' _ p B (e ▸ hc.2.1)
      rwa [path_head this] at this
  have hev := head_even hpB
  have hpB' : Path (fun x => wayI T L m' x h) N (headD B) B := path_cong B _ hpB fun b hb => hsame b (hin b (by simp [hb])).2.1 (hli.2.2 b hb)
  have hpr : Path (fun x => wayI T L m' x h) N r (r :: B) := ⟨rfl, he, h1, h2, by
    show Path _ _ (plainI (wayI T L m' r h)) B
    rw [hwr, show plainI (headD B) = headD B by unfold plainI; omega]
    exact hpB'⟩
  have hfree : ∀ x : Int, idx x ≤ (N : Int) → freeB T L m' h x = freeB T L m h x := fun x a => by
    unfold freeB
    by_cases e : idx x = idx (lastD A 0)
    · rw [way_same (m := m') e, way_same (m := m) e, hlast, hp, he, hev]
    · rw [hsame x a e]
  refine ⟨⟨?_, ?_, ?_⟩, ?_⟩
  · have h0 := hc.1
    by_cases e : idx 0 = idx (lastD A 0)
    · rw [way_same (m := m') e, hlast]; exact he
    · rw [hsame 0 (by rw [idx_zero]; omega) e]; exact h0
  · rcases last_cases A with rfl | ⟨A', p, rfl⟩
    · show Path _ _ (wayI T L m' 0 h) (r :: B)
      rw [show wayI T L m' 0 h = r from hlast]
      exact hpr
    · have e : (A' ++ [p]) ++ r :: B = A' ++ p :: (r :: B) := by simp
      have e2 : (A' ++ [p]) ++ B = A' ++ p :: B := by simp
      rw [last_snoc] at hlast hsame hli
      have hap2 := rises_apart hc.2.2 fun a b e => key_same e
      rw [e2, List.pairwise_append] at hap2
      have h0 : wayI T L m' 0 h = wayI T L m 0 h := hsame 0 (by rw [idx_zero]; omega) (by rw [idx_zero]; have := (hin p (by simp)).1; omega)
      rw [e, h0]
      have hc2 := hc.2.1
      rw [e2] at hc2
      refine path_pre A' _ p B (r :: B) hc2 (fun a ha => hsame a (hin a (by simp [ha])).2.1 (hap2.2.2 a ha p (by simp))) ?_
      show Path _ _ (plainI (wayI T L m' p h)) (r :: B)
      rw [hlast, show plainI r = r by unfold plainI; omega]
      exact hpr
  · have hr := hc.2.2
    rw [Rises, List.pairwise_append] at hr ⊢
    have hkA := fun a (ha : a ∈ A) => hkey (hin a (by simp [ha])).1 (hin a (by simp [ha])).2.1
    have hkB := fun b (hb : b ∈ B) => hkey (hin b (by simp [hb])).1 (hin b (by simp [hb])).2.1
    have hkr := hkey h1 h2
    refine ⟨List.Pairwise.imp_of_mem (fun {a b} ha hb hab => by rw [hkA a ha, hkA b hb]; exact hab) hr.1, List.pairwise_cons.2 ⟨fun b hb => by rw [hkr, hkB b hb]; exact hB b hb, List.Pairwise.imp_of_mem (fun {a b} ha hb hab => by rw [hkB a ha, hkB b hb]; exact hab) hr.2.1⟩, fun a ha b hb => ?_⟩
    rcases List.mem_cons.1 hb with rfl | hb
    · rw [hkA a ha, hkr]; exact hA a ha
    · rw [hkA a ha, hkB b hb]; exact hr.2.2 a ha b hb
  · rw [List.filter_append, List.filter_cons_of_pos (by unfold freeB; rw [hwr, hev]; rfl)]
    congr 1
    · exact List.filter_congr fun a ha => hfree a (hin a (by simp [ha])).2.1
    · congr 1
      exact List.filter_congr fun b hb => hfree b (hin b (by simp [hb])).2.1
end Go.Proofs.YtjefjkpomohpiaaGreatDoor.KM
