import Derived.Test.YtiejfhipkolmhaaGreatDoorFinishOutsAllP1
/- A timer that is brought into a chain, in plain lists: behind the last one that is less, ahead of the first one that is not. No program is named. -/
namespace Go.Proofs.YtiejfhipkolmhaaGreatDoor.KM
set_option maxRecDepth 20000
open DM PM CM BM OM Runs
open Go.RowKit (wrap64)
set_option linter.unusedVariables false
set_option linter.unusedSimpArgs false

def lastD (A : List Int) (p : Int) : Int := A.getLast?.getD p
def headD (B : List Int) : Int := B.head?.getD 0
theorem last_snoc (A : List Int) (p q : Int) : lastD (A ++ [p]) q = p := by simp [lastD]
theorem last_cases (A : List Int) : A = [] ∨ ∃ A' p, A = A' ++ [p] := by
  rcases List.eq_nil_or_concat A with h | ⟨A', p, h⟩
  · exact .inl h
  · exact .inr ⟨A', p, by rw [h, List.concat_eq_append]⟩
theorem find_split (lt : Int → Bool) : ∀ (A : List Int) (p : Int) (B : List Int), (∀ a ∈ A, lt a = true) → (∀ b ∈ B, lt b = false) → findL lt (A ++ B) p = (lastD A p, headD B)
  | [], p, [], _, _ => rfl
  | [], p, b :: B, _, hB => if_neg (by rw [hB b (by simp)]; simp)
  | a :: A, p, B, hA, hB => by
    have e : findL lt (a :: A ++ B) p = findL lt (A ++ B) a := if_pos (hA a (by simp))
    rw [e, find_split lt A a B (fun x hx => hA x (by simp [hx])) hB]
    congr 1
    cases A with
    | nil => rfl
    | cons b A => simp [lastD, List.getLast?_cons]
theorem find_next (lt : Int → Bool) : ∀ (l : List Int) (p : Int), (findL lt l p).2 = 0 ∨ ((findL lt l p).2 ∈ l ∧ lt (findL lt l p).2 = false)
  | [], _ => .inl rfl
  | c :: cs, p => by
    by_cases h : lt c = true
    · have e : findL lt (c :: cs) p = findL lt cs c := if_pos h
      rw [e]
      exact (find_next lt cs c).imp id fun q => ⟨by simp [q.1], q.2⟩
    · have e : findL lt (c :: cs) p = (p, c) := if_neg h
      rw [e]
      exact .inr ⟨by simp, by simpa using h⟩
theorem path_head {nx : Int → Int} {N : Int} : ∀ {cs : List Int} {r : Int}, Path nx N r cs → r = headD cs
  | [], _, h => h
  | _ :: _, _, h => h.1
theorem head_even {nx : Int → Int} {N : Int} {cs : List Int} {r : Int} (h : Path nx N r cs) : r % 2 = 0 := by
  cases cs with
  | nil => rw [show r = 0 from h]; rfl
  | cons c cs => rw [h.1]; exact h.2.1
/-- What is behind the first one that is not less is not less. -/
theorem behind_not {T N L : Nat} {m : List Int} {h : Int} {B : List Int} {sc : Int} {lt : Int → Bool} {K : Key} (hp : Path (fun r => wayI T L m r h) N sc B) (hr : Rises (keyI T L m) B) (hlt : ∀ b ∈ B, ltK (keyI T L m b) K = lt b) (hs : sc = 0 ∨ lt sc = false) : ∀ b ∈ B, lt b = false := by
  cases B with
  | nil => intro b hb; cases hb
  | cons c cs =>
    obtain ⟨rfl, h1, h2, -, -⟩ := hp
    have hc : lt sc = false := hs.elim (fun e => by rw [e, idx_zero] at h2; omega) id
    intro b hb
    rcases List.mem_cons.1 hb with rfl | hb
    · exact hc
    · cases e : lt b with
      | false => rfl
      | true =>
        have h3 := ltK_trans _ _ _ ((List.pairwise_cons.1 hr).1 b hb) (by rw [hlt b (by simp [hb])]; exact e)
        rw [hlt sc (by simp)] at h3
        rw [h3] at hc
        cases hc
/-- A level that was sought: the last one that is less, and the first one that is not, stand side by side. -/
theorem Sought.split {T N L g : Nat} {lt : Int → Bool} {l m : List Int} {K : Key} (h : Sought T N L lt l m g) (hlt : ∀ c : Int, 1 ≤ idx c → idx c ≤ (N : Int) → ltK (keyI T L m c) K = lt c) :
    ∃ A B, Chain T L N m g (A ++ B) ∧ (A ++ B).Sublist (chainI T L N l g).1 ∧ (A ++ B).filter (freeB T L m g) = keptL T L N l g ∧ (∀ a ∈ A, lt a = true) ∧ (∀ b ∈ B, lt b = false) ∧ lastD A 0 = (resL T L N lt l g).1 ∧ headD B = (resL T L N lt l g).2 ∧ wayI T L m (lastD A 0) g = headD B := by
  obtain ⟨cl, h1, h2, h3, h4, -⟩ := h
  have hin := path_in _ _ h1.2.1
  have hw := find_where lt (keptL T L N l g) 0
  have hn := find_next lt (keptL T L N l g) 0
  change (resL T L N lt l g).1 = 0 ∨ ((resL T L N lt l g).1 ∈ _ ∧ lt (resL T L N lt l g).1 = true) at hw
  change (resL T L N lt l g).2 = 0 ∨ ((resL T L N lt l g).2 ∈ _ ∧ lt (resL T L N lt l g).2 = false) at hn
  generalize (resL T L N lt l g).1 = p at h4 hw ⊢
  generalize (resL T L N lt l g).2 = s at h4 hn ⊢
  have hs := hn.imp id And.right
  rcases hw with rfl | ⟨hp, hpl⟩
  · have hq := h1.2.1
    rw [h4] at hq
    have hB := behind_not (lt := lt) (K := K) hq h1.2.2 (fun b hb => hlt b (hin b hb).1 (hin b hb).2.1) hs
    exact ⟨[], cl, h1, h2, h3, fun a ha => (by cases ha), hB, rfl, (path_head hq).symm, by rw [← path_head hq]; exact h4⟩
  · rw [← h3] at hp
    obtain ⟨hpc, hpf⟩ := List.mem_filter.1 hp
    obtain ⟨A, B, rfl⟩ := List.append_of_mem hpc
    have hpath := path_split A _ p B h1.2.1
    have hev : plainI (wayI T L m p g) = s := by
      unfold freeB at hpf
      simp at hpf
      rw [← h4]
      unfold plainI
      omega
    rw [hev] at hpath
    have hr := h1.2.2
    rw [Rises, List.pairwise_append, List.pairwise_cons] at hr
    have hB := behind_not (lt := lt) (K := K) hpath hr.2.1.2 (fun b hb => hlt b (hin b (by simp [hb])).1 (hin b (by simp [hb])).2.1) hs
    have e : (A ++ [p]) ++ B = A ++ p :: B := by simp
    refine ⟨A ++ [p], B, e ▸ h1, e ▸ h2, by rw [e]; exact h3, fun a ha => ?_, hB, last_snoc A p 0, (path_head hpath).symm, by rw [last_snoc, ← path_head hpath]; exact h4⟩
    rw [List.mem_append, List.mem_singleton] at ha
    rcases ha with ha | rfl
    · have h5 := hin a (by simp [ha])
      rw [← hlt a h5.1 h5.2.1]
      refine ltK_trans _ _ _ (hr.2.2 a ha p (by simp)) ?_
      rw [hlt p (hin p (by simp)).1 (hin p (by simp)).2.1]
      exact hpl
    · exact hpl
/-- It hangs there. -/
theorem hang {T N L h : Nat} (hT : T ≤ 8) (hN : N ≤ 64) (hL : L ≤ 8) (hh : h < L) {m A B : List Int} {r : Int} (hm : m.length = wordsN T N L) (hc : Chain T L N m h (A ++ B)) (h1 : 1 ≤ idx r) (h2 : idx r ≤ (N : Int)) (he : r % 2 = 0) (hap : ∀ c ∈ A ++ B, idx c ≠ idx r)
    (hw : wayI T L m r h = headD B) (hp : wayI T L m (lastD A 0) h = headD B) (hA : ∀ a ∈ A, ltK (keyI T L m a) (keyI T L m r) = true) (hB : ∀ b ∈ B, ltK (keyI T L m r) (keyI T L m b) = true) :
    Chain T L N (setI m (nextI T L (idx (lastD A 0)) h) r) h (A ++ r :: B) ∧ (A ++ r :: B).filter (freeB T L (setI m (nextI T L (idx (lastD A 0)) h) r) h) = A.filter (freeB T L m h) ++ r :: B.filter (freeB T L m h) := by
  have hin := path_in _ _ hc.2.1
  have hli : idx (lastD A 0) ≤ (N : Int) ∧ idx r ≠ idx (lastD A 0) ∧ ∀ b ∈ B, idx b ≠ idx (lastD A 0) := by
    rcases last_cases A with rfl | ⟨A', p, rfl⟩
    · have e : lastD [] 0 = 0 := rfl
      rw [e, idx_zero]
      exact ⟨by omega, by omega, fun b hb => by have := (hin b (by simpa using hb)).1; omega⟩
    · rw [last_snoc]
      refine ⟨(hin p (by simp)).2.1, fun e => hap p (by simp) e.symm, fun b hb e => ?_⟩
      have := rises_apart hc.2.2 fun a b e => key_same e
      rw [List.pairwise_append] at this
      exact this.2.2 p (by simp) b hb e.symm
  have hset := fun {x : Int} {g : Nat} (a : idx x ≤ (N : Int)) (b : g < L) => set_way (v := r) hT hN hL hm hli.1 a hh b
  have hkey := fun {x : Int} (a : 1 ≤ idx x) (b : idx x ≤ (N : Int)) => set_key (m := m) (v := r) hT hN hL hli.1 a b hh
  obtain ⟨m', hm'⟩ : ∃ m', m' = setI m (nextI T L (idx (lastD A 0)) h) r := ⟨_, rfl⟩
  rw [← hm'] at hset hkey ⊢
  clear hm'
  have hsame : ∀ x : Int, idx x ≤ (N : Int) → idx x ≠ idx (lastD A 0) → wayI T L m' x h = wayI T L m x h := fun x a b => by rw [hset a hh, if_neg fun q => b q.1]
  have hlast : wayI T L m' (lastD A 0) h = r := by rw [hset hli.1 hh, if_pos ⟨rfl, rfl⟩]
  have hwr : wayI T L m' r h = headD B := by rw [hsame r h2 hli.2.1]; exact hw
  have hpB : Path (fun x => wayI T L m x h) N (headD B) B := by
    rcases last_cases A with rfl | ⟨A', p, rfl⟩
    · have := hc.2.1
      rwa [path_head this] at this
    · have e : (A' ++ [p]) ++ B = A' ++ p :: B := by simp
      have := path_split A' _ p B (e ▸ hc.2.1)
      rwa [path_head this] at this
  have hev := head_even hpB
  have hpB' : Path (fun x => wayI T L m' x h) N (headD B) B := path_cong B _ hpB fun b hb => hsame b (hin b (by simp [hb])).2.1 (hli.2.2 b hb)
  have hpr : Path (fun x => wayI T L m' x h) N r (r :: B) := ⟨rfl, he, h1, h2, by
    show Path _ _ (plainI (wayI T L m' r h)) B
    rw [hwr, show plainI (headD B) = headD B by unfold plainI; omega]
    exact hpB'⟩
  have hfree : ∀ x : Int, idx x ≤ (N : Int) → freeB T L m' h x = freeB T L m h x := fun x a => by
    unfold freeB
    by_cases e : idx x = idx (lastD A 0)
    · rw [way_same (m := m') e, way_same (m := m) e, hlast, hp, he, hev]
    · rw [hsame x a e]
  refine ⟨⟨?_, ?_, ?_⟩, ?_⟩
  · have h0 := hc.1
    by_cases e : idx 0 = idx (lastD A 0)
    · rw [way_same (m := m') e, hlast]; exact he
    · rw [hsame 0 (by rw [idx_zero]; omega) e]; exact h0
  · rcases last_cases A with rfl | ⟨A', p, rfl⟩
    · show Path _ _ (wayI T L m' 0 h) (r :: B)
      rw [show wayI T L m' 0 h = r from hlast]
      exact hpr
    · have e : (A' ++ [p]) ++ r :: B = A' ++ p :: (r :: B) := by simp
      have e2 : (A' ++ [p]) ++ B = A' ++ p :: B := by simp
      rw [last_snoc] at hlast hsame hli
      have hap2 := rises_apart hc.2.2 fun a b e => key_same e
      rw [e2, List.pairwise_append] at hap2
      have h0 : wayI T L m' 0 h = wayI T L m 0 h := hsame 0 (by rw [idx_zero]; omega) (by rw [idx_zero]; have := (hin p (by simp)).1; omega)
      rw [e, h0]
      have hc2 := hc.2.1
      rw [e2] at hc2
      refine path_pre A' _ p B (r :: B) hc2 (fun a ha => hsame a (hin a (by simp [ha])).2.1 (hap2.2.2 a ha p (by simp))) ?_
      show Path _ _ (plainI (wayI T L m' p h)) (r :: B)
      rw [hlast, show plainI r = r by unfold plainI; omega]
      exact hpr
  · have hr := hc.2.2
    rw [Rises, List.pairwise_append] at hr ⊢
    have hkA := fun a (ha : a ∈ A) => hkey (hin a (by simp [ha])).1 (hin a (by simp [ha])).2.1
    have hkB := fun b (hb : b ∈ B) => hkey (hin b (by simp [hb])).1 (hin b (by simp [hb])).2.1
    have hkr := hkey h1 h2
    refine ⟨List.Pairwise.imp_of_mem (fun {a b} ha hb hab => by rw [hkA a ha, hkA b hb]; exact hab) hr.1, List.pairwise_cons.2 ⟨fun b hb => by rw [hkr, hkB b hb]; exact hB b hb, List.Pairwise.imp_of_mem (fun {a b} ha hb hab => by rw [hkB a ha, hkB b hb]; exact hab) hr.2.1⟩, fun a ha b hb => ?_⟩
    rcases List.mem_cons.1 hb with rfl | hb
    · rw [hkA a ha, hkr]; exact hA a ha
    · rw [hkA a ha, hkB b hb]; exact hr.2.2 a ha b hb
  · rw [List.filter_append, List.filter_cons_of_pos (by unfold freeB; rw [hwr, hev]; rfl)]
    congr 1
    · exact List.filter_congr fun a ha => hfree a (hin a (by simp [ha])).2.1
    · congr 1
      exact List.filter_congr fun b hb => hfree b (hin b (by simp [hb])).2.1
end Go.Proofs.YtiejfhipkolmhaaGreatDoor.KM

/- Linking, in plain arithmetic: what a linker asks for, and what it becomes. No program is named. -/
namespace Go.Proofs.YtiejfhipkolmhaaGreatDoor.LiM
set_option maxRecDepth 20000
open DM PM CM KM Runs
open Go.RowKit (wrap64)
set_option linter.unusedVariables false
set_option linter.unusedSimpArgs false

/-- A linker: its step (0 done, 1 seeks, 2 stores, 3 swaps), the level at which it stores, its seeker, and what that found. -/
structure St where
  st : Int
  lv : Int
  sk : KM.St
  ps : List Int
  ss : List Int
/-- On to a level. -/
def goOn (tall L : Int) (sk : KM.St) (ps ss : List Int) (lv : Int) : St := ⟨if lv < min tall L then 2 else 3, lv, sk, ps, ss⟩
def begin (L lv : Int) : St := ⟨1, lv, anew L 0 0, [], []⟩
/-- The seeker was told a word. -/
def keep (tall L lv : Int) (sk : KM.St) (ps ss : List Int) : St := if sk.st = 0 then goOn tall L sk sk.ps.reverse sk.ss.reverse 0 else ⟨1, lv, sk, ps, ss⟩
def linkA (T L r : Int) (s : St) : Option D :=
  if s.st = 1 then seekA T L s.sk else if s.st = 2 then some (2, nextI T L (idx r) s.lv, s.ss.getD s.lv.toNat 0, 0, r) else if s.st = 3 then some (3, nextI T L (idx (s.ps.getD 0 0)) 0, s.ss.getD 0 0, r, s.ps.getD 0 0) else none
def linkT (L dl sq tall : Int) (s : St) (f : Int) : St :=
  if s.st = 1 then keep tall L s.lv (seekT L dl sq s.sk f) s.ps s.ss else if s.st = 2 then goOn tall L s.sk s.ps s.ss (s.lv + 1) else
  if s.st = 3 then (if f = s.ss.getD 0 0 then ⟨0, s.lv, s.sk, s.ps, s.ss⟩ else begin L s.lv) else s
section
variable {T L r dl sq tall lv f : Int} {sk : KM.St} {ps ss : List Int}
theorem linkA_0 : linkA T L r ⟨0, lv, sk, ps, ss⟩ = none := by simp [linkA]
theorem linkA_1 : linkA T L r ⟨1, lv, sk, ps, ss⟩ = seekA T L sk := by simp [linkA]
theorem linkA_2 : linkA T L r ⟨2, lv, sk, ps, ss⟩ = some (2, nextI T L (idx r) lv, ss.getD lv.toNat 0, 0, r) := by simp [linkA]
theorem linkA_3 : linkA T L r ⟨3, lv, sk, ps, ss⟩ = some (3, nextI T L (idx (ps.getD 0 0)) 0, ss.getD 0 0, r, ps.getD 0 0) := by simp [linkA]
theorem linkT_0 : linkT L dl sq tall ⟨0, lv, sk, ps, ss⟩ f = ⟨0, lv, sk, ps, ss⟩ := by simp [linkT]
theorem linkT_1 : linkT L dl sq tall ⟨1, lv, sk, ps, ss⟩ f = keep tall L lv (seekT L dl sq sk f) ps ss := by simp [linkT]
theorem linkT_2 : linkT L dl sq tall ⟨2, lv, sk, ps, ss⟩ f = goOn tall L sk ps ss (lv + 1) := by simp [linkT]
theorem linkT_3 (h : f = ss.getD 0 0) : linkT L dl sq tall ⟨3, lv, sk, ps, ss⟩ f = ⟨0, lv, sk, ps, ss⟩ := by simp [linkT, h]
theorem linkT_3n (h : ¬ f = ss.getD 0 0) : linkT L dl sq tall ⟨3, lv, sk, ps, ss⟩ f = begin L lv := by unfold linkT; rw [if_neg (show ¬ (3 : Int) = 1 by decide), if_neg (show ¬ (3 : Int) = 2 by decide), if_pos rfl]; exact if_neg h
theorem goOn_on (h : lv < min tall L) : goOn tall L sk ps ss lv = ⟨2, lv, sk, ps, ss⟩ := by unfold goOn; rw [if_pos h]
theorem goOn_end (h : ¬ lv < min tall L) : goOn tall L sk ps ss lv = ⟨3, lv, sk, ps, ss⟩ := by unfold goOn; rw [if_neg h]
theorem keep_done (h : sk.st = 0) : keep tall L lv sk ps ss = goOn tall L sk sk.ps.reverse sk.ss.reverse 0 := if_pos h
theorem keep_more (h : ¬ sk.st = 0) : keep tall L lv sk ps ss = ⟨1, lv, sk, ps, ss⟩ := if_neg h
end

/-- Such a linker as there can be, told k words at most. -/
structure Ok (L tall : Int) (k : Nat) (s : St) : Prop where
  st : s.st = 0 ∨ s.st = 1 ∨ s.st = 2 ∨ s.st = 3
  lv : 0 ≤ s.lv ∧ s.lv ≤ L
  ok : KM.Ok k s.sk
  full : Full L s.sk
  look : s.st = 1 → ¬ s.sk.st = 0 ∧ s.ps = [] ∧ s.ss = []
  lead : s.st = 2 → s.lv < tall ∧ s.lv < L
  len : ¬ s.st = 1 → (s.ps.length : Int) = L ∧ (s.ss.length : Int) = L
  few : s.ps.length ≤ k
  ps : ∀ x ∈ s.ps, Word x
  ss : ∀ x ∈ s.ss, Word x
section
variable {L tall : Int} {k : Nat}
theorem begin_ok {lv : Int} (h1 : 1 ≤ L) (h2 : L ≤ 9223372036854775807) (hl : 0 ≤ lv ∧ lv ≤ L) : Ok L tall k (begin L lv) := by
  refine ⟨.inr (.inl rfl), hl, (anew_ok (k := 0) h2 (by omega) (by omega)).up (Nat.zero_le _), anew_full (by omega), fun _ => ⟨?_, rfl, rfl⟩, fun h => (by cases h), fun h => absurd rfl h, Nat.zero_le _, fun x h => (by cases h), fun x h => (by cases h)⟩
  show ¬ (anew L 0 0).st = 0
  unfold anew
  rw [desc_on (by omega)]
  simp
theorem goOn_ok {lv : Int} {sk : KM.St} {ps ss : List Int} (hl : 0 ≤ lv ∧ lv ≤ L) (h1 : KM.Ok k sk) (h2 : Full L sk) (h3 : (ps.length : Int) = L) (h4 : (ss.length : Int) = L) (h5 : ps.length ≤ k) (h6 : ∀ x ∈ ps, Word x) (h7 : ∀ x ∈ ss, Word x) : Ok L tall k (goOn tall L sk ps ss lv) := by
  by_cases h : lv < min tall L
  · rw [goOn_on h]
    exact ⟨by simp, hl, h1, h2, fun h => (by cases h), fun _ => (by show lv < tall ∧ lv < L; omega), fun _ => ⟨h3, h4⟩, h5, h6, h7⟩
  · rw [goOn_end h]
    exact ⟨by simp, hl, h1, h2, fun h => (by cases h), fun h => (by cases h), fun _ => ⟨h3, h4⟩, h5, h6, h7⟩
theorem Ok.up {k' : Nat} {s : St} (h : Ok L tall k s) (hk : k ≤ k') : Ok L tall k' s := ⟨h.st, h.lv, h.ok.up hk, h.full, h.look, h.lead, h.len, Nat.le_trans h.few hk, h.ps, h.ss⟩
theorem rev_words {l : List Int} (h : ∀ x ∈ l, Word x) : ∀ x ∈ l.reverse, Word x := fun x hx => h x (List.mem_reverse.1 hx)
theorem linkT_ok {dl sq f : Int} {s : St} (h : Ok L tall k s) (h1 : 1 ≤ L) (h2 : L ≤ 9223372036854775807) (hf : Word f) : Ok L tall (k + 1) (linkT L dl sq tall s f) := by
  obtain ⟨st, lv, sk, ps, ss⟩ := s
  have hu := h.up (Nat.le_succ k)
  obtain ⟨q0, q1, q2, q3, q4, q5, q6, q7, q8, q9⟩ := h
  simp only at q0 q1 q2 q3 q4 q5 q6 q7 q8 q9
  rcases q0 with rfl | rfl | rfl | rfl
  · rw [linkT_0]; exact hu
  · rw [linkT_1]
    have k1 := seekT_ok (dl := dl) (sq := sq) q2 h2 hf
    have k2 := seekT_full (dl := dl) (sq := sq) (f := f) q2 q3 (by omega)
    obtain ⟨-, rfl, rfl⟩ := q4 rfl
    by_cases e : (seekT L dl sq sk f).st = 0
    · rw [keep_done e]
      have k3 := k2.done e
      exact goOn_ok (by omega) k1 k2 (by rw [List.length_reverse]; exact k3) (by rw [List.length_reverse, k1.len]; exact k3) (by rw [List.length_reverse]; exact k1.few) (rev_words k2.ps) (rev_words k2.ss)
    · rw [keep_more e]
      exact ⟨by simp, q1, k1, k2, fun _ => ⟨e, rfl, rfl⟩, fun h => (by cases h), fun h => absurd rfl h, Nat.zero_le _, fun x h => (by cases h), fun x h => (by cases h)⟩
  · rw [linkT_2]
    obtain ⟨a, b⟩ := q5 rfl
    obtain ⟨c, d⟩ := q6 (by decide)
    exact goOn_ok (by omega) hu.ok q3 c d (Nat.le_succ_of_le q7) q8 q9
  · obtain ⟨c, d⟩ := q6 (by decide)
    by_cases e : f = ss.getD 0 0
    · rw [linkT_3 e]
      exact ⟨by simp, q1, hu.ok, q3, fun h => (by cases h), fun h => (by cases h), fun _ => ⟨c, d⟩, Nat.le_succ_of_le q7, q8, q9⟩
    · rw [linkT_3n e]
      exact begin_ok h1 h2 q1
theorem word_getD {l : List Int} (h : ∀ x ∈ l, Word x) (i : Nat) : Word (l.getD i 0) := by
  rw [List.getD_eq_getElem?_getD]
  cases e : l[i]? with
  | none => exact ⟨by decide, by decide⟩
  | some x => exact h x (List.mem_of_getElem? e)
theorem link_fits {T r : Int} {s : St} (h : Ok L tall k s) (hr : Word r) {d : D} (hd : linkA T L r s = some d) : s.st = 1 ∨ DM.Fits d := by
  have q1 := MM.next_fits T L (idx r) s.lv
  have q2 := MM.next_fits T L (idx (s.ps.getD 0 0)) 0
  have q3 := word_getD h.ss s.lv.toNat
  have q4 := word_getD h.ss 0
  have q5 := word_getD h.ps 0
  unfold linkA at hd
  unfold DM.Fits
  unfold Word at hr q3 q4 q5
  split at hd
  · exact .inl ‹_›
  · split at hd
    · cases hd; right; simp only; omega
    · split at hd
      · cases hd; right; simp only; omega
      · cases hd
end
end Go.Proofs.YtiejfhipkolmhaaGreatDoor.LiM

/- A linker done alone where all chains rise, and whoever is in one without a mark is so in the one below, in plain lists: a slot that is in none hangs in the lowest one then. No program is named. -/
namespace Go.Proofs.YtiejfhipkolmhaaGreatDoor.LiM
set_option maxRecDepth 20000
open DM PM CM BM OM KM Runs
open Go.RowKit (wrap64)
set_option linter.unusedVariables false
set_option linter.unusedSimpArgs false

/-! A key is told to a slot's words. -/
theorem at_inj {T L i j a b : Nat} (hi : 1 ≤ i) (hj : 1 ≤ j) (ha : a ≤ 5) (hb : b ≤ 5) (e : atN T L i a = atN T L j b) : i = j ∧ a = b := by
  unfold atN at e
  rcases Nat.lt_trichotomy i j with h1 | h1 | h1
  · have := mul_step (L := L) h1 (by omega); omega
  · subst h1; omega
  · have := mul_step (L := L) h1 (by omega); omega
def toldL (T L : Int) (l : List Int) (i dw sq : Int) : List Int := setI (setI l (atI T L i 1) dw) (atI T L i 2) sq
section
variable {T N L : Nat} {l : List Int} {dw sq r : Int}
theorem told_len (i : Int) : (toldL T L l i dw sq).length = l.length := by unfold toldL; rw [setI_length, setI_length]
theorem told_fits (hf : BM.Fits l) (h1 : Word dw) (h2 : Word sq) (i : Int) : BM.Fits (toldL T L l i dw sq) := fits_set (fits_set hf _ h1) _ h2
theorem told_way (hT : T ≤ 8) (hN : N ≤ 64) (hL : L ≤ 8) (h1 : 1 ≤ idx r) (h2 : idx r ≤ (N : Int)) {x : Int} {g : Nat} (hx : idx x ≤ (N : Int)) (hg : g < L) : wayI T L (toldL T L l (idx r) dw sq) x g = wayI T L l x g := by
  obtain ⟨e, -⟩ := way_nat hT hN hL hx hg
  have a1 := key_nat hT hN hL (a := 1) h1 h2 (by omega)
  have a2 := key_nat hT hN hL (a := 2) h1 h2 (by omega)
  change atI _ _ _ 1 = _ at a1
  change atI _ _ _ 2 = _ at a2
  unfold wayI toldL
  rw [get_other, get_other]
  · rw [e, a1]; intro q; exact next_at (T := T) (i := (idx x).toNat) (j := (idx r).toNat) hg (by omega) (a := 1) (by omega) (by omega)
  · rw [e, a2]; intro q; exact next_at (T := T) (i := (idx x).toNat) (j := (idx r).toNat) hg (by omega) (a := 2) (by omega) (by omega)
theorem told_key (hT : T ≤ 8) (hN : N ≤ 64) (hL : L ≤ 8) (h1 : 1 ≤ idx r) (h2 : idx r ≤ (N : Int)) {x : Int} (g1 : 1 ≤ idx x) (g2 : idx x ≤ (N : Int)) (hn : idx x ≠ idx r) : keyI T L (toldL T L l (idx r) dw sq) x = keyI T L l x := by
  have a1 := key_nat hT hN hL (a := 1) h1 h2 (by omega)
  have a2 := key_nat hT hN hL (a := 2) h1 h2 (by omega)
  have b1 := key_nat hT hN hL (a := 1) g1 g2 (by omega)
  have b2 := key_nat hT hN hL (a := 2) g1 g2 (by omega)
  change atI _ _ _ 1 = _ at a1 b1
  change atI _ _ _ 2 = _ at a2 b2
  have hne : ∀ a b : Nat, a ≤ 5 → b ≤ 5 → atN T L (idx r).toNat a ≠ atN T L (idx x).toNat b := fun a b ha hb q => by
    have := (at_inj (by omega) (by omega) ha hb q).1
    omega
  unfold keyI toldL
  rw [get_other, get_other, get_other, get_other]
  · rw [a1, b2]; intro q; exact hne 1 2 (by omega) (by omega) (by omega)
  · rw [a2, b2]; intro q; exact hne 2 2 (by omega) (by omega) (by omega)
  · rw [a1, b1]; intro q; exact hne 1 1 (by omega) (by omega) (by omega)
  · rw [a2, b1]; intro q; exact hne 2 1 (by omega) (by omega) (by omega)
theorem at_in {T N L i a : Nat} (h1 : 1 ≤ i) (h2 : i ≤ N) (ha : a ≤ 5) : atN T L i a < wordsN T N L := by
  unfold atN wordsN
  have h3 := Nat.mul_le_mul_right (6 + L) h2
  have e : i * (6 + L) = (i - 1) * (6 + L) + (6 + L) := by rw [← Nat.succ_mul]; congr 1; omega
  omega
theorem told_own (hT : T ≤ 8) (hN : N ≤ 64) (hL : L ≤ 8) (hl : l.length = wordsN T N L) (h1 : 1 ≤ idx r) (h2 : idx r ≤ (N : Int)) : keyI T L (toldL T L l (idx r) dw sq) r = (wrap64 dw, sq) := by
  have a1 := key_nat hT hN hL (a := 1) h1 h2 (by omega)
  have a2 := key_nat hT hN hL (a := 2) h1 h2 (by omega)
  change atI _ _ _ 1 = _ at a1
  change atI _ _ _ 2 = _ at a2
  have b1 := at_in (T := T) (N := N) (L := L) (i := (idx r).toNat) (a := 1) (by omega) (by omega) (by omega)
  have b2 := at_in (T := T) (N := N) (L := L) (i := (idx r).toNat) (a := 2) (by omega) (by omega) (by omega)
  unfold keyI toldL
  rw [get_set (by rw [a2]; exact MM.there_in (by rw [setI_length]; exact hl) b2), get_other, get_set (by rw [a1]; exact MM.there_in hl b1)]
  rw [a1, a2]; intro q
  have := (at_inj (T := T) (L := L) (i := (idx r).toNat) (j := (idx r).toNat) (a := 2) (b := 1) (by omega) (by omega) (by omega) (by omega) (by omega)).2
  omega
end
/-- A chain of which no member's key was turned. -/
theorem chain_on {T N L h : Nat} {l m cl : List Int} (hw : ∀ r : Int, idx r ≤ (N : Int) → wayI T L m r h = wayI T L l r h) (hk : ∀ c ∈ cl, keyI T L m c = keyI T L l c) (hc : Chain T L N l h cl) : Chain T L N m h cl := by
  obtain ⟨he, hp, hr⟩ := hc
  have hin := path_in _ _ hp
  have h0 := hw 0 (by rw [idx_zero]; omega)
  refine ⟨by rw [h0]; exact he, ?_, List.Pairwise.imp_of_mem (fun {a b} ha hb hab => by rw [hk a ha, hk b hb]; exact hab) hr⟩
  rw [h0]
  exact path_cong cl _ hp fun c hc => hw c (hin c hc).2.1
/-- Words of which no way on, and no member's key, was turned: all chains are as they were. -/
theorem chains_on {T N L : Nat} {l m : List Int} (hN : N ≤ 64) (hg : GoodW T L N l) (hw : ∀ (r : Int) (h : Nat), idx r ≤ (N : Int) → h < L → wayI T L m r h = wayI T L l r h) (hk : ∀ h : Nat, h < L → ∀ c ∈ (chainI T L N l h).1, keyI T L m c = keyI T L l c) :
    GoodW T L N m ∧ ∀ h : Nat, h < L → chainI T L N m h = chainI T L N l h ∧ keptL T L N m h = keptL T L N l h := by
  have hfr : ∀ (c : Int) (h : Nat), idx c ≤ (N : Int) → h < L → freeB T L m h c = freeB T L l h c := fun c h a b => by unfold freeB; rw [hw c h a b]
  have hch : ∀ h : Nat, h < L → ∃ cl, chainI T L N l h = (cl, true) ∧ chainI T L N m h = (cl, true) ∧ ∀ c ∈ cl, idx c ≤ (N : Int) := fun h hh => by
    obtain ⟨cl, e⟩ := pair_yes (hg h (by omega)).1
    have hk := hk h hh
    rw [e] at hk
    exact ⟨cl, e, chain_is hN (chain_on (fun r a => hw r h a hh) hk (chain_of e)), fun c hc => (path_in _ _ (chain_of e).2.1 c hc).2.1⟩
  refine ⟨fun h hh => ?_, fun h hh => ?_⟩
  · have hh : h < L := by omega
    obtain ⟨cl, e, e2, hin⟩ := hch h hh
    have h1 := hg h (by omega)
    rw [e] at h1
    rw [e2]
    refine ⟨rfl, fun g hg r hr hf => ?_⟩
    obtain ⟨cg, eg, eg2, hing⟩ := hch g (by omega)
    rw [hfr r h (hin r hr) hh] at hf
    obtain ⟨k1, k2⟩ := h1.2 g hg r hr hf
    rw [eg] at k1
    rw [eg2, hfr r g (hing r k1) (by omega)]
    exact ⟨k1, k2⟩
  · obtain ⟨cl, e, e2, hin⟩ := hch h hh
    refine ⟨by rw [e, e2], ?_⟩
    unfold keptL
    rw [e, e2]
    exact List.filter_congr fun c hc => hfr c h (hin c hc) hh

/-! The steps. -/
theorem seekT_st {T L dl sq f : Int} {s : KM.St} (h : (seekA T L s).isSome = true) : (seekT L dl sq s f).st = 0 ∨ (seekA T L (seekT L dl sq s f)).isSome = true := by
  have hd : ∀ lv pr cu nx ps ss, (desc lv pr cu nx ps ss).st = 0 ∨ (seekA T L (desc lv pr cu nx ps ss)).isSome = true := fun lv pr cu nx ps ss => by
    unfold desc
    split
    · exact .inl rfl
    · exact .inr (by rw [seekA_1]; rfl)
  have hr : ∀ lv pr cu nx ps ss r, (reach lv pr cu nx ps ss r).st = 0 ∨ (seekA T L (reach lv pr cu nx ps ss r)).isSome = true := fun lv pr cu nx ps ss r => by
    unfold reach
    split
    · exact hd _ _ _ _ _ _
    · exact .inr (by rw [seekA_2]; rfl)
  have hp : ∀ lv pr cu nx ps ss b, (pass lv pr cu nx ps ss b).st = 0 ∨ (seekA T L (pass lv pr cu nx ps ss b)).isSome = true := fun lv pr cu nx ps ss b => by
    unfold pass
    split
    · exact hr _ _ _ _ _ _ _
    · exact hd _ _ _ _ _ _
  unfold seekT
  split
  · split
    · exact hd _ _ _ _ _ _
    · exact hr _ _ _ _ _ _ _
  · split
    · right
      split
      · rw [seekA_3]; rfl
      · rw [seekA_4]; rfl
    · split
      · split
        · exact hr _ _ _ _ _ _ _
        · exact hd _ _ _ _ _ _
      · split
        · split
          · exact .inr (by rw [seekA_5]; rfl)
          · exact hp _ _ _ _ _ _ _
        · split
          · exact hp _ _ _ _ _ _ _
          · exact .inr h
theorem seek_isSome {T L : Int} {s : KM.St} (h : s.st = 0) : seekA T L s = none := by simp [seekA, h]
theorem link_leads {T L r dl sq tall lv : Int} : Leads (linkA T L r) (linkT L dl sq tall) (seekA T L) (seekT L dl sq) (fun t => ⟨1, lv, t, [], []⟩) (fun t => goOn tall L t t.ps.reverse t.ss.reverse 0) := by
  intro t d hd
  refine ⟨by rw [linkA_1]; exact hd, fun f => ?_⟩
  rw [linkT_1]
  rcases seekT_st (dl := dl) (sq := sq) (f := f) (show (seekA T L t).isSome = true by rw [hd]; rfl) with h | h
  · rw [keep_done h, seek_isSome h]
    rfl
  · rw [if_pos h, keep_more]
    intro h0
    rw [seek_isSome h0] at h
    cases h
/-- Its ways on are stored up to a level. -/
structure Laid (T N L : Nat) (r : Int) (S : Nat → Int) (i : Nat) (m1 m : List Int) : Prop where
  len : m.length = wordsN T N L
  fit : BM.Fits m
  way : ∀ (x : Int) (g : Nat), idx x ≤ (N : Int) → g < L → idx x ≠ idx r → wayI T L m x g = wayI T L m1 x g
  own : ∀ g : Nat, g < i → wayI T L m r g = S g
  rest : ∀ g : Nat, i ≤ g → g < L → wayI T L m r g = wayI T L m1 r g
  key : ∀ x : Int, 1 ≤ idx x → idx x ≤ (N : Int) → keyI T L m x = keyI T L m1 x
  oth : ∀ i : Int, (∀ (r : Int) (g : Nat), idx r ≤ (N : Int) → g < L → i ≠ nextI T L (idx r) g) → getI m i = getI m1 i
theorem lay_run {T N L : Nat} {r dl sq tall : Int} (hT : T ≤ 8) (hN : N ≤ 64) (hL : L ≤ 8) (h2 : idx r ≤ (N : Int)) {sk : KM.St} {ps ss m1 : List Int} {S : Nat → Int} (hS : ∀ g : Nat, g < L → ss.getD g 0 = S g ∧ Word (S g)) {n : Nat} (hn : (n : Int) = min tall (L : Int)) :
    ∀ (j i : Nat) (m : List Int), i + j = n → Laid T N L r S i m1 m → ∃ m', steps (linkA T L r) (linkT L dl sq tall) j m (goOn tall L sk ps ss i) = some (m', ⟨3, n, sk, ps, ss⟩) ∧ Laid T N L r S n m1 m'
  | 0, i, m, e, h => by
    obtain rfl : i = n := e
    exact ⟨m, by rw [goOn_end (by omega)]; rfl, h⟩
  | j + 1, i, m, e, h => by
    have hi : i < L := by omega
    obtain ⟨s1, s2⟩ := hS i hi
    have hset := fun {x : Int} {g : Nat} (a : idx x ≤ (N : Int)) (b : g < L) => set_way (v := S i) hT hN hL h.len h2 a hi b
    have hs : Laid T N L r S (i + 1) m1 (setI m (nextI T L (idx r) i) (S i)) :=
      ⟨by rw [setI_length]; exact h.len, fits_set h.fit _ s2, fun x g a b c => by rw [hset a b, if_neg fun q => c q.1]; exact h.way x g a b c, fun g a => by
        rw [hset h2 (by omega)]
        by_cases e : g = i
        · rw [if_pos ⟨rfl, e⟩, e]
        · rw [if_neg fun q => e q.2]
          exact h.own g (by omega), fun g a b => by rw [hset h2 b, if_neg fun q => by omega]; exact h.rest g (by omega) b,
        fun x a b => by rw [set_key hT hN hL h2 a b hi]; exact h.key x a b, fun k hk => by rw [get_other (Ne.symm (hk r i h2 hi))]; exact h.oth k hk⟩
    obtain ⟨m', k1, k2⟩ := lay_run hT hN hL h2 (dl := dl) (sq := sq) (tall := tall) (sk := sk) (ps := ps) (ss := ss) hS hn j (i + 1) _ (by omega) hs
    refine ⟨m', ?_, k2⟩
    rw [goOn_on (by omega), steps_more (k := j) linkA_2, nextD_2, linkT_2, Int.toNat_natCast, s1]
    exact k1
/-- What is so behind it. -/
structure Linked (T N L : Nat) (l m : List Int) (r tall : Int) (P S : Nat → Int) : Prop where
  len : m.length = wordsN T N L
  fit : BM.Fits m
  key : ∀ x : Int, 1 ≤ idx x → idx x ≤ (N : Int) → keyI T L m x = keyI T L l x
  low : ∃ A B fr, Chain T L N m 0 (A ++ r :: B) ∧ (A ++ r :: B).filter (freeB T L m 0) = A.filter fr ++ r :: B.filter fr ∧ keptL T L N l 0 = A.filter fr ++ B.filter fr
  high : ∀ g : Nat, 1 ≤ g → g < L → ∃ cl, Chain T L N m g cl ∧ cl.Sublist (chainI T L N l g).1 ∧ cl.filter (freeB T L m g) = keptL T L N l g ∧ wayI T L m (P g) g = S g
  own : ∀ g : Nat, g < L → (g : Int) < tall → wayI T L m r g = S g
  oth : ∀ i : Int, (∀ (r : Int) (g : Nat), idx r ≤ (N : Int) → g < L → i ≠ nextI T L (idx r) g) → getI m i = getI l i
theorem res_word {T N L g : Nat} {lt : Int → Bool} {l : List Int} (hk : ∀ c ∈ keptL T L N l g, Word c) : Word (resL T L N lt l g).1 ∧ Word (resL T L N lt l g).2 := by
  constructor
  · rcases find_where lt (keptL T L N l g) 0 with h | ⟨h, -⟩
    · show Word (findL lt (keptL T L N l g) 0).1
      rw [h]; exact ⟨by decide, by decide⟩
    · exact hk _ h
  · rcases find_next lt (keptL T L N l g) 0 with h | ⟨h, -⟩
    · show Word (findL lt (keptL T L N l g) 0).2
      rw [h]; exact ⟨by decide, by decide⟩
    · exact hk _ h
theorem map_getD {f : Nat → Int} {L g : Nat} (h : g < L) : ((List.range L).map f).getD g 0 = f g := by
  rw [List.getD_eq_getElem?_getD, List.getElem?_map, List.getElem?_range h]
  rfl
theorem link_run {T N L : Nat} {r dl sq tall : Int} (hT : T ≤ 8) (hN : N ≤ 64) (hL : L ≤ 8) (hL1 : 1 ≤ L) {l : List Int} (hl : l.length = wordsN T N L) (hf : BM.Fits l) (hg : GoodW T L N l) (hkw : ∀ g : Nat, ∀ c ∈ keptL T L N l g, Word c) (hr : Word r) (h1 : 1 ≤ idx r) (h2 : idx r ≤ (N : Int)) (he : r % 2 = 0) (ht : 1 ≤ tall)
    (hap : ∀ h : Nat, h < L → ∀ c ∈ (chainI T L N l h).1, idx c ≠ idx r ∧ keyI T L l c ≠ (dl, sq)) (hkey : keyI T L l r = (dl, sq)) (lv : Int) :
    ∃ k m sk, k ≤ 1600 ∧ steps (linkA T L r) (linkT L dl sq tall) k l (begin L lv) = some (m, ⟨0, min tall L, sk, (List.range L).map fun h => (resL T L N (fun c => ltK (keyI T L l c) (dl, sq)) l h).1, (List.range L).map fun h => (resL T L N (fun c => ltK (keyI T L l c) (dl, sq)) l h).2⟩) ∧
      Linked T N L l m r tall (fun h => (resL T L N (fun c => ltK (keyI T L l c) (dl, sq)) l h).1) (fun h => (resL T L N (fun c => ltK (keyI T L l c) (dl, sq)) l h).2) := by
  obtain ⟨lt, hlt⟩ : ∃ lt : Int → Bool, lt = fun c => ltK (keyI T L l c) (dl, sq) := ⟨_, rfl⟩
  rw [← hlt]
  have hltk : ∀ c : Int, ltK (keyI T L l c) (dl, sq) = lt c := fun c => by rw [hlt]
  obtain ⟨k1, m1, lv', pr', cu', nx', q1, q2, q3, q4, q5, -, q7, q8⟩ := all_run (Q := 193) (Nat.le_refl _) hT hN hL (dl := dl) (sq := sq) (lt := lt) hg (fun c _ _ => hltk c) L l 0 0 0 [] [] (Nat.le_refl _) ⟨hl, hf, fun _ _ _ _ => rfl, fun _ _ _ => rfl, fun _ _ => rfl⟩ (fun _ _ => .inl rfl)
  clear hlt
  change steps _ _ k1 l (anew L 0 0) = _ at q2
  rw [List.nil_append, List.nil_append] at q2
  obtain ⟨P, hP⟩ : ∃ P : Nat → Int, P = fun h => (resL T L N lt l h).1 := ⟨_, rfl⟩
  obtain ⟨S, hS⟩ : ∃ S : Nat → Int, S = fun h => (resL T L N lt l h).2 := ⟨_, rfl⟩
  rw [← hP, ← hS] at q2 ⊢
  have hP' : ∀ g, (resL T L N lt l g).1 = P g := fun g => by rw [hP]
  have hS' : ∀ g, (resL T L N lt l g).2 = S g := fun g => by rw [hS]
  have hword : ∀ g, Word (P g) ∧ Word (S g) := fun g => by rw [← hP', ← hS']; exact res_word (hkw g)
  obtain ⟨sk, hsk⟩ : ∃ sk : KM.St, sk = ⟨0, lv', pr', cu', nx', (List.range L).reverse.map P, (List.range L).reverse.map S⟩ := ⟨_, rfl⟩
  rw [← hsk] at q2
  have hps : sk.ps.reverse = (List.range L).map P := by rw [hsk]; simp [← List.map_reverse]
  have hss : sk.ss.reverse = (List.range L).map S := by rw [hsk]; simp [← List.map_reverse]
  have hst : seekA T L sk = none := seek_isSome (by rw [hsk])
  clear hsk hP hS
  -- the stores
  obtain ⟨n, hn⟩ : ∃ n : Nat, (n : Int) = min tall (L : Int) := ⟨(min tall (L : Int)).toNat, by omega⟩
  obtain ⟨m2, s1, s2⟩ := lay_run hT hN hL h2 (dl := dl) (sq := sq) (tall := tall) (sk := sk) (ps := (List.range L).map P) (ss := (List.range L).map S) (m1 := m1) (S := S) (fun g a => ⟨map_getD a, (hword g).2⟩) hn n 0 m1 (by omega) ⟨q3, q4, fun _ _ _ _ _ => rfl, fun g a => by omega, fun _ _ _ => rfl, fun _ _ _ => rfl, fun _ _ => rfl⟩
  -- the chains behind the stores
  have hkm : ∀ c : Int, 1 ≤ idx c → idx c ≤ (N : Int) → keyI T L m2 c = keyI T L l c := fun c a b => by rw [s2.key c a b, q7 c a b]
  have hmem : ∀ g : Nat, g < L → ∀ c ∈ (chainI T L N l g).1, 1 ≤ idx c ∧ idx c ≤ (N : Int) := fun g a c hc => by
    obtain ⟨cl, e⟩ := pair_yes (hg g (by omega)).1
    rw [e] at hc
    have := path_in _ _ (chain_of e).2.1 c hc
    exact ⟨this.1, this.2.1⟩
  have hsplit := fun (g : Nat) (a : g < L) => (q5 g a).split (K := (dl, sq)) (fun c x y => by rw [q7 c x y]; exact hltk c)
  -- the same chains, of the words behind the stores
  have hch2 : ∀ (g : Nat) (cl : List Int), g < L → Chain T L N m1 g cl → cl.Sublist (chainI T L N l g).1 → Chain T L N m2 g cl ∧ cl.filter (freeB T L m2 g) = cl.filter (freeB T L m1 g) := fun g cl a hc hs => by
    have hne : ∀ c ∈ cl, idx c ≠ idx r := fun c hc => (hap g a c (hs.subset hc)).1
    have hin := path_in _ _ hc.2.1
    have hw0 : wayI T L m2 0 g = wayI T L m1 0 g := s2.way 0 g (by rw [idx_zero]; omega) a (by rw [idx_zero]; omega)
    refine ⟨⟨by rw [hw0]; exact hc.1, by rw [hw0]; exact path_cong cl _ hc.2.1 fun c hc => s2.way c g (hin c hc).2.1 a (hne c hc), List.Pairwise.imp_of_mem (fun {x y} hx hy hxy => by rw [s2.key x (hin x hx).1 (hin x hx).2.1, s2.key y (hin y hy).1 (hin y hy).2.1]; exact hxy) hc.2.2⟩, ?_⟩
    exact List.filter_congr fun c hc => by unfold freeB; rw [s2.way c g (hin c hc).2.1 a (hne c hc)]
  obtain ⟨A, B, c1, c2, c3, c4, c5, c6, c7, c8⟩ := hsplit 0 hL1
  rw [hP'] at c6
  rw [hS'] at c7
  obtain ⟨d1, d2⟩ := hch2 0 _ hL1 c1 c2
  have hin := path_in _ _ c1.2.1
  have hP0 : idx (P 0) ≤ (N : Int) ∧ idx (P 0) ≠ idx r := by
    rw [← c6]
    rcases last_cases A with rfl | ⟨A', p, rfl⟩
    · exact ⟨by show idx 0 ≤ _; rw [idx_zero]; omega, by show idx 0 ≠ _; rw [idx_zero]; omega⟩
    · rw [last_snoc]
      exact ⟨(hin p (by simp)).2.1, (hap 0 hL1 p (c2.subset (by simp))).1⟩
  have hway0 : wayI T L m2 (P 0) 0 = S 0 := by
    refine (s2.way (P 0) 0 hP0.1 hL1 hP0.2).trans ?_
    rw [← c6, ← c7]; exact c8
  have hrk : keyI T L m2 r = (dl, sq) := by rw [hkm r h1 h2]; exact hkey
  have hhang := hang (r := r) hT hN hL hL1 s2.len d1 h1 h2 he (fun c hc => (hap 0 hL1 c (c2.subset hc)).1) (by rw [c7]; exact s2.own 0 (by omega)) (by rw [c6, c7]; exact hway0)
    (fun a ha => by
      have h5 := hin a (by simp [ha])
      rw [hrk, hkm a h5.1 h5.2.1, hltk]
      exact c4 a ha)
    (fun b hb => by
      have h5 := hin b (by simp [hb])
      rw [hrk, hkm b h5.1 h5.2.1]
      have h6 := c5 b hb
      rw [← hltk] at h6
      rcases cmpK_cases (keyI T L l b) (dl, sq) with ⟨h7, -⟩ | ⟨-, h7, -⟩ | ⟨h7, -⟩
      · rw [h6] at h7; cases h7
      · exact h7
      · exact absurd h7 (hap 0 hL1 b (c2.subset (by simp [hb]))).2)
  rw [c6] at hhang
  obtain ⟨z1, z2⟩ := hhang
  have hset := fun {x : Int} {g : Nat} (a : idx x ≤ (N : Int)) (b : g < L) => set_way (v := r) hT hN hL s2.len hP0.1 a hL1 b
  refine ⟨k1 + (n + 1), setI m2 (nextI T L (idx (P 0)) (0 : Nat)) r, sk, by omega, ?_, ⟨by rw [setI_length]; exact s2.len, fits_set s2.fit _ hr, fun x a b => by rw [set_key hT hN hL hP0.1 a b hL1]; exact hkm x a b, ⟨A, B, freeB T L m2 0, z1, z2, ?_⟩, fun g a b => ?_, fun g a b => ?_, fun i hi => ?_⟩⟩
  · refine (steps_lead (link_leads (r := r) (tall := tall) (lv := lv)) k1 (n + 1) l m1 (anew L 0 0) sk (1, nextI T L (idx 0) (L - 1), 0, 0, 0) ?_ q2 hst).trans ?_
    · unfold anew
      rw [desc_on (by omega), seekA_1]
    · rw [hps, hss]
      refine steps_then n 1 m1 m2 _ _ _ s1 ?_
      rw [steps_more (k := 0) linkA_3, nextD_3, foundD_yes (by simp)]
      have e1 : ((List.range L).map P).getD 0 0 = P 0 := map_getD hL1
      have e2 : ((List.range L).map S).getD 0 0 = S 0 := map_getD hL1
      have e3 : getI m2 (nextI T L (idx (P 0)) 0) = S 0 := hway0
      rw [linkT_3 (by show getI m2 (nextI T L (idx (((List.range L).map P).getD 0 0)) 0) = _; rw [e1, e2]; exact e3), e1, e2, ← e3, MM.swap_is, hn]
      rfl
  · have h5 := d2.trans c3
    rw [List.filter_append] at h5
    exact h5.symm
  · obtain ⟨A', B', g1, g2, g3, -, -, g6, g7, g8⟩ := hsplit g b
    obtain ⟨f1, f2⟩ := hch2 g _ b g1 g2
    have hw : ∀ x : Int, idx x ≤ (N : Int) → wayI T L (setI m2 (nextI T L (idx (P 0)) (0 : Nat)) r) x g = wayI T L m2 x g := fun x c => by rw [hset c b, if_neg fun q => by omega]
    have hing := path_in _ _ f1.2.1
    rw [hP'] at g6
    rw [hS'] at g7
    refine ⟨A' ++ B', chain_on hw (fun c hc => set_key hT hN hL hP0.1 (hing c hc).1 (hing c hc).2.1 hL1) f1, g2, ?_, ?_⟩
    · rw [← g3, ← f2]
      exact List.filter_congr fun c hc => by unfold freeB; rw [hw c (hing c hc).2.1]
    · rw [← g6, ← g7, ← g8]
      have hla : idx (lastD A' 0) ≤ (N : Int) ∧ idx (lastD A' 0) ≠ idx r := by
        rcases last_cases A' with rfl | ⟨A2, p, rfl⟩
        · exact ⟨by show idx 0 ≤ _; rw [idx_zero]; omega, by show idx 0 ≠ _; rw [idx_zero]; omega⟩
        · rw [last_snoc]
          exact ⟨(hing p (by simp)).2.1, (hap g b p (g2.subset (by simp))).1⟩
      rw [hw _ hla.1, s2.way _ g hla.1 b hla.2]
  · rw [hset h2 a, if_neg fun q => hP0.2 q.1.symm]
    exact s2.own g (by omega)
  · rw [get_other (Ne.symm (hi (P 0) 0 hP0.1 hL1)), s2.oth i hi, q8 i hi]
end Go.Proofs.YtiejfhipkolmhaaGreatDoor.LiM

/- Lifting, in plain arithmetic: what a lifter asks for, and what it becomes. No program is named. -/
namespace Go.Proofs.YtiejfhipkolmhaaGreatDoor.LfM
set_option maxRecDepth 20000
open DM PM CM KM Runs
open LiM (word_getD rev_words)
open Go.RowKit (wrap64)
set_option linter.unusedVariables false
set_option linter.unusedSimpArgs false

/-- A lifter: its step (0 done, 1 looks, 2 leads, 3 hangs), its level, the way on that it loaded, the seeker that is under way, and between what it hangs. -/
structure St where
  st : Int
  lv : Int
  wy : Int
  un : Option KM.St
  ps : List Int
  ss : List Int
/-- On to a level. -/
def reach (tall lv wy : Int) (ps ss : List Int) : St := ⟨if lv < min tall (min (ps.length : Int) ss.length) then 1 else 0, lv, wy, none, ps, ss⟩
/-- The seeker was told a word. -/
def keep (tall st lv wy : Int) (ps ss : List Int) (k : KM.St) : St := if k.st = 0 then reach tall lv wy k.ps.reverse k.ss.reverse else ⟨st, lv, wy, some k, ps, ss⟩
def askL (T L r : Int) (st lv wy : Int) (ps ss : List Int) : Option D :=
  if st = 1 then some (1, nextI T L (idx r) lv, 0, 0, r) else if st = 2 then some (3, nextI T L (idx r) lv, wy, ss.getD lv.toNat 0, r) else
  if st = 3 then some (3, nextI T L (idx (ps.getD lv.toNat 0)) lv, ss.getD lv.toNat 0, r, ps.getD lv.toNat 0) else none
def goOn (L tall f : Int) (st lv wy : Int) (ps ss : List Int) : St :=
  if st = 1 then ⟨if f % 2 = 1 then 0 else if f = ss.getD lv.toNat 0 then 3 else 2, lv, f, none, ps, ss⟩ else if st = 2 then ⟨if f = wy then 3 else 0, lv, wy, none, ps, ss⟩ else
  if st = 3 then (if f = ss.getD lv.toNat 0 then reach tall (lv + 1) wy ps ss else ⟨3, lv, wy, some (anew L 0 0), ps, ss⟩) else ⟨st, lv, wy, none, ps, ss⟩
def liftA (T L r : Int) (s : St) : Option D := match s.un with
  | some k => seekA T L k
  | none => askL T L r s.st s.lv s.wy s.ps s.ss
def liftT (L dl sq tall : Int) (s : St) (f : Int) : St := match s.un with
  | some k => keep tall s.st s.lv s.wy s.ps s.ss (seekT L dl sq k f)
  | none => goOn L tall f s.st s.lv s.wy s.ps s.ss
section
variable {T L r dl sq tall st lv wy f : Int} {k : KM.St} {ps ss : List Int}
theorem liftA_s : liftA T L r ⟨st, lv, wy, some k, ps, ss⟩ = seekA T L k := rfl
theorem liftA_0 : liftA T L r ⟨0, lv, wy, none, ps, ss⟩ = none := by simp [liftA, askL]
theorem liftA_1 : liftA T L r ⟨1, lv, wy, none, ps, ss⟩ = some (1, nextI T L (idx r) lv, 0, 0, r) := by simp [liftA, askL]
theorem liftA_2 : liftA T L r ⟨2, lv, wy, none, ps, ss⟩ = some (3, nextI T L (idx r) lv, wy, ss.getD lv.toNat 0, r) := by simp [liftA, askL]
theorem liftA_3 : liftA T L r ⟨3, lv, wy, none, ps, ss⟩ = some (3, nextI T L (idx (ps.getD lv.toNat 0)) lv, ss.getD lv.toNat 0, r, ps.getD lv.toNat 0) := by simp [liftA, askL]
theorem liftT_s : liftT L dl sq tall ⟨st, lv, wy, some k, ps, ss⟩ f = keep tall st lv wy ps ss (seekT L dl sq k f) := rfl
theorem liftT_0 : liftT L dl sq tall ⟨0, lv, wy, none, ps, ss⟩ f = ⟨0, lv, wy, none, ps, ss⟩ := by simp [liftT, goOn]
theorem liftT_1 : liftT L dl sq tall ⟨1, lv, wy, none, ps, ss⟩ f = ⟨if f % 2 = 1 then 0 else if f = ss.getD lv.toNat 0 then 3 else 2, lv, f, none, ps, ss⟩ := by simp [liftT, goOn]
theorem liftT_2 : liftT L dl sq tall ⟨2, lv, wy, none, ps, ss⟩ f = ⟨if f = wy then 3 else 0, lv, wy, none, ps, ss⟩ := by simp [liftT, goOn]
theorem liftT_3 (h : f = ss.getD lv.toNat 0) : liftT L dl sq tall ⟨3, lv, wy, none, ps, ss⟩ f = reach tall (lv + 1) wy ps ss := by
  unfold liftT goOn
  rw [if_neg (show ¬ (3 : Int) = 1 by decide), if_neg (show ¬ (3 : Int) = 2 by decide), if_pos rfl]
  exact if_pos h
theorem liftT_3n (h : ¬ f = ss.getD lv.toNat 0) : liftT L dl sq tall ⟨3, lv, wy, none, ps, ss⟩ f = ⟨3, lv, wy, some (anew L 0 0), ps, ss⟩ := by
  unfold liftT goOn
  rw [if_neg (show ¬ (3 : Int) = 1 by decide), if_neg (show ¬ (3 : Int) = 2 by decide), if_pos rfl]
  exact if_neg h
theorem reach_on (h : lv < min tall (min (ps.length : Int) ss.length)) : reach tall lv wy ps ss = ⟨1, lv, wy, none, ps, ss⟩ := by unfold reach; rw [if_pos h]
theorem reach_end (h : ¬ lv < min tall (min (ps.length : Int) ss.length)) : reach tall lv wy ps ss = ⟨0, lv, wy, none, ps, ss⟩ := by unfold reach; rw [if_neg h]
theorem keep_done (h : k.st = 0) : keep tall st lv wy ps ss k = reach tall lv wy k.ps.reverse k.ss.reverse := if_pos h
theorem keep_more (h : ¬ k.st = 0) : keep tall st lv wy ps ss k = ⟨st, lv, wy, some k, ps, ss⟩ := if_neg h
end

/-- Such a lifter as there can be, told k words at most, of rows of n0 words at most at the beginning. -/
structure Ok (L tall : Int) (k : Nat) (s : St) : Prop where
  st : s.st = 0 ∨ s.st = 1 ∨ s.st = 2 ∨ s.st = 3
  lv : 0 ≤ s.lv ∧ s.lv ≤ 4000000
  wy : Word s.wy
  un : ∀ q, s.un = some q → KM.Ok k q ∧ Full L q ∧ ¬ q.st = 0 ∧ s.st = 3
  amid : ¬ s.st = 0 → s.lv < tall ∧ s.lv < s.ps.length ∧ s.lv < s.ss.length
  ps : ∀ x ∈ s.ps, Word x
  ss : ∀ x ∈ s.ss, Word x
  fp : s.ps.length ≤ 2000000
  fs : s.ss.length ≤ 2000000
section
variable {L tall : Int} {k : Nat}
theorem Ok.up {k' : Nat} {s : St} (h : Ok L tall k s) (hk : k ≤ k') : Ok L tall k' s := ⟨h.st, h.lv, h.wy, fun q e => ⟨(h.un q e).1.up hk, (h.un q e).2⟩, h.amid, h.ps, h.ss, h.fp, h.fs⟩
theorem reach_ok {lv wy : Int} {ps ss : List Int} (hl : 0 ≤ lv ∧ lv ≤ 4000000) (hw : Word wy) (h1 : ∀ x ∈ ps, Word x) (h2 : ∀ x ∈ ss, Word x) (h3 : ps.length ≤ 2000000) (h4 : ss.length ≤ 2000000) : Ok L tall k (reach tall lv wy ps ss) := by
  by_cases h : lv < min tall (min (ps.length : Int) ss.length)
  · rw [reach_on h]
    exact ⟨by simp, hl, hw, fun q e => (by cases e), fun _ => ⟨by show lv < tall; omega, by show lv < ps.length; omega, by show lv < ss.length; omega⟩, h1, h2, h3, h4⟩
  · rw [reach_end h]
    exact ⟨by simp, hl, hw, fun q e => (by cases e), fun e => absurd rfl e, h1, h2, h3, h4⟩
theorem liftT_ok {dl sq f : Int} {s : St} (h : Ok L tall k s) (hL1 : 1 ≤ L) (hL : L ≤ 9223372036854775807) (hk : k + 1 ≤ 1000000) (hf : Word f) : Ok L tall (k + 1) (liftT L dl sq tall s f) := by
  obtain ⟨st, lv, wy, un, ps, ss⟩ := s
  have hu := h.up (Nat.le_succ k)
  obtain ⟨q0, q1, q2, q3, q4, q5, q6, q7, q8⟩ := h
  simp only at q0 q1 q2 q3 q4 q5 q6 q7 q8
  cases un with
  | some q =>
    obtain ⟨a, b, c, d⟩ := q3 q rfl
    subst d
    rw [liftT_s]
    have k1 := seekT_ok (dl := dl) (sq := sq) a hL hf
    have k2 := seekT_full (dl := dl) (sq := sq) (f := f) a b (by omega)
    by_cases e : (seekT L dl sq q f).st = 0
    · rw [keep_done e]
      have k3 := k1.len
      have k4 := k1.few
      exact reach_ok q1 q2 (rev_words k2.ps) (rev_words k2.ss) (by rw [List.length_reverse]; omega) (by rw [List.length_reverse]; omega)
    · rw [keep_more e]
      exact ⟨by simp, q1, q2, fun p hp => (by cases hp; exact ⟨k1, k2, e, rfl⟩), fun h => q4 (by decide), q5, q6, q7, q8⟩
  | none =>
    rcases q0 with rfl | rfl | rfl | rfl
    · rw [liftT_0]; exact hu
    · rw [liftT_1]
      have q4 := q4 (by decide)
      exact ⟨by simp only; split <;> (try split) <;> simp, q1, hf, fun q e => (by cases e), fun _ => q4, q5, q6, q7, q8⟩
    · rw [liftT_2]
      have q4 := q4 (by decide)
      exact ⟨by simp only; split <;> simp, q1, q2, fun q e => (by cases e), fun _ => q4, q5, q6, q7, q8⟩
    · have q4 := q4 (by decide)
      by_cases e : f = ss.getD lv.toNat 0
      · rw [liftT_3 e]
        exact reach_ok (by omega) q2 q5 q6 q7 q8
      · rw [liftT_3n e]
        refine ⟨by simp, q1, q2, fun q e => ?_, fun _ => q4, q5, q6, q7, q8⟩
        cases e
        refine ⟨(anew_ok (k := 0) hL (by omega) (by omega)).up (Nat.zero_le _), anew_full (by omega), ?_, rfl⟩
        unfold anew
        rw [desc_on (by omega)]
        simp
theorem lift_fits {T r : Int} {s : St} (h : Ok L tall k s) (hr : Word r) {d : D} (hd : liftA T L r s = some d) : (∃ q, s.un = some q ∧ seekA T L q = some d ∧ KM.Ok k q) ∨ DM.Fits d := by
  obtain ⟨st, lv, wy, un, ps, ss⟩ := s
  cases un with
  | some q => exact .inl ⟨q, rfl, hd, (h.un q rfl).1⟩
  | none =>
    right
    have q1 := MM.next_fits T L (idx r) lv
    have q2 := MM.next_fits T L (idx (ps.getD lv.toNat 0)) lv
    have q3 := word_getD h.ss lv.toNat
    have q5 := word_getD h.ps lv.toNat
    have q6 := h.wy
    simp only at q3 q5 q6
    change askL T L r st lv wy ps ss = some d at hd
    unfold askL at hd
    unfold DM.Fits
    unfold Word at hr q3 q5 q6
    split at hd
    · cases hd; simp only; omega
    · split at hd
      · cases hd; simp only; omega
      · split at hd
        · cases hd; simp only; omega
        · cases hd
end
end Go.Proofs.YtiejfhipkolmhaaGreatDoor.LfM

/- A lifter done alone where all chains rise, and whoever is in one without a mark is so in the one below, in plain lists: a timer that is in the lowest one alone is in those of all levels below its height then. No program is named. -/
namespace Go.Proofs.YtiejfhipkolmhaaGreatDoor.LfM
set_option maxRecDepth 20000
open DM PM CM BM OM KM Runs
open LiM (seek_isSome seekT_st map_getD res_word)
open Go.RowKit (wrap64)
set_option linter.unusedVariables false
set_option linter.unusedSimpArgs false

/-! Chains of which just what stands in them counts. -/
theorem chain_off {T N L h : Nat} {l m cl : List Int} (h0 : wayI T L m 0 h = wayI T L l 0 h) (hw : ∀ c ∈ cl, wayI T L m c h = wayI T L l c h) (hk : ∀ c ∈ cl, keyI T L m c = keyI T L l c) (hc : Chain T L N l h cl) : Chain T L N m h cl ∧ cl.filter (freeB T L m h) = cl.filter (freeB T L l h) := by
  obtain ⟨he, hp, hr⟩ := hc
  refine ⟨⟨by rw [h0]; exact he, by rw [h0]; exact path_cong cl _ hp fun c hc => hw c hc, List.Pairwise.imp_of_mem (fun {a b} ha hb hab => by rw [hk a ha, hk b hb]; exact hab) hr⟩, ?_⟩
  exact List.filter_congr fun c hc => by unfold freeB; rw [hw c hc]
theorem good_chain {T N L : Nat} {l : List Int} (hg : GoodW T L N l) {g : Nat} (h : g < L) : ∃ cl, chainI T L N l g = (cl, true) ∧ Chain T L N l g cl ∧ keptL T L N l g = cl.filter (freeB T L l g) ∧ ∀ c ∈ cl, 1 ≤ idx c ∧ idx c ≤ (N : Int) ∧ c % 2 = 0 := by
  obtain ⟨cl, e⟩ := pair_yes (hg g (by omega)).1
  have hc := chain_of e
  exact ⟨cl, e, hc, by unfold keptL; rw [e], path_in _ _ hc.2.1⟩
theorem good_kept {T N L : Nat} {l : List Int} (hg : GoodW T L N l) {g : Nat} (h : g + 1 < L) {x : Int} (hx : x ∈ keptL T L N l (g + 1 : Nat)) : x ∈ keptL T L N l g := by
  have h1 := List.mem_filter.1 hx
  have h2 := (hg (g + 1) (by omega)).2 g rfl x h1.1 h1.2
  exact List.mem_filter.2 h2
theorem good_low {T N L : Nat} {l : List Int} (hg : GoodW T L N l) {x : Int} : ∀ {g : Nat}, g < L → x ∈ keptL T L N l g → x ∈ keptL T L N l (0 : Nat)
  | 0, _, hx => hx
  | g + 1, h, hx => good_low hg (g := g) (by omega) (good_kept hg h hx)
/-- All chains, told one by one. -/
theorem good_of {T N L : Nat} {m : List Int} (hN : N ≤ 64) (hc : ∀ g : Nat, g < L → ∃ cl, Chain T L N m g cl) (hk : ∀ g : Nat, g + 1 < L → ∀ x ∈ keptL T L N m (g + 1 : Nat), x ∈ keptL T L N m g) : GoodW T L N m := by
  intro h hh
  obtain ⟨cl, e⟩ := hc h (by omega)
  refine ⟨by rw [chain_is hN e], fun g hg r hr hf => ?_⟩
  subst hg
  have h1 := hk g (by omega) r (List.mem_filter.2 ⟨hr, hf⟩)
  exact List.mem_filter.1 h1
theorem rises_ne {key : Int → Key} {l : List Int} (h : Rises key l) {a b : Int} (ha : a ∈ l) (hb : b ∈ l) (hn : a ≠ b) : key a ≠ key b := by
  obtain ⟨i, hi, ea⟩ := List.getElem_of_mem ha
  obtain ⟨j, hj, eb⟩ := List.getElem_of_mem hb
  intro e
  have hp := List.pairwise_iff_getElem.1 h
  rcases Nat.lt_trichotomy i j with q | q | q
  · have := hp i j hi hj q
    rw [ea, eb, e, ltK_irrefl] at this
    cases this
  · subst q
    exact hn (ea.symm.trans eb)
  · have := hp j i hj hi q
    rw [ea, eb, e, ltK_irrefl] at this
    cases this

/-! The higher ways on of a slot are none. -/
def zeroL (T L i : Int) (l : List Int) : Nat → List Int
  | 0 => l
  | k + 1 => setI (zeroL T L i l k) (nextI T L i ((k + 1 : Nat) : Int)) 0
section
variable {T N L : Nat} {l : List Int} {r : Int}
theorem zero_len : ∀ k, (zeroL T L (idx r) l k).length = l.length
  | 0 => rfl
  | k + 1 => by unfold zeroL; rw [setI_length]; exact zero_len k
theorem zero_fits (hf : BM.Fits l) : ∀ k, BM.Fits (zeroL T L (idx r) l k)
  | 0 => hf
  | k + 1 => by unfold zeroL; exact fits_set (zero_fits hf k) _ (by omega)
theorem zero_way (hT : T ≤ 8) (hN : N ≤ 64) (hL : L ≤ 8) (hl : l.length = wordsN T N L) (h2 : idx r ≤ (N : Int)) {x : Int} {g : Nat} (hx : idx x ≤ (N : Int)) (hg : g < L) : ∀ k, k < L → wayI T L (zeroL T L (idx r) l k) x g = if idx x = idx r ∧ 1 ≤ g ∧ g ≤ k then 0 else wayI T L l x g
  | 0, _ => by rw [if_neg (by omega)]; rfl
  | k + 1, hk => by
    unfold zeroL
    rw [set_way hT hN hL ((zero_len k).trans hl) h2 hx hk hg, zero_way hT hN hL hl h2 hx hg k (by omega)]
    by_cases e : idx x = idx r
    · by_cases q : g = k + 1
      · rw [if_pos ⟨e, q⟩, if_pos ⟨e, by omega, by omega⟩]
      · rw [if_neg fun z => q z.2]
        by_cases z : 1 ≤ g ∧ g ≤ k
        · rw [if_pos ⟨e, z⟩, if_pos ⟨e, by omega, by omega⟩]
        · rw [if_neg fun y => z y.2, if_neg fun y => z ⟨y.2.1, by omega⟩]
    · rw [if_neg fun z => e z.1, if_neg fun z => e z.1, if_neg fun z => e z.1]
theorem zero_key (hT : T ≤ 8) (hN : N ≤ 64) (hL : L ≤ 8) (h2 : idx r ≤ (N : Int)) {x : Int} (g1 : 1 ≤ idx x) (g2 : idx x ≤ (N : Int)) : ∀ k, k < L → keyI T L (zeroL T L (idx r) l k) x = keyI T L l x
  | 0, _ => rfl
  | k + 1, hk => by
    unfold zeroL
    rw [set_key hT hN hL h2 g1 g2 hk]
    exact zero_key hT hN hL h2 g1 g2 k (by omega)
theorem zero_oth (h2 : idx r ≤ (N : Int)) {i : Int} (hi : ∀ (x : Int) (g : Nat), idx x ≤ (N : Int) → g < L → i ≠ nextI T L (idx x) g) : ∀ k, k < L → getI (zeroL T L (idx r) l k) i = getI l i
  | 0, _ => rfl
  | k + 1, hk => by
    unfold zeroL
    rw [get_other (Ne.symm (hi r (k + 1) h2 hk))]
    exact zero_oth h2 hi k (by omega)
end

/-! Amid the rise. -/
/-- A timer is in the chains below a level, and in none from there on; all else is as it was. -/
structure Up (T N L : Nat) (l : List Int) (r : Int) (h : Nat) (m : List Int) : Prop where
  len : m.length = wordsN T N L
  fit : BM.Fits m
  key : ∀ x : Int, 1 ≤ idx x → idx x ≤ (N : Int) → keyI T L m x = keyI T L l x
  low : ∀ g : Nat, g < h → g < L → r ∈ keptL T L N m g ∧ ∀ x ∈ keptL T L N l g, x ∈ keptL T L N m g
  high : ∀ g : Nat, h ≤ g → g < L → ∃ cl, Chain T L N m g cl ∧ cl.Sublist (chainI T L N l g).1 ∧ cl.filter (freeB T L m g) = keptL T L N l g
  good : GoodW T L N m
  own : ∀ g : Nat, h ≤ g → g < L → wayI T L m r g % 2 = 0
  kept : keptL T L N m (0 : Nat) = keptL T L N l (0 : Nat)
  oth : ∀ i : Int, (∀ (x : Int) (g : Nat), idx x ≤ (N : Int) → g < L → i ≠ nextI T L (idx x) g) → getI m i = getI l i
section
variable {T N L : Nat} {l m m' : List Int} {r : Int} {h : Nat}
theorem Up.res (hN : N ≤ 64) (hu : Up T N L l r h m) {lt : Int → Bool} {g : Nat} (a : h ≤ g) (b : g < L) : keptL T L N m g = keptL T L N l g ∧ resL T L N lt m g = resL T L N lt l g := by
  obtain ⟨cl, h1, -, h3⟩ := hu.high g a b
  have h4 := (kept_of hN h1).trans h3
  exact ⟨h4, by unfold resL; rw [h4]⟩
/-- What is sought keeps it so. -/
theorem Up.sought (hN : N ≤ 64) (hu : Up T N L l r h m) {lt : Int → Bool} (h2 : idx r ≤ (N : Int)) (hl : m'.length = wordsN T N L) (hf : BM.Fits m') (hs : ∀ g : Nat, g < L → Sought T N L lt m m' g) (hk : ∀ x : Int, 1 ≤ idx x → idx x ≤ (N : Int) → keyI T L m' x = keyI T L m x) (ho : ∀ i : Int, (∀ (x : Int) (g : Nat), idx x ≤ (N : Int) → g < L → i ≠ nextI T L (idx x) g) → getI m' i = getI m i) (h1 : 1 ≤ L) : Up T N L l r h m' := by
  have hkp : ∀ g : Nat, g < L → keptL T L N m' g = keptL T L N m g := fun g a => ((hs g a).finds hN).2
  refine ⟨hl, hf, fun x a b => (hk x a b).trans (hu.key x a b), fun g a b => ?_, fun g a b => ?_, good_of hN (fun g a => ?_) (fun g a x hx => ?_), fun g a b => ?_, (hkp 0 h1).trans hu.kept, fun i hi => (ho i hi).trans (hu.oth i hi)⟩
  · rw [hkp g b]
    exact hu.low g a b
  · obtain ⟨cl, c1, c2, c3, -⟩ := hs g b
    obtain ⟨cm, d1, d2, d3⟩ := hu.high g a b
    rw [chain_is hN d1] at c2
    exact ⟨cl, c1, c2.trans d2, by rw [c3, (hu.res hN (lt := lt) a b).1]⟩
  · obtain ⟨cl, c1, -⟩ := hs g a
    exact ⟨cl, c1⟩
  · rw [hkp (g + 1) a] at hx
    rw [hkp g (by omega)]
    exact good_kept hu.good a hx
  · obtain ⟨cl, -, -, -, -, c5, -⟩ := hs g b
    rw [c5 r h2]
    exact hu.own g a b
/-- Its own way on is turned, where it is in no chain. -/
theorem Up.led (hT : T ≤ 8) (hN : N ≤ 64) (hL : L ≤ 8) (hu : Up T N L l r h m) (h1 : 1 ≤ idx r) (h2 : idx r ≤ (N : Int)) (hap : ∀ g : Nat, h ≤ g → g < L → ∀ c ∈ (chainI T L N l g).1, idx c ≠ idx r) (hh : h < L) (hp : 1 ≤ h) {v : Int} (hv : 0 ≤ v ∧ v < 18446744073709551616) (he : v % 2 = 0) : Up T N L l r h (setI m (nextI T L (idx r) h) v) := by
  have hset := fun {x : Int} {g : Nat} (a : idx x ≤ (N : Int)) (b : g < L) => set_way (v := v) hT hN hL hu.len h2 a hh b
  have hkey := fun {x : Int} (a : 1 ≤ idx x) (b : idx x ≤ (N : Int)) => set_key (m := m) (v := v) hT hN hL h2 a b hh
  have hlen := setI_length m (nextI T L (idx r) h) v
  have hfit := fits_set hu.fit (nextI T L (idx r) h) hv
  have hoth : ∀ i : Int, (∀ (x : Int) (g : Nat), idx x ≤ (N : Int) → g < L → i ≠ nextI T L (idx x) g) → getI (setI m (nextI T L (idx r) h) v) i = getI m i := fun i hi => get_other (Ne.symm (hi r h h2 hh))
  generalize setI m (nextI T L (idx r) h) v = m' at hset hkey hlen hfit hoth ⊢
  -- each chain is as it was
  have hch : ∀ g : Nat, g < L → ∀ cl, Chain T L N m g cl → (g = h → ∀ c ∈ cl, idx c ≠ idx r) → Chain T L N m' g cl ∧ cl.filter (freeB T L m' g) = cl.filter (freeB T L m g) := fun g a cl hc hn => by
    have hin := path_in _ _ hc.2.1
    refine chain_off ?_ (fun c k => ?_) (fun c k => hkey (hin c k).1 (hin c k).2.1) hc
    · rw [hset (by rw [idx_zero]; omega) a, if_neg fun q => by rw [idx_zero] at q; omega]
    · rw [hset (hin c k).2.1 a, if_neg fun q => hn q.2 c k q.1]
  have hnh : ∀ cl : List Int, cl.Sublist (chainI T L N l h).1 → ∀ c ∈ cl, idx c ≠ idx r := fun cl hs c k => hap h (Nat.le_refl _) hh c (hs.subset k)
  have hone : ∀ g : Nat, g < L → ∃ cl, Chain T L N m g cl ∧ (g = h → ∀ c ∈ cl, idx c ≠ idx r) := fun g a => by
    by_cases e : g = h
    · subst e
      obtain ⟨cl, c1, c2, -⟩ := hu.high g (Nat.le_refl _) a
      exact ⟨cl, c1, fun _ => hnh cl c2⟩
    · obtain ⟨cl, -, c1, -⟩ := good_chain hu.good a
      exact ⟨cl, c1, fun q => absurd q e⟩
  have hkp : ∀ g : Nat, g < L → keptL T L N m' g = keptL T L N m g := fun g a => by
    obtain ⟨cl, c1, c2⟩ := hone g a
    obtain ⟨d1, d2⟩ := hch g a cl c1 c2
    rw [kept_of hN d1, kept_of hN c1, d2]
  refine ⟨hlen.trans hu.len, hfit, fun x a b => (hkey a b).trans (hu.key x a b), fun g a b => ?_, fun g a b => ?_, good_of hN (fun g a => ?_) (fun g a x hx => ?_), fun g a b => ?_, (hkp 0 (by omega)).trans hu.kept, fun i hi => (hoth i hi).trans (hu.oth i hi)⟩
  · rw [hkp g b]
    exact hu.low g a b
  · obtain ⟨cl, c1, c2, c3⟩ := hu.high g a b
    obtain ⟨d1, d2⟩ := hch g b cl c1 fun e => by subst e; exact hnh cl c2
    exact ⟨cl, d1, c2, d2.trans c3⟩
  · obtain ⟨cl, c1, c2⟩ := hone g a
    exact ⟨cl, (hch g a cl c1 c2).1⟩
  · rw [hkp (g + 1) a] at hx
    rw [hkp g (by omega)]
    exact good_kept hu.good a hx
  · rw [hset h2 b]
    split
    · exact he
    · exact hu.own g a b
/-- It hangs at one more level. -/
theorem Up.hung (hT : T ≤ 8) (hN : N ≤ 64) (hL : L ≤ 8) (hu : Up T N L l r h m) (hg : GoodW T L N l) {K : Key} {lt : Int → Bool} (h1 : 1 ≤ idx r) (h2 : idx r ≤ (N : Int)) (he : r % 2 = 0) (hr : 0 ≤ r ∧ r < 18446744073709551616) (hk : keyI T L l r = K) (hr0 : r ∈ keptL T L N l (0 : Nat)) (hlt : ∀ c : Int, 1 ≤ idx c → idx c ≤ (N : Int) → ltK (keyI T L l c) K = lt c)
    (hap : ∀ g : Nat, h ≤ g → g < L → ∀ c ∈ (chainI T L N l g).1, idx c ≠ idx r) (hh : h < L) (hp : 1 ≤ h) (hw : wayI T L m r h = (resL T L N lt l h).2) (hv : wayI T L m (resL T L N lt l h).1 h = (resL T L N lt l h).2) :
    Up T N L l r (h + 1) (setI m (nextI T L (idx (resL T L N lt l h).1) h) r) ∧ ∀ g : Nat, h < g → g < L → ∀ x : Int, idx x ≤ (N : Int) → wayI T L (setI m (nextI T L (idx (resL T L N lt l h).1) h) r) x g = wayI T L m x g := by
  obtain ⟨cl, c1, c2, c3⟩ := hu.high h (Nat.le_refl _) hh
  obtain ⟨e1, e2⟩ := hu.res hN (lt := lt) (Nat.le_refl h) hh
  have hltm : ∀ c : Int, 1 ≤ idx c → idx c ≤ (N : Int) → ltK (keyI T L m c) K = lt c := fun c a b => by rw [hu.key c a b]; exact hlt c a b
  have hs : Sought T N L lt m m h := ⟨cl, c1, by rw [chain_is hN c1]; exact List.Sublist.refl _, by rw [kept_of hN c1], by rw [e2]; exact hv, fun _ _ => rfl, fun _ _ _ => rfl, fun _ _ _ _ => rfl⟩
  obtain ⟨A, B, d1, d2, d3, d4, d5, d6, d7, -⟩ := hs.split hltm
  rw [chain_is hN c1] at d2
  rw [e2] at d6 d7
  rw [e1] at d3
  have hsub : ∀ c ∈ A ++ B, idx c ≠ idx r := fun c hc => hap h (Nat.le_refl _) hh c (c2.subset (d2.subset hc))
  have hin := path_in _ _ d1.2.1
  have hrk : keyI T L m r = K := (hu.key r h1 h2).trans hk
  have hS := find_next lt (keptL T L N l h) 0
  change (resL T L N lt l h).2 = 0 ∨ ((resL T L N lt l h).2 ∈ _ ∧ lt (resL T L N lt l h).2 = false) at hS
  generalize hPe : (resL T L N lt l h).1 = P at *
  generalize hSe : (resL T L N lt l h).2 = S at *
  have hP : idx P ≤ (N : Int) ∧ idx P ≠ idx r := by
    rw [← d6]
    rcases last_cases A with rfl | ⟨A', p, rfl⟩
    · exact ⟨by show idx 0 ≤ _; rw [idx_zero]; omega, by show idx 0 ≠ _; rw [idx_zero]; omega⟩
    · rw [last_snoc]
      exact ⟨(hin p (by simp)).2.1, hsub p (by simp)⟩
  have hBk : ∀ b ∈ B, ltK (keyI T L m r) (keyI T L m b) = true := by
    cases B with
    | nil => intro b hb; cases hb
    | cons b0 B =>
      have hb0 : b0 = S := d7
      have hi0 := hin b0 (by simp)
      rw [hrk]
      have hSm : S ∈ keptL T L N l h ∧ lt S = false := hS.resolve_left fun e => by rw [hb0, e, idx_zero] at hi0; omega
      have hlow := good_low hg hh hSm.1
      obtain ⟨c0, -, f1, f2, -⟩ := good_chain hg (show 0 < L by omega)
      have hris : Rises (keyI T L l) (keptL T L N l (0 : Nat)) := by rw [f2]; exact List.Pairwise.sublist List.filter_sublist f1.2.2
      have hne := rises_ne hris hlow hr0 (fun e => hsub b0 (by simp) (by rw [hb0, e]))
      rw [hk] at hne
      have hfirst : ltK K (keyI T L m b0) = true := by
        rw [hu.key b0 hi0.1 hi0.2.1, hb0]
        have h6 := hSm.2
        rw [← hlt S (by rw [← hb0]; exact hi0.1) (by rw [← hb0]; exact hi0.2.1)] at h6
        rcases cmpK_cases (keyI T L l S) K with ⟨h7, -⟩ | ⟨-, h7, -⟩ | ⟨h7, -⟩
        · rw [h6] at h7; cases h7
        · exact h7
        · exact absurd h7 hne
      have hr3 := d1.2.2
      rw [Rises, List.pairwise_append, List.pairwise_cons] at hr3
      intro b hb
      rcases List.mem_cons.1 hb with rfl | hb
      · exact hfirst
      · exact ltK_trans _ _ _ hfirst (hr3.2.1.1 b hb)
  obtain ⟨g1, g2⟩ := hang (r := r) hT hN hL hh hu.len d1 h1 h2 he hsub (by rw [d7]; exact hw) (by rw [d6, d7]; exact hv) (fun a ha => by
    have h5 := hin a (by simp [ha])
    rw [hrk, hltm a h5.1 h5.2.1]
    exact d4 a ha) hBk
  rw [d6] at g1 g2
  have hset := fun {x : Int} {g : Nat} (a : idx x ≤ (N : Int)) (b : g < L) => set_way (v := r) hT hN hL hu.len hP.1 a hh b
  have hkey := fun {x : Int} (a : 1 ≤ idx x) (b : idx x ≤ (N : Int)) => set_key (m := m) (v := r) hT hN hL hP.1 a b hh
  have hlen := setI_length m (nextI T L (idx P) h) r
  have hfit := fits_set hu.fit (nextI T L (idx P) h) hr
  have hoth : ∀ i : Int, (∀ (x : Int) (g : Nat), idx x ≤ (N : Int) → g < L → i ≠ nextI T L (idx x) g) → getI (setI m (nextI T L (idx P) h) r) i = getI m i := fun i hi => get_other (Ne.symm (hi P h hP.1 hh))
  generalize setI m (nextI T L (idx P) h) r = m' at hset hkey hlen hfit hoth g1 g2 ⊢
  have hoff : ∀ (x : Int) (g : Nat), idx x ≤ (N : Int) → g < L → g ≠ h → wayI T L m' x g = wayI T L m x g := fun x g a b c => by rw [hset a b, if_neg fun q => c q.2]
  have hch : ∀ g : Nat, g < L → g ≠ h → ∀ cl, Chain T L N m g cl → Chain T L N m' g cl ∧ cl.filter (freeB T L m' g) = cl.filter (freeB T L m g) := fun g a e cl hc => by
    have hin := path_in _ _ hc.2.1
    exact chain_off (hoff 0 g (by rw [idx_zero]; omega) a e) (fun c k => hoff c g (hin c k).2.1 a e) (fun c k => hkey (hin c k).1 (hin c k).2.1) hc
  have hkp : ∀ g : Nat, g < L → g ≠ h → keptL T L N m' g = keptL T L N m g := fun g a e => by
    obtain ⟨cl, -, c1, -⟩ := good_chain hu.good a
    obtain ⟨d1, d2⟩ := hch g a e cl c1
    rw [kept_of hN d1, kept_of hN c1, d2]
  have hkh : keptL T L N m' h = A.filter (freeB T L m h) ++ r :: B.filter (freeB T L m h) := (kept_of hN g1).trans g2
  have hkm : keptL T L N m h = A.filter (freeB T L m h) ++ B.filter (freeB T L m h) := by rw [e1, ← d3, List.filter_append]
  have hmore : ∀ x ∈ keptL T L N m h, x ∈ keptL T L N m' h := fun x hx => by
    rw [hkm, List.mem_append] at hx
    rw [hkh, List.mem_append, List.mem_cons]
    exact hx.imp id .inr
  refine ⟨⟨hlen.trans hu.len, hfit, fun x a b => (hkey a b).trans (hu.key x a b), fun g a b => ?_, fun g a b => ?_, good_of hN (fun g a => ?_) (fun g a x hx => ?_), fun g a b => ?_, (hkp 0 (by omega) (by omega)).trans hu.kept, fun i hi => (hoth i hi).trans (hu.oth i hi)⟩, fun g a b x c => hoff x g c b (by omega)⟩
  · by_cases e : g = h
    · subst e
      exact ⟨by rw [hkh]; simp, fun x hx => hmore x (by rw [e1]; exact hx)⟩
    · rw [hkp g b e]
      exact hu.low g (by omega) b
  · obtain ⟨cl, c1, c2, c3⟩ := hu.high g (by omega) b
    obtain ⟨d1, d2⟩ := hch g b (by omega) cl c1
    exact ⟨cl, d1, c2, d2.trans c3⟩
  · by_cases e : g = h
    · subst e
      exact ⟨_, g1⟩
    · obtain ⟨cl, -, c1, -⟩ := good_chain hu.good a
      exact ⟨cl, (hch g a e cl c1).1⟩
  · by_cases e : g + 1 = h
    · subst e
      rw [hkp g (by omega) (by omega)]
      rw [hkh, List.mem_append, List.mem_cons] at hx
      by_cases q : x = r
      · subst q
        exact (hu.low g (by omega) (by omega)).1
      · refine good_kept hu.good a ?_
        rw [hkm, List.mem_append]
        exact hx.imp id fun z => z.resolve_left q
    · rw [hkp (g + 1) a e] at hx
      have h5 := good_kept hu.good a hx
      by_cases q : g = h
      · subst q
        exact hmore x h5
      · rw [hkp g (by omega) q]
        exact h5
  · rw [hoff r g h2 b (by omega)]
    exact hu.own g (by omega) b
end

/-! The steps. -/
theorem lift_leads {T L r dl sq tall lv wy : Int} {ps ss : List Int} : Leads (liftA T L r) (liftT L dl sq tall) (seekA T L) (seekT L dl sq) (fun t => ⟨3, lv, wy, some t, ps, ss⟩) (fun t => reach tall lv wy t.ps.reverse t.ss.reverse) := by
  intro t d hd
  refine ⟨by rw [liftA_s]; exact hd, fun f => ?_⟩
  rw [liftT_s]
  rcases seekT_st (dl := dl) (sq := sq) (f := f) (show (seekA T L t).isSome = true by rw [hd]; rfl) with h | h
  · rw [keep_done h, seek_isSome h]
    rfl
  · rw [if_pos h, keep_more]
    intro h0
    rw [seek_isSome h0] at h
    cases h
section
variable {T N L : Nat} {l : List Int} {r dl sq tall : Int} {lt : Int → Bool}
/-- Whoever found what there is, for the levels from h on. -/
def Knows (T N L : Nat) (lt : Int → Bool) (l : List Int) (h : Nat) (ps ss : List Int) : Prop := ps.length = L ∧ ss.length = L ∧ ∀ g : Nat, h ≤ g → g < L → ps.getD g 0 = (resL T L N lt l g).1 ∧ ss.getD g 0 = (resL T L N lt l g).2
/-- All that a rise leans on. -/
structure Base (T N L : Nat) (l : List Int) (r dl sq tall : Int) (lt : Int → Bool) : Prop where
  hT : T ≤ 8
  hN : N ≤ 64
  hL : L ≤ 8
  good : GoodW T L N l
  word : ∀ g : Nat, ∀ c ∈ keptL T L N l g, Word c
  r0 : 0 ≤ r ∧ r < 18446744073709551616
  r1 : 1 ≤ idx r
  r2 : idx r ≤ (N : Int)
  re : r % 2 = 0
  key : keyI T L l r = (dl, sq)
  low : r ∈ keptL T L N l (0 : Nat)
  lt : ∀ c : Int, 1 ≤ idx c → idx c ≤ (N : Int) → ltK (keyI T L l c) (dl, sq) = lt c
  apart : ∀ g : Nat, 1 ≤ g → g < L → ∀ c ∈ (chainI T L N l g).1, idx c ≠ idx r
  t1 : 1 ≤ tall
  tL : tall ≤ (L : Int)
theorem Base.res (b : Base T N L l r dl sq tall lt) {h : Nat} (hp : 1 ≤ h) (hh : h < L) : Word (resL T L N lt l h).2 ∧ (resL T L N lt l h).2 % 2 = 0 ∧ idx (resL T L N lt l h).1 ≤ (N : Int) ∧ idx (resL T L N lt l h).1 ≠ idx r := by
  obtain ⟨cl, e, -, hk, hin⟩ := good_chain b.good hh
  have hw := find_where lt (keptL T L N l h) 0
  have hn := find_next lt (keptL T L N l h) 0
  change (resL T L N lt l h).1 = 0 ∨ ((resL T L N lt l h).1 ∈ _ ∧ lt (resL T L N lt l h).1 = true) at hw
  change (resL T L N lt l h).2 = 0 ∨ ((resL T L N lt l h).2 ∈ _ ∧ lt (resL T L N lt l h).2 = false) at hn
  have hap := b.apart h hp hh
  have r1 := b.r1
  rw [e] at hap
  refine ⟨(res_word (b.word h)).2, ?_, ?_⟩
  · rcases hn with q | ⟨q, -⟩
    · rw [q]; rfl
    · rw [hk] at q
      exact (hin _ (List.mem_filter.1 q).1).2.2
  · rcases hw with q | ⟨q, -⟩
    · rw [q, idx_zero]; omega
    · rw [hk] at q
      have q := (List.mem_filter.1 q).1
      exact ⟨(hin _ q).2.1, hap _ q⟩
/-- The first two steps: the timer leads to what is to stand behind it. -/
theorem lead_run (b : Base T N L l r dl sq tall lt) {h : Nat} (hp : 1 ≤ h) (hh : h < L) {m ps ss : List Int} {wy : Int} (hu : Up T N L l r h m) (hk : Knows T N L lt l h ps ss) :
    ∃ k m' wy', k ≤ 2 ∧ steps (liftA T L r) (liftT L dl sq tall) k m ⟨1, h, wy, none, ps, ss⟩ = some (m', ⟨3, h, wy', none, ps, ss⟩) ∧ Up T N L l r h m' ∧ wayI T L m' r h = (resL T L N lt l h).2 ∧ ∀ (x : Int) (g : Nat), idx x ≤ (N : Int) → g < L → idx x ≠ idx r → wayI T L m' x g = wayI T L m x g := by
  obtain ⟨s1, s2, -, -⟩ := b.res hp hh
  have hs := (hk.2.2 h (Nat.le_refl _) hh).2
  have hev := hu.own h (Nat.le_refl _) hh
  have hod : ¬ wayI T L m r h % 2 = 1 := by omega
  have h1 : steps (liftA T L r) (liftT L dl sq tall) 1 m ⟨1, h, wy, none, ps, ss⟩ = some (m, ⟨if wayI T L m r h = (resL T L N lt l h).2 then 3 else 2, h, wayI T L m r h, none, ps, ss⟩) := by
    rw [steps_more (k := 0) liftA_1, nextD_1, foundD_yes (by simp)]
    simp only
    change steps _ _ 0 m (liftT L dl sq tall ⟨1, h, wy, none, ps, ss⟩ (wayI T L m r h)) = _
    rw [liftT_1, if_neg hod, Int.toNat_natCast, hs]
    rfl
  by_cases e : wayI T L m r h = (resL T L N lt l h).2
  · rw [if_pos e] at h1
    exact ⟨1, m, _, by omega, h1, hu, e, fun _ _ _ _ _ => rfl⟩
  · rw [if_neg e] at h1
    refine ⟨1 + 1, setI m (nextI T L (idx r) h) (resL T L N lt l h).2, wayI T L m r h, by omega, steps_then 1 1 _ _ _ _ _ h1 ?_, hu.led b.hT b.hN b.hL b.r1 b.r2 (fun g a c => b.apart g (by omega) c) hh hp s1 s2, ?_, fun x g a c d => ?_⟩
    · rw [steps_more (k := 0) liftA_2, nextD_3, foundD_yes (by simp)]
      simp only
      rw [Int.toNat_natCast, hs]
      change steps _ _ 0 (swapI m (nextI T L (idx r) h) (getI m (nextI T L (idx r) h)) (resL T L N lt l h).2) (liftT L dl sq tall ⟨2, h, wayI T L m r h, none, ps, ss⟩ (wayI T L m r h)) = _
      rw [MM.swap_is, liftT_2, if_pos rfl]
      rfl
    · rw [set_way b.hT b.hN b.hL hu.len b.r2 b.r2 hh hh, if_pos ⟨rfl, rfl⟩]
    · rw [set_way b.hT b.hN b.hL hu.len b.r2 a hh c, if_neg fun q => d q.1]
/-- One level, where what was found stands side by side. -/
theorem level_once (b : Base T N L l r dl sq tall lt) {h : Nat} (hp : 1 ≤ h) (hh : h < L) {m ps ss : List Int} {wy : Int} (hu : Up T N L l r h m) (hk : Knows T N L lt l h ps ss) (hw : wayI T L m (resL T L N lt l h).1 h = (resL T L N lt l h).2) :
    ∃ k m' wy', k ≤ 3 ∧ steps (liftA T L r) (liftT L dl sq tall) k m ⟨1, h, wy, none, ps, ss⟩ = some (m', reach tall ((h + 1 : Nat) : Int) wy' ps ss) ∧ Up T N L l r (h + 1) m' ∧ ∀ (x : Int) (g : Nat), idx x ≤ (N : Int) → h < g → g < L → idx x ≠ idx r → wayI T L m' x g = wayI T L m x g := by
  obtain ⟨k, m1, wy', k1, k2, k3, k4, k5⟩ := lead_run b hp hh (wy := wy) hu hk
  obtain ⟨-, -, s3, s4⟩ := b.res hp hh
  obtain ⟨hsp, hss⟩ := hk.2.2 h (Nat.le_refl _) hh
  have hw1 : wayI T L m1 (resL T L N lt l h).1 h = (resL T L N lt l h).2 := (k5 _ h s3 hh s4).trans hw
  obtain ⟨u1, u2⟩ := k3.hung b.hT b.hN b.hL b.good b.r1 b.r2 b.re b.r0 b.key b.low b.lt (fun g a c => b.apart g (by omega) c) hh hp k4 hw1
  refine ⟨k + 1, _, wy', by omega, steps_then k 1 _ m1 _ _ _ k2 ?_, u1, fun x g a c d e => (u2 g c d x a).trans (k5 x g a d e)⟩
  rw [steps_more (k := 0) liftA_3, nextD_3, foundD_yes (by simp)]
  simp only
  rw [Int.toNat_natCast, hsp, hss]
  change steps _ _ 0 (swapI m1 (nextI T L (idx (resL T L N lt l h).1) h) (resL T L N lt l h).2 r) (liftT L dl sq tall ⟨3, h, wy', none, ps, ss⟩ (wayI T L m1 (resL T L N lt l h).1 h)) = _
  have hsw : swapI m1 (nextI T L (idx (resL T L N lt l h).1) h) (resL T L N lt l h).2 r = setI m1 (nextI T L (idx (resL T L N lt l h).1) h) r := by
    have h5 := MM.swap_is (l := m1) (nextI T L (idx (resL T L N lt l h).1) h) r
    rwa [show getI m1 (nextI T L (idx (resL T L N lt l h).1) h) = (resL T L N lt l h).2 from hw1] at h5
  rw [hsw, liftT_3 (by rw [Int.toNat_natCast, hss]; exact hw1)]
  rfl
/-- One level, where it does not: all levels are sought. -/
theorem level_twice (b : Base T N L l r dl sq tall lt) {h : Nat} (hp : 1 ≤ h) (hh : h < L) {m ps ss : List Int} {wy : Int} (hu : Up T N L l r h m) (hk : Knows T N L lt l h ps ss) (hw : ¬ wayI T L m (resL T L N lt l h).1 h = (resL T L N lt l h).2) :
    ∃ k m' wy' ps' ss', k ≤ 1547 ∧ steps (liftA T L r) (liftT L dl sq tall) k m ⟨1, h, wy, none, ps, ss⟩ = some (m', reach tall h wy' ps' ss') ∧ Up T N L l r h m' ∧ Knows T N L lt l h ps' ss' ∧ ∀ g : Nat, h ≤ g → g < L → wayI T L m' (resL T L N lt l g).1 g = (resL T L N lt l g).2 := by
  obtain ⟨k, m1, wy', k1, k2, k3, k4, k5⟩ := lead_run b hp hh (wy := wy) hu hk
  obtain ⟨-, -, s3, s4⟩ := b.res hp hh
  obtain ⟨hsp, hss⟩ := hk.2.2 h (Nat.le_refl _) hh
  have hw1 : ¬ wayI T L m1 (resL T L N lt l h).1 h = (resL T L N lt l h).2 := fun e => hw ((k5 _ h s3 hh s4).symm.trans e)
  obtain ⟨j, m2, lv', pr', cu', nx', q1, q2, q3, q4, q5, q6, q7, q8⟩ := all_run (Q := 193) (Nat.le_refl _) b.hT b.hN b.hL (dl := dl) (sq := sq) (lt := lt) k3.good (fun c x y => by rw [k3.key c x y]; exact b.lt c x y) L m1 0 0 0 [] [] (Nat.le_refl _) ⟨k3.len, k3.fit, fun _ _ _ _ => rfl, fun _ _ _ => rfl, fun _ _ => rfl⟩ (fun _ _ => .inl rfl)
  rw [List.nil_append, List.nil_append] at q2
  change steps _ _ j m1 (anew L 0 0) = _ at q2
  have hu2 := k3.sought b.hN b.r2 q3 q4 q5 q7 q8 (by omega)
  have hres : ∀ g : Nat, h ≤ g → g < L → resL T L N lt m1 g = resL T L N lt l g := fun g a c => (k3.res b.hN (lt := lt) a c).2
  have hbig : 193 * L ≤ 1544 := by have := b.hL; omega
  refine ⟨k + (1 + (j + 0)), m2, wy', (List.range L).map fun g => (resL T L N lt m1 g).1, (List.range L).map fun g => (resL T L N lt m1 g).2, by rw [Nat.mul_comm] at q1; omega, steps_then k _ _ m1 _ _ _ k2 (steps_then 1 (j + 0) _ m1 _ ⟨3, h, wy', some (anew L 0 0), ps, ss⟩ _ ?_ ?_), hu2, ⟨by simp, by simp, fun g a c => ?_⟩, fun g a c => ?_⟩
  · rw [steps_more (k := 0) liftA_3, nextD_3, foundD_yes (by simp)]
    simp only
    rw [Int.toNat_natCast, hsp, hss]
    change steps _ _ 0 (swapI m1 (nextI T L (idx (resL T L N lt l h).1) h) (resL T L N lt l h).2 r) (liftT L dl sq tall ⟨3, h, wy', none, ps, ss⟩ (wayI T L m1 (resL T L N lt l h).1 h)) = _
    rw [MM.swap_no hw1, liftT_3n (by rw [Int.toNat_natCast, hss]; exact hw1)]
    rfl
  · refine (steps_lead (lift_leads (r := r) (tall := tall) (lv := h) (wy := wy') (ps := ps) (ss := ss)) j 0 m1 m2 (anew L 0 0) _ (1, nextI T L (idx 0) (L - 1), 0, 0, 0) ?_ q2 seekA_0).trans ?_
    · unfold anew
      rw [desc_on (by omega), seekA_1]
    · show some (m2, reach tall h wy' _ _) = _
      simp [← List.map_reverse]
  · rw [map_getD c, map_getD c, hres g a c]
    exact ⟨rfl, rfl⟩
  · have h5 := ((q5 g c).finds b.hN).1
    rwa [hres g a c] at h5
theorem Knows.up {h h' : Nat} {ps ss : List Int} (hk : Knows T N L lt l h ps ss) (a : h ≤ h') : Knows T N L lt l h' ps ss := ⟨hk.1, hk.2.1, fun g c d => hk.2.2 g (by omega) d⟩
theorem Knows.begins {h : Nat} {ps ss : List Int} {wy : Int} (hk : Knows T N L lt l h ps ss) (a : (h : Int) < tall) (c : h < L) : reach tall (h : Int) wy ps ss = ⟨1, h, wy, none, ps, ss⟩ := reach_on (by rw [hk.1, hk.2.1]; omega)
theorem Knows.ends {h : Nat} {ps ss : List Int} {wy : Int} (hk : Knows T N L lt l h ps ss) (a : tall ≤ (h : Int)) : reach tall (h : Int) wy ps ss = ⟨0, h, wy, none, ps, ss⟩ := reach_end (by omega)
theorem clean_run (b : Base T N L l r dl sq tall lt) : ∀ (n h : Nat) (m ps ss : List Int) (wy : Int), ((h + n : Nat) : Int) = tall → 1 ≤ h → Up T N L l r h m → Knows T N L lt l h ps ss → (∀ g : Nat, h ≤ g → g < L → wayI T L m (resL T L N lt l g).1 g = (resL T L N lt l g).2) →
    ∃ k m' s, k ≤ 3 * n ∧ steps (liftA T L r) (liftT L dl sq tall) k m (reach tall h wy ps ss) = some (m', s) ∧ s.un = none ∧ s.st = 0 ∧ Up T N L l r (h + n) m'
  | 0, h, m, ps, ss, wy, hn, _, hu, hk, _ => ⟨0, m, _, Nat.le_refl _, rfl, by rw [hk.ends (by omega)], by rw [hk.ends (by omega)], hu⟩
  | n + 1, h, m, ps, ss, wy, hn, hp, hu, hk, hw => by
    have hh : h < L := by have := b.tL; omega
    obtain ⟨k, m1, wy', k1, k2, k3, k4⟩ := level_once b hp hh (wy := wy) hu hk (hw h (Nat.le_refl _) hh)
    obtain ⟨j, m2, s, j1, j2, j3, j4, j5⟩ := clean_run b n (h + 1) m1 ps ss wy' (by omega) (by omega) k3 (hk.up (Nat.le_succ _)) fun g a c => by
      obtain ⟨-, -, s3, s4⟩ := b.res (show 1 ≤ g by omega) c
      rw [k4 _ g s3 (by omega) c s4]
      exact hw g (by omega) c
    refine ⟨k + j, m2, s, by omega, ?_, j3, j4, by rw [show h + (n + 1) = h + 1 + n by omega]; exact j5⟩
    rw [hk.begins (by omega) hh]
    exact steps_then k j _ _ _ _ _ k2 j2
theorem lift_run (b : Base T N L l r dl sq tall lt) : ∀ (n h : Nat) (m ps ss : List Int) (wy : Int), ((h + n : Nat) : Int) = tall → 1 ≤ h → Up T N L l r h m → Knows T N L lt l h ps ss →
    ∃ k m' s, k ≤ 1547 + 3 * n ∧ steps (liftA T L r) (liftT L dl sq tall) k m (reach tall h wy ps ss) = some (m', s) ∧ s.un = none ∧ s.st = 0 ∧ Up T N L l r (h + n) m'
  | 0, h, m, ps, ss, wy, hn, _, hu, hk => ⟨0, m, _, Nat.zero_le _, rfl, by rw [hk.ends (by omega)], by rw [hk.ends (by omega)], hu⟩
  | n + 1, h, m, ps, ss, wy, hn, hp, hu, hk => by
    have hh : h < L := by have := b.tL; omega
    by_cases hw : wayI T L m (resL T L N lt l h).1 h = (resL T L N lt l h).2
    · obtain ⟨k, m1, wy', k1, k2, k3, -⟩ := level_once b hp hh (wy := wy) hu hk hw
      obtain ⟨j, m2, s, j1, j2, j3, j4, j5⟩ := lift_run b n (h + 1) m1 ps ss wy' (by omega) (by omega) k3 (hk.up (Nat.le_succ _))
      refine ⟨k + j, m2, s, by omega, ?_, j3, j4, by rw [show h + (n + 1) = h + 1 + n by omega]; exact j5⟩
      rw [hk.begins (by omega) hh]
      exact steps_then k j _ _ _ _ _ k2 j2
    · obtain ⟨k, m1, wy', ps', ss', k1, k2, k3, k4, k5⟩ := level_twice b hp hh (wy := wy) hu hk hw
      obtain ⟨j, m2, s, j1, j2, j3, j4, j5⟩ := clean_run b (n + 1) h m1 ps' ss' wy' hn hp k3 k4 k5
      refine ⟨k + j, m2, s, by omega, ?_, j3, j4, j5⟩
      rw [hk.begins (by omega) hh]
      exact steps_then k j _ _ _ _ _ k2 j2
end
end Go.Proofs.YtiejfhipkolmhaaGreatDoor.LfM

/- Two settlers done alone, one behind the other, where all chains rise, whoever is in one without a mark is so in the one below, and the timer's ways on are marked, in plain lists: the timer is in no chain then. No program is named. -/
namespace Go.Proofs.YtiejfhipkolmhaaGreatDoor.StM
set_option maxRecDepth 20000
open DM PM CM BM OM KM Runs
open LiM (seek_isSome seekT_st at_in at_inj chains_on)
open Go.RowKit (wrap64)
set_option linter.unusedVariables false
set_option linter.unusedSimpArgs false

/-- A level that was sought by a timer's own key: where that was marked, if it was there, it is not there any more. -/
theorem gone {T N L g : Nat} (hN : N ≤ 64) {l m : List Int} {r : Int} {lt : Int → Bool} {K : Key} (h : Sought T N L lt l m g) (hlt : ∀ c : Int, 1 ≤ idx c → idx c ≤ (N : Int) → ltK (keyI T L m c) K = lt c) (hk : keyI T L m r = K)
    (hm : r ∈ (chainI T L N l g).1 → freeB T L l g r = false) : ∃ cl, chainI T L N m g = (cl, true) ∧ ¬ r ∈ cl := by
  obtain ⟨A, B, c1, c2, c3, c4, c5, c6, c7, c8⟩ := h.split hlt
  have hin := path_in _ _ c1.2.1
  refine ⟨A ++ B, chain_is hN c1, fun hr => ?_⟩
  have hir := hin r hr
  rcases List.mem_append.1 hr with ha | hb
  · have h1 := c4 r ha
    rw [← hlt r hir.1 hir.2.1, hk, ltK_irrefl] at h1
    cases h1
  · cases B with
    | nil => cases hb
    | cons b B =>
      have hib := hin b (by simp)
      have hS := find_next lt (keptL T L N l g) 0
      change (resL T L N lt l g).2 = 0 ∨ ((resL T L N lt l g).2 ∈ _ ∧ lt (resL T L N lt l g).2 = false) at hS
      rw [← c7] at hS
      change b = 0 ∨ (b ∈ _ ∧ lt b = false) at hS
      have hS2 := hS.resolve_left fun e => by rw [e, idx_zero] at hib; omega
      rcases List.mem_cons.1 hb with e | hb
      · subst e
        have h2 := List.mem_filter.1 hS2.1
        rw [hm h2.1] at h2
        exact absurd h2.2 (by simp)
      · have hr3 := c1.2.2
        rw [Rises, List.pairwise_append, List.pairwise_cons] at hr3
        have h3 := hr3.2.1.1 r hb
        rw [hk, hlt b hib.1 hib.2.1, hS2.2] at h3
        cases h3

section
variable {T L r dl sq ep : Int} {wt : Bool}
theorem settle_leads : Leads (settleA T L r) (settleT L dl sq) (seekA T L) (seekT L dl sq) (fun t => ⟨2, t, ep, wt⟩) (fun t => ⟨3, t, ep, wt⟩) := by
  intro t d hd
  refine ⟨by rw [settleA_2]; exact hd, fun f => ?_⟩
  rw [settleT_2]
  rcases seekT_st (dl := dl) (sq := sq) (f := f) (show (seekA T L t).isSome = true by rw [hd]; rfl) with h | h
  · rw [goOn_done h, seek_isSome h]
    rfl
  · rw [if_pos h, goOn_more]
    intro h0
    rw [seek_isSome h0] at h
    cases h
end
/-- The word Hold of a slot is no way on, and no part of a key. -/
theorem hold_way {T N L : Nat} (hT : T ≤ 8) (hN : N ≤ 64) (hL : L ≤ 8) {r : Int} (h1 : 1 ≤ idx r) (h2 : idx r ≤ (N : Int)) {x : Int} {g : Nat} (hx : idx x ≤ (N : Int)) (hg : g < L) : atI T L (idx r) 4 ≠ nextI T L (idx x) g := by
  obtain ⟨e, -⟩ := way_nat hT hN hL hx hg
  have a1 := key_nat hT hN hL (a := 4) h1 h2 (by omega)
  change atI _ _ _ 4 = _ at a1
  rw [e, a1]
  intro q
  exact next_at (T := T) (i := (idx x).toNat) (j := (idx r).toNat) hg (by omega) (a := 4) (by omega) (by omega)
section
variable {T N L : Nat} {l : List Int} {r v : Int}
theorem hold_in (hT : T ≤ 8) (hN : N ≤ 64) (hL : L ≤ 8) (hl : l.length = wordsN T N L) (h1 : 1 ≤ idx r) (h2 : idx r ≤ (N : Int)) : there l (atI T L (idx r) 4) := by
  have a1 := key_nat hT hN hL (a := 4) h1 h2 (by omega)
  change atI _ _ _ 4 = _ at a1
  rw [a1]
  exact MM.there_in hl (at_in (by omega) (by omega) (by omega))
theorem hold_set (hT : T ≤ 8) (hN : N ≤ 64) (hL : L ≤ 8) (h1 : 1 ≤ idx r) (h2 : idx r ≤ (N : Int)) {x : Int} {g : Nat} (hx : idx x ≤ (N : Int)) (hg : g < L) : wayI T L (setI l (atI T L (idx r) 4) v) x g = wayI T L l x g := get_other (hold_way hT hN hL h1 h2 hx hg)
theorem hold_key (hT : T ≤ 8) (hN : N ≤ 64) (hL : L ≤ 8) (h1 : 1 ≤ idx r) (h2 : idx r ≤ (N : Int)) {x : Int} (g1 : 1 ≤ idx x) (g2 : idx x ≤ (N : Int)) : keyI T L (setI l (atI T L (idx r) 4) v) x = keyI T L l x := by
  have a4 := key_nat hT hN hL (a := 4) h1 h2 (by omega)
  have b1 := key_nat hT hN hL (a := 1) g1 g2 (by omega)
  have b2 := key_nat hT hN hL (a := 2) g1 g2 (by omega)
  change atI _ _ _ 4 = _ at a4
  change atI _ _ _ 1 = _ at b1
  change atI _ _ _ 2 = _ at b2
  have hne : ∀ b : Nat, b ≤ 2 → atN T L (idx r).toNat 4 ≠ atN T L (idx x).toNat b := fun b hb q => by
    have := (at_inj (by omega) (by omega) (by omega) (by omega) q).2
    omega
  unfold keyI
  rw [get_other, get_other]
  · rw [a4, b2]; intro q; exact hne 2 (by omega) (by omega)
  · rw [a4, b1]; intro q; exact hne 1 (by omega) (by omega)
theorem hold_zero (hT : T ≤ 8) (hN : N ≤ 64) (hL : L ≤ 8) (h1 : 1 ≤ idx r) (h2 : idx r ≤ (N : Int)) : getI (setI l (atI T L (idx r) 4) v) 0 = getI l 0 := by
  have a4 := key_nat hT hN hL (a := 4) h1 h2 (by omega)
  change atI _ _ _ 4 = _ at a4
  refine get_other ?_
  rw [a4]
  unfold atN
  omega
end
/-- One less. -/
theorem less_one {l : List Int} {i : Int} (hi : there l i) (a : Int) : addI (setI l i a) i 18446744073709551615 = setI l i ((a + 18446744073709551615) % 18446744073709551616) := by
  unfold addI
  rw [get_set hi, set_set]
/-- The first one: it just lets go. -/
theorem first_run {T L r dl sq : Int} {l : List Int} (hi : there l (atI T L (idx r) 4)) : ∃ sa, alone (settleA T L r) (settleT L dl sq) 2000 (setI l (atI T L (idx r) 4) 2) new = (setI l (atI T L (idx r) 4) 1, sa) ∧ settleA T L r sa = none ∧ sa.wt = false := by
  refine ⟨⟨0, ⟨0, 0, 0, 0, 0, [], []⟩, 0, false⟩, ?_, settleA_0, rfl⟩
  refine alone_steps 1 2000 _ _ _ _ ?_ settleA_0 (by omega)
  unfold new
  rw [steps_more (k := 0) settleA_1, nextD_4, foundD_yes (by simp)]
  change steps _ _ 0 _ (settleT L dl sq ⟨1, _, 0, false⟩ (getI (setI l (atI T L (idx r) 4) 2) (atI T L (idx r) 4))) = _
  rw [get_set hi, settleT_1n (by decide), less_one hi]
  rfl
/-- The last one: it takes the timer out of all chains, and its slot waits since the epoch that is. -/
theorem last_steps {T N L : Nat} {r dl sq : Int} (hT : T ≤ 8) (hN : N ≤ 64) (hL : L ≤ 8) (hL1 : 1 ≤ L) {l : List Int} (hl : l.length = wordsN T N L) (hf : BM.Fits l) (hg : GoodW T L N l) (h1 : 1 ≤ idx r) (h2 : idx r ≤ (N : Int)) (hkey : keyI T L l r = (dl, sq))
    (hm : ∀ h : Nat, h < L → r ∈ (chainI T L N l h).1 → freeB T L l h r = false) :
    ∃ k m sb, k ≤ 2000 ∧ steps (settleA T L r) (settleT L dl sq) k (setI l (atI T L (idx r) 4) 1) new = some (m, sb) ∧ settleA T L r sb = none ∧ sb.wt = true ∧ sb.ep = getI l 0 ∧ m.length = wordsN T N L ∧ BM.Fits m ∧ getI m (atI T L (idx r) 4) = 0 ∧
      ∀ h : Nat, h < L → (∃ cl, chainI T L N m h = (cl, true) ∧ ¬ r ∈ cl) ∧ keptL T L N m h = keptL T L N l h := by
  have hi := hold_in hT hN hL hl h1 h2
  have hway := fun (x : Int) (g : Nat) (a : idx x ≤ (N : Int)) (b : g < L) => hold_set (l := l) (v := 0) hT hN hL h1 h2 a b
  have hky := fun {x : Int} (a : 1 ≤ idx x) (b : idx x ≤ (N : Int)) => hold_key (l := l) (v := 0) hT hN hL h1 h2 a b
  have hz := hold_zero (l := l) (v := 0) hT hN hL h1 h2
  have hq := fun (x : Int) (g : Nat) (a : idx x ≤ (N : Int)) (b : g < L) => hold_way hT hN hL h1 h2 a b
  have hat := get_set hi 0
  have hlen : (setI l (atI T L (idx r) 4) 0).length = wordsN T N L := (setI_length _ _ _).trans hl
  have hfit := fits_set hf (atI T L (idx r) 4) (show (0 : Int) ≤ 0 ∧ (0 : Int) < 18446744073709551616 by omega)
  have hstart : ∀ (k : Nat) (x : List Int × St), steps (settleA T L r) (settleT L dl sq) k (setI l (atI T L (idx r) 4) 0) ⟨2, anew L 0 0, 0, false⟩ = some x → steps (settleA T L r) (settleT L dl sq) (k + 1) (setI l (atI T L (idx r) 4) 1) new = some x := fun k x hx => by
    unfold new
    rw [steps_more (k := k) settleA_1, nextD_4, foundD_yes (by simp)]
    change steps _ _ k _ (settleT L dl sq ⟨1, _, 0, false⟩ (getI (setI l (atI T L (idx r) 4) 1) (atI T L (idx r) 4))) = _
    rw [get_set hi, settleT_1 rfl, less_one hi, goOn_more]
    · exact hx
    · unfold anew
      rw [desc_on (by omega)]
      simp
  generalize setI l (atI T L (idx r) 4) 0 = l0 at *
  have h0n : ∀ (x : Int) (g : Nat), idx x ≤ (N : Int) → g < L → (0 : Int) ≠ nextI T L (idx x) g := fun x g a b => by
    obtain ⟨e, -⟩ := way_nat hT hN hL a b
    rw [e]
    unfold nextN atN
    split <;> omega
  obtain ⟨hg0, hch⟩ := chains_on (l := l) (m := l0) hN hg (fun x g a b => hway x g a b) fun g a c hc => by
    obtain ⟨cl, e⟩ := pair_yes (hg g (by omega)).1
    rw [e] at hc
    have := path_in _ _ (chain_of e).2.1 c hc
    exact hky this.1 this.2.1
  obtain ⟨lt, hlt⟩ : ∃ lt : Int → Bool, lt = fun c => ltK (keyI T L l0 c) (dl, sq) := ⟨_, rfl⟩
  have hltk : ∀ c : Int, ltK (keyI T L l0 c) (dl, sq) = lt c := fun c => by rw [hlt]
  clear hlt
  obtain ⟨k1, m1, lv', pr', cu', nx', q1, q2, q3, q4, q5, -, q7, q8⟩ := all_run (Q := 193) (Nat.le_refl _) hT hN hL (dl := dl) (sq := sq) (lt := lt) hg0 (fun c _ _ => hltk c) L l0 0 0 0 [] [] (Nat.le_refl _) ⟨hlen, hfit, fun _ _ _ _ => rfl, fun _ _ _ => rfl, fun _ _ => rfl⟩ (fun _ _ => .inl rfl)
  change steps _ _ k1 l0 (anew L 0 0) = _ at q2
  have hep : getI m1 0 = getI l 0 := (q8 0 fun x g a b => h0n x g a b).trans hz
  have hlead := steps_lead (settle_leads (T := T) (L := L) (r := r) (dl := dl) (sq := sq) (ep := 0) (wt := false)) k1 1 l0 m1 (anew L 0 0) _ (1, nextI T L (idx 0) (L - 1), 0, 0, 0) (by unfold anew; rw [desc_on (by omega), seekA_1]) q2 seekA_0
  rw [steps_more (k := 0) settleA_3, nextD_1, foundD_yes (by simp), settleT_3] at hlead
  change _ = some (m1, (⟨0, _, getI m1 0, true⟩ : St)) at hlead
  rw [hep] at hlead
  refine ⟨k1 + 1 + 1, m1, _, by omega, hstart _ _ hlead, settleA_0, rfl, rfl, q3, q4, (q8 _ fun x g a b => hq x g a b).trans hat, fun h hh => ⟨?_, ?_⟩⟩
  · refine gone hN (q5 h hh) (K := (dl, sq)) (fun c x y => by rw [q7 c x y]; exact hltk c) (by rw [q7 r h1 h2, hky h1 h2]; exact hkey) fun hr => ?_
    rw [(hch h hh).1] at hr
    have h3 := hm h hh hr
    unfold freeB at h3 ⊢
    rw [hway r h h2 hh]
    exact h3
  · exact ((q5 h hh).finds hN).2.trans (hch h hh).2
theorem last_run {T N L : Nat} {r dl sq : Int} (hT : T ≤ 8) (hN : N ≤ 64) (hL : L ≤ 8) (hL1 : 1 ≤ L) {l : List Int} (hl : l.length = wordsN T N L) (hf : BM.Fits l) (hg : GoodW T L N l) (h1 : 1 ≤ idx r) (h2 : idx r ≤ (N : Int)) (hkey : keyI T L l r = (dl, sq))
    (hm : ∀ h : Nat, h < L → r ∈ (chainI T L N l h).1 → freeB T L l h r = false) :
    ∃ m sb, alone (settleA T L r) (settleT L dl sq) 2000 (setI l (atI T L (idx r) 4) 1) new = (m, sb) ∧ settleA T L r sb = none ∧ sb.wt = true ∧ sb.ep = getI l 0 ∧ m.length = wordsN T N L ∧ BM.Fits m ∧ getI m (atI T L (idx r) 4) = 0 ∧
      ∀ h : Nat, h < L → (∃ cl, chainI T L N m h = (cl, true) ∧ ¬ r ∈ cl) ∧ keptL T L N m h = keptL T L N l h := by
  obtain ⟨k, m, sb, hk, h3, h4, h5⟩ := last_steps (dl := dl) (sq := sq) hT hN hL hL1 hl hf hg h1 h2 hkey hm
  exact ⟨m, sb, alone_steps k 2000 _ _ _ _ h3 h4 hk, h4, h5⟩
end Go.Proofs.YtiejfhipkolmhaaGreatDoor.StM

/- A marker done alone, where all chains rise: its timer's ways on below its height are marked, and all chains are as they were, in plain lists. No program is named. -/
namespace Go.Proofs.YtiejfhipkolmhaaGreatDoor.MkM
set_option maxRecDepth 20000
open DM PM CM BM OM KM Runs
open LiM (chains_on at_in at_inj)
open Go.RowKit (wrap64)
set_option linter.unusedVariables false
set_option linter.unusedSimpArgs false

/-- A way on with the mark. -/
def mkI (w : Int) : Int := w - w % 2 + 1
theorem mk_odd (w : Int) : mkI w % 2 = 1 := by unfold mkI; omega
theorem mk_plain (w : Int) : plainI (mkI w) = plainI w := by unfold mkI plainI; omega
theorem mk_same {w : Int} (h : w % 2 = 1) : mkI w = w := by unfold mkI; omega
theorem mk_more {w : Int} (h : ¬ w % 2 = 1) : mkI w = w + 1 := by unfold mkI; omega
theorem mk_word {w : Int} (h : 0 ≤ w ∧ w < 18446744073709551616) : 0 ≤ mkI w ∧ mkI w < 18446744073709551616 := by unfold mkI; omega
/-- The words, with the lowest t ways on of a slot marked, from above. -/
def markL (T L i : Int) : List Int → Nat → List Int
  | l, 0 => l
  | l, t + 1 => markL T L i (setI l (nextI T L i (t : Int)) (mkI (getI l (nextI T L i (t : Int))))) t
section
variable {T N L : Nat} {r : Int}
theorem mark_len {i : Int} : ∀ (t : Nat) (l : List Int), (markL T L i l t).length = l.length
  | 0, l => rfl
  | t + 1, l => by rw [markL, mark_len t, setI_length]
theorem mark_fits {i : Int} : ∀ (t : Nat) (l : List Int), BM.Fits l → BM.Fits (markL T L i l t)
  | 0, l, h => h
  | t + 1, l, h => mark_fits t _ (fits_set h _ (mk_word (fits_get h _)))
theorem mark_way (hT : T ≤ 8) (hN : N ≤ 64) (hL : L ≤ 8) (h2 : idx r ≤ (N : Int)) {x : Int} {g : Nat} (hx : idx x ≤ (N : Int)) (hg : g < L) : ∀ (t : Nat) (l : List Int), l.length = wordsN T N L → t ≤ L →
    wayI T L (markL T L (idx r) l t) x g = if idx x = idx r ∧ g < t then mkI (wayI T L l x g) else wayI T L l x g
  | 0, l, _, _ => by rw [if_neg (by omega)]; rfl
  | t + 1, l, hl, ht => by
    have hs := set_way hT hN hL hl (v := mkI (getI l (nextI T L (idx r) (t : Int)))) h2 hx (show t < L by omega) hg
    rw [markL, mark_way hT hN hL h2 hx hg t _ (by rw [setI_length]; exact hl) (by omega), hs]
    by_cases e : idx x = idx r
    · by_cases q : g = t
      · subst q
        rw [if_neg (by omega), if_pos ⟨e, rfl⟩, if_pos ⟨e, by omega⟩]
        unfold wayI
        rw [e]
      · rw [if_neg (show ¬ (idx x = idx r ∧ g = t) by omega)]
        by_cases q2 : g < t
        · rw [if_pos ⟨e, q2⟩, if_pos ⟨e, by omega⟩]
        · rw [if_neg (by omega), if_neg (by omega)]
    · rw [if_neg (by omega), if_neg (by omega), if_neg (by omega)]
theorem mark_key (hT : T ≤ 8) (hN : N ≤ 64) (hL : L ≤ 8) (h2 : idx r ≤ (N : Int)) {x : Int} (g1 : 1 ≤ idx x) (g2 : idx x ≤ (N : Int)) : ∀ (t : Nat) (l : List Int), l.length = wordsN T N L → t ≤ L → keyI T L (markL T L (idx r) l t) x = keyI T L l x
  | 0, l, _, _ => rfl
  | t + 1, l, hl, ht => by
    rw [markL, mark_key hT hN hL h2 g1 g2 t _ (by rw [setI_length]; exact hl) (by omega)]
    exact set_key hT hN hL h2 g1 g2 (by omega)
theorem mark_oth (h2 : idx r ≤ (N : Int)) {i : Int} (hi : ∀ (x : Int) (g : Nat), idx x ≤ (N : Int) → g < L → i ≠ nextI T L (idx x) g) : ∀ (t : Nat) (l : List Int), t ≤ L → getI (markL T L (idx r) l t) i = getI l i
  | 0, l, _ => rfl
  | t + 1, l, ht => by
    rw [markL, mark_oth h2 hi t _ (by omega)]
    exact get_other fun e => hi r t h2 (by omega) e.symm
/-- It goes through them one by one. -/
theorem mark_run (hT : T ≤ 8) (hN : N ≤ 64) (hL : L ≤ 8) (h2 : idx r ≤ (N : Int)) : ∀ (t : Nat) (l : List Int) (wy : Int), l.length = wordsN T N L → t ≤ L →
    ∃ k wy', k ≤ 2 * t ∧ steps (markA T L r) markT k l ⟨(t : Int), 0, wy⟩ = some (markL T L (idx r) l t, ⟨0, 0, wy'⟩)
  | 0, l, wy, _, _ => ⟨0, wy, by omega, rfl⟩
  | t + 1, l, wy, hl, ht => by
    obtain ⟨e1, b1⟩ := way_nat hT hN hL h2 (show t < L by omega)
    have hth : there l (nextI T L (idx r) (t : Int)) := by rw [e1]; exact MM.there_in hl b1
    have hne : ¬ (((t + 1 : Nat) : Int)) = 0 := by omega
    have hs : (((t + 1 : Nat) : Int)) - 1 = (t : Int) := by omega
    have ha := markA_look (T := T) (L := L) (r := r) (wy := wy) hne
    rw [hs] at ha
    obtain ⟨w, hw⟩ : ∃ w, w = getI l (nextI T L (idx r) (t : Int)) := ⟨_, rfl⟩
    by_cases ho : w % 2 = 1
    · obtain ⟨k, wy', hk, h3⟩ := mark_run hT hN hL h2 t l wy hl (by omega)
      refine ⟨k + 1, wy', by omega, ?_⟩
      rw [steps_more ha, nextD_1, foundD_yes (by simp)]
      simp only
      rw [← hw, markT_on hne ho, hs, h3, markL, ← hw, mk_same ho, hw, set_get]
    · have h4 := markA_turn (T := T) (L := L) (r := r) (wy := w) hne
      rw [hs] at h4
      obtain ⟨k, wy', hk, h3⟩ := mark_run hT hN hL h2 t (setI l (nextI T L (idx r) (t : Int)) (w + 1)) w (by rw [setI_length]; exact hl) (by omega)
      refine ⟨k + 1 + 1, wy', by omega, ?_⟩
      rw [steps_more ha, nextD_1, foundD_yes (by simp)]
      simp only
      rw [← hw, markT_to hne ho, steps_more h4, nextD_3, foundD_yes (by simp)]
      simp only
      rw [← hw, markT_won hne rfl, hs, show swapI l (nextI T L (idx r) (t : Int)) w (w + 1) = setI l (nextI T L (idx r) (t : Int)) (w + 1) from by rw [hw]; exact MM.swap_is _ _, h3, markL, ← hw, mk_more ho]
end
/-- Ways that lead to the same along it. -/
theorem path_plain {nx nx' : Int → Int} {N : Int} : ∀ (cs : List Int) (r : Int), Path nx N r cs → (∀ c ∈ cs, plainI (nx' c) = plainI (nx c)) → Path nx' N r cs
  | [], _, hp, _ => hp
  | x :: cs, r, hp, he => by
    obtain ⟨rfl, h1, h2, h3, h4⟩ := hp
    refine ⟨rfl, h1, h2, h3, ?_⟩
    rw [he r (by simp)]
    exact path_plain cs _ h4 fun c hc => he c (by simp [hc])
/-- All chains behind the marking. -/
theorem marked {T N L t : Nat} (hN : N ≤ 64) {l m : List Int} {r : Int} (hg : GoodW T L N l) (h1 : 1 ≤ idx r) (h2 : idx r ≤ (N : Int)) (hup : ∀ h : Nat, h < L → ∀ c ∈ (chainI T L N l h).1, idx c = idx r → c = r ∧ h < t)
    (hw : ∀ (x : Int) (g : Nat), idx x ≤ (N : Int) → g < L → wayI T L m x g = if idx x = idx r ∧ g < t then mkI (wayI T L l x g) else wayI T L l x g) (hk : ∀ x : Int, 1 ≤ idx x → idx x ≤ (N : Int) → keyI T L m x = keyI T L l x) :
    GoodW T L N m ∧ ∀ h : Nat, h < L → chainI T L N m h = chainI T L N l h ∧ keptL T L N m h = (keptL T L N l h).filter (fun c => !decide (c = r)) ∧ (r ∈ (chainI T L N m h).1 → freeB T L m h r = false) := by
  have hch : ∀ h : Nat, h < L → ∃ cl, chainI T L N l h = (cl, true) ∧ Chain T L N m h cl ∧ keptL T L N l h = cl.filter (freeB T L l h) ∧ (∀ c ∈ cl, 1 ≤ idx c ∧ idx c ≤ (N : Int) ∧ c % 2 = 0) := fun h hh => by
    obtain ⟨cl, e, hc, e2, hin⟩ := LfM.good_chain hg hh
    refine ⟨cl, e, ?_, e2, hin⟩
    obtain ⟨q1, q2, q3⟩ := hc
    have h0 : wayI T L m 0 h = wayI T L l 0 h := by
      rw [hw 0 h (by rw [idx_zero]; omega) hh, if_neg (by rw [idx_zero]; omega)]
    have hpp : ∀ c ∈ cl, plainI (wayI T L m c h) = plainI (wayI T L l c h) := fun c hc => by
      rw [hw c h (hin c hc).2.1 hh]
      split
      · exact mk_plain _
      · rfl
    exact ⟨by rw [h0]; exact q1, by rw [h0]; exact path_plain cl _ q2 hpp, List.Pairwise.imp_of_mem (fun {a b} ha hb hab => by rw [hk a (hin a ha).1 (hin a ha).2.1, hk b (hin b hb).1 (hin b hb).2.1]; exact hab) q3⟩
  have hkept : ∀ h : Nat, h < L → chainI T L N m h = chainI T L N l h ∧ keptL T L N m h = (keptL T L N l h).filter (fun c => !decide (c = r)) := fun h hh => by
    obtain ⟨cl, e, hc, e2, hin⟩ := hch h hh
    have e3 := chain_is hN hc
    refine ⟨e3.trans e.symm, ?_⟩
    have hu := hup h hh
    rw [e] at hu
    rw [e2, List.filter_filter]
    unfold keptL
    rw [e3]
    refine List.filter_congr fun c hc => ?_
    unfold freeB
    rw [hw c h (hin c hc).2.1 hh]
    by_cases q : idx c = idx r
    · obtain ⟨q1, q2⟩ := hu c hc q
      subst q1
      rw [if_pos ⟨rfl, q2⟩, decide_eq_true (mk_odd _)]
      simp
    · have q3 : c ≠ r := fun e => q (by rw [e])
      rw [if_neg (fun x => q x.1)]
      simp [q3]
  have hgood : GoodW T L N m := LfM.good_of (T := T) (L := L) hN (fun g hh => (hch g hh).elim fun cl h => ⟨cl, h.2.1⟩) fun g hh x hx => by
    rw [(hkept (g + 1) hh).2, List.mem_filter] at hx
    rw [(hkept g (by omega)).2, List.mem_filter]
    exact ⟨LfM.good_kept hg hh hx.1, hx.2⟩
  refine ⟨hgood, fun h hh => ⟨(hkept h hh).1, (hkept h hh).2, fun hr => ?_⟩⟩
  rw [(hkept h hh).1] at hr
  have q := hup h hh r hr rfl
  unfold freeB
  rw [hw r h h2 hh, if_pos ⟨rfl, q.2⟩, decide_eq_true (mk_odd _)]
  rfl
end Go.Proofs.YtiejfhipkolmhaaGreatDoor.MkM

/- A finisher done alone, where all chains rise, whoever is in one without a mark is so in the one below, and nobody else holds its timer, in plain lists: the timer is in no chain then. No program is named. -/
namespace Go.Proofs.YtiejfhipkolmhaaGreatDoor.FiM
set_option maxRecDepth 20000
open DM PM CM BM OM KM Runs
open MkM (markA markT leftI markL)
open StM (settleA settleT)
open LiM (chains_on at_in at_inj)
open Go.RowKit (wrap64)
set_option linter.unusedVariables false
set_option linter.unusedSimpArgs false

theorem steps_in {σ τ : Type} {ask : σ → Option D} {tell : σ → Int → σ} {askS : τ → Option D} {tellS : τ → Int → τ} {ι : τ → σ} (h : Holds ask tell askS tellS ι) : ∀ (k : Nat) (l l' : List Int) (t t' : τ), steps askS tellS k l t = some (l', t') → steps ask tell k l (ι t) = some (l', ι t')
  | 0, l, l', t, t', hs => by
    simp only [steps, Option.some.injEq, Prod.mk.injEq] at hs ⊢
    exact ⟨hs.1, by rw [hs.2]⟩
  | k + 1, l, l', t, t', hs => by
    obtain ⟨d, hd, h2⟩ := steps_amid hs
    obtain ⟨h3, h4⟩ := h t d hd
    rw [steps_more h3, h4]
    exact steps_in h k _ _ _ _ h2
/-- A slot's words that are no ways on. -/
theorem word_way {T N L a : Nat} (hT : T ≤ 8) (hN : N ≤ 64) (hL : L ≤ 8) (ha : a ≤ 5) {r : Int} (h1 : 1 ≤ idx r) (h2 : idx r ≤ (N : Int)) {x : Int} {g : Nat} (hx : idx x ≤ (N : Int)) (hg : g < L) : atI T L (idx r) a ≠ nextI T L (idx x) g := by
  obtain ⟨e, -⟩ := way_nat hT hN hL hx hg
  have a1 := key_nat hT hN hL (a := a) h1 h2 ha
  rw [e, a1]
  intro q
  exact next_at (T := T) (i := (idx x).toNat) (j := (idx r).toNat) hg (by omega) ha (by omega)
section
variable {T N L a : Nat} {l : List Int} {r v : Int}
theorem word_in (hT : T ≤ 8) (hN : N ≤ 64) (hL : L ≤ 8) (ha : a ≤ 5) (hl : l.length = wordsN T N L) (h1 : 1 ≤ idx r) (h2 : idx r ≤ (N : Int)) : there l (atI T L (idx r) a) := by
  rw [key_nat hT hN hL h1 h2 ha]
  exact MM.there_in hl (at_in (by omega) (by omega) ha)
theorem word_set (hT : T ≤ 8) (hN : N ≤ 64) (hL : L ≤ 8) (ha : a ≤ 5) (h1 : 1 ≤ idx r) (h2 : idx r ≤ (N : Int)) {x : Int} {g : Nat} (hx : idx x ≤ (N : Int)) (hg : g < L) : wayI T L (setI l (atI T L (idx r) a) v) x g = wayI T L l x g := get_other (word_way hT hN hL ha h1 h2 hx hg)
theorem word_key (hT : T ≤ 8) (hN : N ≤ 64) (hL : L ≤ 8) (ha : 3 ≤ a ∧ a ≤ 5) (h1 : 1 ≤ idx r) (h2 : idx r ≤ (N : Int)) {x : Int} (g1 : 1 ≤ idx x) (g2 : idx x ≤ (N : Int)) : keyI T L (setI l (atI T L (idx r) a) v) x = keyI T L l x := by
  have a4 := key_nat hT hN hL (a := a) h1 h2 ha.2
  have b1 := key_nat hT hN hL (a := 1) g1 g2 (by omega)
  have b2 := key_nat hT hN hL (a := 2) g1 g2 (by omega)
  change atI _ _ _ 1 = _ at b1
  change atI _ _ _ 2 = _ at b2
  have hne : ∀ b : Nat, b ≤ 2 → atN T L (idx r).toNat a ≠ atN T L (idx x).toNat b := fun b hb q => by
    have := (at_inj (by omega) (by omega) (by omega) (by omega) q).2
    omega
  unfold keyI
  rw [get_other, get_other]
  · rw [a4, b2]; intro q; exact hne 2 (by omega) (by omega)
  · rw [a4, b1]; intro q; exact hne 1 (by omega) (by omega)
theorem word_zero (hT : T ≤ 8) (hN : N ≤ 64) (hL : L ≤ 8) (ha : a ≤ 5) (h1 : 1 ≤ idx r) (h2 : idx r ≤ (N : Int)) : getI (setI l (atI T L (idx r) a) v) 0 = getI l 0 := by
  refine get_other ?_
  rw [key_nat hT hN hL h1 h2 ha]
  unfold atN
  omega
end
/-- A slot of a height that has it in no higher chain, which nobody else holds: done alone, its timer is out of all chains, and waits since the epoch that is. -/
theorem finish_run {T N L t : Nat} {r dl sq : Int} (hT : T ≤ 8) (hN : N ≤ 64) (hL : L ≤ 8) (hL1 : 1 ≤ L) {l : List Int} (hl : l.length = wordsN T N L) (hf : BM.Fits l) (hg : GoodW T L N l) (h1 : 1 ≤ idx r) (h2 : idx r ≤ (N : Int)) (hkey : keyI T L l r = (dl, sq)) (ht : t ≤ L)
    (hup : ∀ h : Nat, h < L → ∀ c ∈ (chainI T L N l h).1, idx c = idx r → c = r ∧ h < t) :
    ∃ k m s, k ≤ 3000 ∧ steps (finA T L r) (finT L dl sq) k (setI (setI l (atI T L (idx r) 4) 1) (atI T L (idx r) 3) (t : Int)) .look = some (m, s) ∧ finA T L r s = none ∧ wtB s = true ∧ epI s = getI l 0 ∧ m.length = wordsN T N L ∧ BM.Fits m ∧
      ∀ h : Nat, h < L → (∃ cl, chainI T L N m h = (cl, true) ∧ ¬ r ∈ cl) ∧ keptL T L N m h = (keptL T L N l h).filter (fun c => !decide (c = r)) := by
  obtain ⟨la, hla⟩ : ∃ la, la = setI l (atI T L (idx r) 4) 1 := ⟨_, rfl⟩
  obtain ⟨lb, hlb⟩ : ∃ lb, lb = setI la (atI T L (idx r) 3) (t : Int) := ⟨_, rfl⟩
  have hlen : lb.length = wordsN T N L := by rw [hlb, setI_length, hla, setI_length]; exact hl
  have hfit : BM.Fits lb := by rw [hlb, hla]; exact fits_set (fits_set hf _ (by omega)) _ (by omega)
  have hway : ∀ (x : Int) (g : Nat), idx x ≤ (N : Int) → g < L → wayI T L lb x g = wayI T L l x g := fun x g p q => by
    rw [hlb, hla]
    exact (word_set (a := 3) hT hN hL (by omega) h1 h2 p q).trans (word_set (a := 4) hT hN hL (by omega) h1 h2 p q)
  have hky : ∀ x : Int, 1 ≤ idx x → idx x ≤ (N : Int) → keyI T L lb x = keyI T L l x := fun x p q => by
    rw [hlb, hla]
    exact (word_key (a := 3) hT hN hL (by omega) h1 h2 p q).trans (word_key (a := 4) hT hN hL (by omega) h1 h2 p q)
  have hz : getI lb 0 = getI l 0 := by
    rw [hlb, hla]
    exact (word_zero (a := 3) hT hN hL (by omega) h1 h2).trans (word_zero (a := 4) hT hN hL (by omega) h1 h2)
  have htall : getI lb (atI T L (idx r) 3) = (t : Int) := by
    rw [hlb]
    exact get_set (word_in (a := 3) hT hN hL (by omega) (by rw [hla, setI_length]; exact hl) h1 h2) _
  have hhold : getI lb (atI T L (idx r) 4) = 1 := by
    rw [hlb, get_other, hla]
    · exact get_set (word_in (a := 4) hT hN hL (by omega) hl h1 h2) _
    · rw [show (3 : Int) = ((3 : Nat) : Int) from rfl, show (4 : Int) = ((4 : Nat) : Int) from rfl, key_nat hT hN hL h1 h2 (by omega), key_nat hT hN hL h1 h2 (by omega)]
      unfold atN
      omega
  rw [← hla, ← hlb]
  clear hla hlb
  obtain ⟨k1, wy, hk1, hm1⟩ := MkM.mark_run hT hN hL h2 t lb 0 hlen ht
  have hmw : ∀ (x : Int) (g : Nat), idx x ≤ (N : Int) → g < L → wayI T L (markL T L (idx r) lb t) x g = if idx x = idx r ∧ g < t then MkM.mkI (wayI T L l x g) else wayI T L l x g := fun x g p q => by
    rw [MkM.mark_way hT hN hL h2 p q t lb hlen ht, hway x g p q]
  have hmk : ∀ x : Int, 1 ≤ idx x → idx x ≤ (N : Int) → keyI T L (markL T L (idx r) lb t) x = keyI T L l x := fun x p q => (MkM.mark_key hT hN hL h2 p q t lb hlen ht).trans (hky x p q)
  have hmz : getI (markL T L (idx r) lb t) 0 = getI l 0 := (MkM.mark_oth h2 (fun x g p q => by
    obtain ⟨e, -⟩ := way_nat hT hN hL p q
    rw [e]
    unfold nextN atN
    split <;> omega) t lb ht).trans hz
  have hmh : getI (markL T L (idx r) lb t) (atI T L (idx r) 4) = 1 := (MkM.mark_oth h2 (fun x g p q => word_way (a := 4) hT hN hL (by omega) h1 h2 p q) t lb ht).trans hhold
  have hml := (MkM.mark_len (T := T) (L := L) (i := idx r) t lb).trans hlen
  have hmf := MkM.mark_fits (T := T) (L := L) (i := idx r) t lb hfit
  have hfirst : ∀ (k : Nat) (x : List Int × St), steps (finA T L r) (finT L dl sq) k lb (toM ⟨(t : Int), 0, 0⟩) = some x → steps (finA T L r) (finT L dl sq) (k + 1) lb .look = some x := fun k x hx => by
    rw [steps_more finA_look, nextD_1, foundD_yes (by simp)]
    simp only
    rw [htall, finT_look, show wrap64 (t : Int) = (t : Int) from wrap_in (by omega), show leftI (t : Int) (L : Int) = (t : Int) by unfold leftI; omega]
    exact hx
  generalize hmm : markL T L (idx r) lb t = mm at *
  obtain ⟨hg2, hch⟩ := MkM.marked hN hg h1 h2 hup hmw hmk
  have hmset : setI mm (atI T L (idx r) 4) 1 = mm := by
    have := set_get mm (atI T L (idx r) 4)
    rwa [hmh] at this
  obtain ⟨k2, m, sb, hk2, hs, hend, hwt, hep, q1, q2, -, q4⟩ := StM.last_steps (dl := dl) (sq := sq) hT hN hL hL1 hml hmf hg2 h1 h2 ((hmk r h1 h2).trans hkey) fun h hh => (hch h hh).2.2
  rw [hmset] at hs
  have hs2 := steps_in (settle_holds (T := T) (L := L) (r := r) (dl := dl) (sq := sq)) k2 _ _ _ _ hs
  have hall : ∃ k, k ≤ 2100 ∧ steps (finA T L r) (finT L dl sq) k lb (toM ⟨(t : Int), 0, 0⟩) = some (m, .settle sb) := by
    by_cases ht0 : t = 0
    · subst ht0
      refine ⟨k2, by omega, ?_⟩
      rw [toM_done rfl]
      have : mm = lb := hmm.symm
      rw [← this]
      exact hs2
    · refine ⟨k1 + k2, by omega, ?_⟩
      rw [toM_more (show ¬ ((t : Int)) = 0 by omega)]
      rw [steps_pass (mark_passes (T := T) (L := L) (r := r) (dl := dl) (sq := sq)) k1 k2 lb mm ⟨(t : Int), 0, 0⟩ ⟨0, 0, wy⟩ _ (MkM.markA_look (show ¬ ((t : Int)) = 0 by omega)) hm1 MkM.markA_0]
      exact hs2
  obtain ⟨k, hk, hfin⟩ := hall
  refine ⟨k + 1, m, .settle sb, by omega, hfirst k _ hfin, hend, hwt, hep.trans hmz, q1, q2, fun h hh => ⟨(q4 h hh).1, ?_⟩⟩
  rw [(q4 h hh).2, (hch h hh).2.1]
end Go.Proofs.YtiejfhipkolmhaaGreatDoor.FiM
