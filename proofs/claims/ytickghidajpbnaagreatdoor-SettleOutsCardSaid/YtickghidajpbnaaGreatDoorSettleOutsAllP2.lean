import Derived.Test.YtickghidajpbnaaGreatDoorSettleOutsAllP1
/- Linking, in plain arithmetic: what a linker asks for, and what it becomes. No program is named. -/
namespace Go.Proofs.YtickghidajpbnaaGreatDoor.LiM
set_option maxRecDepth 20000
open DM PM CM KM Runs
open Go.RowKit (wrap64)
set_option linter.unusedVariables false
set_option linter.unusedSimpArgs false

/-- A linker: its step (0 done, 1 seeks, 2 stores, 3 swaps), the level at which it stores, its seeker, and what that found. -/
structure St where
  st : Int
  lv : Int
  sk : KM.St
  ps : List Int
  ss : List Int
/-- On to a level. -/
def goOn (tall L : Int) (sk : KM.St) (ps ss : List Int) (lv : Int) : St := ⟨if lv < min tall L then 2 else 3, lv, sk, ps, ss⟩
def begin (L lv : Int) : St := ⟨1, lv, anew L 0 0, [], []⟩
/-- The seeker was told a word. -/
def keep (tall L lv : Int) (sk : KM.St) (ps ss : List Int) : St := if sk.st = 0 then goOn tall L sk sk.ps.reverse sk.ss.reverse 0 else ⟨1, lv, sk, ps, ss⟩
def linkA (T L r : Int) (s : St) : Option D :=
  if s.st = 1 then seekA T L s.sk else if s.st = 2 then some (2, nextI T L (idx r) s.lv, s.ss.getD s.lv.toNat 0, 0, r) else if s.st = 3 then some (3, nextI T L (idx (s.ps.getD 0 0)) 0, s.ss.getD 0 0, r, s.ps.getD 0 0) else none
def linkT (L dl sq tall : Int) (s : St) (f : Int) : St :=
  if s.st = 1 then keep tall L s.lv (seekT L dl sq s.sk f) s.ps s.ss else if s.st = 2 then goOn tall L s.sk s.ps s.ss (s.lv + 1) else
  if s.st = 3 then (if f = s.ss.getD 0 0 then ⟨0, s.lv, s.sk, s.ps, s.ss⟩ else begin L s.lv) else s
section
variable {T L r dl sq tall lv f : Int} {sk : KM.St} {ps ss : List Int}
theorem linkA_0 : linkA T L r ⟨0, lv, sk, ps, ss⟩ = none := by simp [linkA]
theorem linkA_1 : linkA T L r ⟨1, lv, sk, ps, ss⟩ = seekA T L sk := by simp [linkA]
theorem linkA_2 : linkA T L r ⟨2, lv, sk, ps, ss⟩ = some (2, nextI T L (idx r) lv, ss.getD lv.toNat 0, 0, r) := by simp [linkA]
theorem linkA_3 : linkA T L r ⟨3, lv, sk, ps, ss⟩ = some (3, nextI T L (idx (ps.getD 0 0)) 0, ss.getD 0 0, r, ps.getD 0 0) := by simp [linkA]
theorem linkT_0 : linkT L dl sq tall ⟨0, lv, sk, ps, ss⟩ f = ⟨0, lv, sk, ps, ss⟩ := by simp [linkT]
theorem linkT_1 : linkT L dl sq tall ⟨1, lv, sk, ps, ss⟩ f = keep tall L lv (seekT L dl sq sk f) ps ss := by simp [linkT]
theorem linkT_2 : linkT L dl sq tall ⟨2, lv, sk, ps, ss⟩ f = goOn tall L sk ps ss (lv + 1) := by simp [linkT]
theorem linkT_3 (h : f = ss.getD 0 0) : linkT L dl sq tall ⟨3, lv, sk, ps, ss⟩ f = ⟨0, lv, sk, ps, ss⟩ := by simp [linkT, h]
theorem linkT_3n (h : ¬ f = ss.getD 0 0) : linkT L dl sq tall ⟨3, lv, sk, ps, ss⟩ f = begin L lv := by unfold linkT; rw [if_neg (show ¬ (3 : Int) = 1 by decide), if_neg (show ¬ (3 : Int) = 2 by decide), if_pos rfl]; exact if_neg h
theorem goOn_on (h : lv < min tall L) : goOn tall L sk ps ss lv = ⟨2, lv, sk, ps, ss⟩ := by unfold goOn; rw [if_pos h]
theorem goOn_end (h : ¬ lv < min tall L) : goOn tall L sk ps ss lv = ⟨3, lv, sk, ps, ss⟩ := by unfold goOn; rw [if_neg h]
theorem keep_done (h : sk.st = 0) : keep tall L lv sk ps ss = goOn tall L sk sk.ps.reverse sk.ss.reverse 0 := if_pos h
theorem keep_more (h : ¬ sk.st = 0) : keep tall L lv sk ps ss = ⟨1, lv, sk, ps, ss⟩ := if_neg h
end

/-- Such a linker as there can be, told k words at most. -/
structure Ok (L tall : Int) (k : Nat) (s : St) : Prop where
  st : s.st = 0 ∨ s.st = 1 ∨ s.st = 2 ∨ s.st = 3
  lv : 0 ≤ s.lv ∧ s.lv ≤ L
  ok : KM.Ok k s.sk
  full : Full L s.sk
  look : s.st = 1 → ¬ s.sk.st = 0 ∧ s.ps = [] ∧ s.ss = []
  lead : s.st = 2 → s.lv < tall ∧ s.lv < L
  len : ¬ s.st = 1 → (s.ps.length : Int) = L ∧ (s.ss.length : Int) = L
  few : s.ps.length ≤ k
  ps : ∀ x ∈ s.ps, Word x
  ss : ∀ x ∈ s.ss, Word x
section
variable {L tall : Int} {k : Nat}
theorem begin_ok {lv : Int} (h1 : 1 ≤ L) (h2 : L ≤ 9223372036854775807) (hl : 0 ≤ lv ∧ lv ≤ L) : Ok L tall k (begin L lv) := by
  refine ⟨.inr (.inl rfl), hl, (anew_ok (k := 0) h2 (by omega) (by omega)).up (Nat.zero_le _), anew_full (by omega), fun _ => ⟨?_, rfl, rfl⟩, fun h => (by cases h), fun h => absurd rfl h, Nat.zero_le _, fun x h => (by cases h), fun x h => (by cases h)⟩
  show ¬ (anew L 0 0).st = 0
  unfold anew
  rw [desc_on (by omega)]
  simp
theorem goOn_ok {lv : Int} {sk : KM.St} {ps ss : List Int} (hl : 0 ≤ lv ∧ lv ≤ L) (h1 : KM.Ok k sk) (h2 : Full L sk) (h3 : (ps.length : Int) = L) (h4 : (ss.length : Int) = L) (h5 : ps.length ≤ k) (h6 : ∀ x ∈ ps, Word x) (h7 : ∀ x ∈ ss, Word x) : Ok L tall k (goOn tall L sk ps ss lv) := by
  by_cases h : lv < min tall L
  · rw [goOn_on h]
    exact ⟨by simp, hl, h1, h2, fun h => (by cases h), fun _ => (by show lv < tall ∧ lv < L; omega), fun _ => ⟨h3, h4⟩, h5, h6, h7⟩
  · rw [goOn_end h]
    exact ⟨by simp, hl, h1, h2, fun h => (by cases h), fun h => (by cases h), fun _ => ⟨h3, h4⟩, h5, h6, h7⟩
theorem Ok.up {k' : Nat} {s : St} (h : Ok L tall k s) (hk : k ≤ k') : Ok L tall k' s := ⟨h.st, h.lv, h.ok.up hk, h.full, h.look, h.lead, h.len, Nat.le_trans h.few hk, h.ps, h.ss⟩
theorem rev_words {l : List Int} (h : ∀ x ∈ l, Word x) : ∀ x ∈ l.reverse, Word x := fun x hx => h x (List.mem_reverse.1 hx)
theorem linkT_ok {dl sq f : Int} {s : St} (h : Ok L tall k s) (h1 : 1 ≤ L) (h2 : L ≤ 9223372036854775807) (hf : Word f) : Ok L tall (k + 1) (linkT L dl sq tall s f) := by
  obtain ⟨st, lv, sk, ps, ss⟩ := s
  have hu := h.up (Nat.le_succ k)
  obtain ⟨q0, q1, q2, q3, q4, q5, q6, q7, q8, q9⟩ := h
  simp only at q0 q1 q2 q3 q4 q5 q6 q7 q8 q9
  rcases q0 with rfl | rfl | rfl | rfl
  · rw [linkT_0]; exact hu
  · rw [linkT_1]
    have k1 := seekT_ok (dl := dl) (sq := sq) q2 h2 hf
    have k2 := seekT_full (dl := dl) (sq := sq) (f := f) q2 q3 (by omega)
    obtain ⟨-, rfl, rfl⟩ := q4 rfl
    by_cases e : (seekT L dl sq sk f).st = 0
    · rw [keep_done e]
      have k3 := k2.done e
      exact goOn_ok (by omega) k1 k2 (by rw [List.length_reverse]; exact k3) (by rw [List.length_reverse, k1.len]; exact k3) (by rw [List.length_reverse]; exact k1.few) (rev_words k2.ps) (rev_words k2.ss)
    · rw [keep_more e]
      exact ⟨by simp, q1, k1, k2, fun _ => ⟨e, rfl, rfl⟩, fun h => (by cases h), fun h => absurd rfl h, Nat.zero_le _, fun x h => (by cases h), fun x h => (by cases h)⟩
  · rw [linkT_2]
    obtain ⟨a, b⟩ := q5 rfl
    obtain ⟨c, d⟩ := q6 (by decide)
    exact goOn_ok (by omega) hu.ok q3 c d (Nat.le_succ_of_le q7) q8 q9
  · obtain ⟨c, d⟩ := q6 (by decide)
    by_cases e : f = ss.getD 0 0
    · rw [linkT_3 e]
      exact ⟨by simp, q1, hu.ok, q3, fun h => (by cases h), fun h => (by cases h), fun _ => ⟨c, d⟩, Nat.le_succ_of_le q7, q8, q9⟩
    · rw [linkT_3n e]
      exact begin_ok h1 h2 q1
theorem word_getD {l : List Int} (h : ∀ x ∈ l, Word x) (i : Nat) : Word (l.getD i 0) := by
  rw [List.getD_eq_getElem?_getD]
  cases e : l[i]? with
  | none => exact ⟨by decide, by decide⟩
  | some x => exact h x (List.mem_of_getElem? e)
theorem link_fits {T r : Int} {s : St} (h : Ok L tall k s) (hr : Word r) {d : D} (hd : linkA T L r s = some d) : s.st = 1 ∨ DM.Fits d := by
  have q1 := MM.next_fits T L (idx r) s.lv
  have q2 := MM.next_fits T L (idx (s.ps.getD 0 0)) 0
  have q3 := word_getD h.ss s.lv.toNat
  have q4 := word_getD h.ss 0
  have q5 := word_getD h.ps 0
  unfold linkA at hd
  unfold DM.Fits
  unfold Word at hr q3 q4 q5
  split at hd
  · exact .inl ‹_›
  · split at hd
    · cases hd; right; simp only; omega
    · split at hd
      · cases hd; right; simp only; omega
      · cases hd
end
end Go.Proofs.YtickghidajpbnaaGreatDoor.LiM

/- A linker done alone where all chains rise, and whoever is in one without a mark is so in the one below, in plain lists: a slot that is in none hangs in the lowest one then. No program is named. -/
namespace Go.Proofs.YtickghidajpbnaaGreatDoor.LiM
set_option maxRecDepth 20000
open DM PM CM BM OM KM Runs
open Go.RowKit (wrap64)
set_option linter.unusedVariables false
set_option linter.unusedSimpArgs false

/-! A key is told to a slot's words. -/
theorem at_inj {T L i j a b : Nat} (hi : 1 ≤ i) (hj : 1 ≤ j) (ha : a ≤ 5) (hb : b ≤ 5) (e : atN T L i a = atN T L j b) : i = j ∧ a = b := by
  unfold atN at e
  rcases Nat.lt_trichotomy i j with h1 | h1 | h1
  · have := mul_step (L := L) h1 (by omega); omega
  · subst h1; omega
  · have := mul_step (L := L) h1 (by omega); omega
def toldL (T L : Int) (l : List Int) (i dw sq : Int) : List Int := setI (setI l (atI T L i 1) dw) (atI T L i 2) sq
section
variable {T N L : Nat} {l : List Int} {dw sq r : Int}
theorem told_len (i : Int) : (toldL T L l i dw sq).length = l.length := by unfold toldL; rw [setI_length, setI_length]
theorem told_fits (hf : BM.Fits l) (h1 : Word dw) (h2 : Word sq) (i : Int) : BM.Fits (toldL T L l i dw sq) := fits_set (fits_set hf _ h1) _ h2
theorem told_way (hT : T ≤ 8) (hN : N ≤ 64) (hL : L ≤ 8) (h1 : 1 ≤ idx r) (h2 : idx r ≤ (N : Int)) {x : Int} {g : Nat} (hx : idx x ≤ (N : Int)) (hg : g < L) : wayI T L (toldL T L l (idx r) dw sq) x g = wayI T L l x g := by
  obtain ⟨e, -⟩ := way_nat hT hN hL hx hg
  have a1 := key_nat hT hN hL (a := 1) h1 h2 (by omega)
  have a2 := key_nat hT hN hL (a := 2) h1 h2 (by omega)
  change atI _ _ _ 1 = _ at a1
  change atI _ _ _ 2 = _ at a2
  unfold wayI toldL
  rw [get_other, get_other]
  · rw [e, a1]; intro q; exact next_at (T := T) (i := (idx x).toNat) (j := (idx r).toNat) hg (by omega) (a := 1) (by omega) (by omega)
  · rw [e, a2]; intro q; exact next_at (T := T) (i := (idx x).toNat) (j := (idx r).toNat) hg (by omega) (a := 2) (by omega) (by omega)
theorem told_key (hT : T ≤ 8) (hN : N ≤ 64) (hL : L ≤ 8) (h1 : 1 ≤ idx r) (h2 : idx r ≤ (N : Int)) {x : Int} (g1 : 1 ≤ idx x) (g2 : idx x ≤ (N : Int)) (hn : idx x ≠ idx r) : keyI T L (toldL T L l (idx r) dw sq) x = keyI T L l x := by
  have a1 := key_nat hT hN hL (a := 1) h1 h2 (by omega)
  have a2 := key_nat hT hN hL (a := 2) h1 h2 (by omega)
  have b1 := key_nat hT hN hL (a := 1) g1 g2 (by omega)
  have b2 := key_nat hT hN hL (a := 2) g1 g2 (by omega)
  change atI _ _ _ 1 = _ at a1 b1
  change atI _ _ _ 2 = _ at a2 b2
  have hne : ∀ a b : Nat, a ≤ 5 → b ≤ 5 → atN T L (idx r).toNat a ≠ atN T L (idx x).toNat b := fun a b ha hb q => by
    have := (at_inj (by omega) (by omega) ha hb q).1
    omega
  unfold keyI toldL
  rw [get_other, get_other, get_other, get_other]
  · rw [a1, b2]; intro q; exact hne 1 2 (by omega) (by omega) (by omega)
  · rw [a2, b2]; intro q; exact hne 2 2 (by omega) (by omega) (by omega)
  · rw [a1, b1]; intro q; exact hne 1 1 (by omega) (by omega) (by omega)
  · rw [a2, b1]; intro q; exact hne 2 1 (by omega) (by omega) (by omega)
theorem at_in {T N L i a : Nat} (h1 : 1 ≤ i) (h2 : i ≤ N) (ha : a ≤ 5) : atN T L i a < wordsN T N L := by
  unfold atN wordsN
  have h3 := Nat.mul_le_mul_right (6 + L) h2
  have e : i * (6 + L) = (i - 1) * (6 + L) + (6 + L) := by rw [← Nat.succ_mul]; congr 1; omega
  omega
theorem told_own (hT : T ≤ 8) (hN : N ≤ 64) (hL : L ≤ 8) (hl : l.length = wordsN T N L) (h1 : 1 ≤ idx r) (h2 : idx r ≤ (N : Int)) : keyI T L (toldL T L l (idx r) dw sq) r = (wrap64 dw, sq) := by
  have a1 := key_nat hT hN hL (a := 1) h1 h2 (by omega)
  have a2 := key_nat hT hN hL (a := 2) h1 h2 (by omega)
  change atI _ _ _ 1 = _ at a1
  change atI _ _ _ 2 = _ at a2
  have b1 := at_in (T := T) (N := N) (L := L) (i := (idx r).toNat) (a := 1) (by omega) (by omega) (by omega)
  have b2 := at_in (T := T) (N := N) (L := L) (i := (idx r).toNat) (a := 2) (by omega) (by omega) (by omega)
  unfold keyI toldL
  rw [get_set (by rw [a2]; exact MM.there_in (by rw [setI_length]; exact hl) b2), get_other, get_set (by rw [a1]; exact MM.there_in hl b1)]
  rw [a1, a2]; intro q
  have := (at_inj (T := T) (L := L) (i := (idx r).toNat) (j := (idx r).toNat) (a := 2) (b := 1) (by omega) (by omega) (by omega) (by omega) (by omega)).2
  omega
end
/-- A chain of which no member's key was turned. -/
theorem chain_on {T N L h : Nat} {l m cl : List Int} (hw : ∀ r : Int, idx r ≤ (N : Int) → wayI T L m r h = wayI T L l r h) (hk : ∀ c ∈ cl, keyI T L m c = keyI T L l c) (hc : Chain T L N l h cl) : Chain T L N m h cl := by
  obtain ⟨he, hp, hr⟩ := hc
  have hin := path_in _ _ hp
  have h0 := hw 0 (by rw [idx_zero]; omega)
  refine ⟨by rw [h0]; exact he, ?_, List.Pairwise.imp_of_mem (fun {a b} ha hb hab => by rw [hk a ha, hk b hb]; exact hab) hr⟩
  rw [h0]
  exact path_cong cl _ hp fun c hc => hw c (hin c hc).2.1
/-- Words of which no way on, and no member's key, was turned: all chains are as they were. -/
theorem chains_on {T N L : Nat} {l m : List Int} (hN : N ≤ 64) (hg : GoodW T L N l) (hw : ∀ (r : Int) (h : Nat), idx r ≤ (N : Int) → h < L → wayI T L m r h = wayI T L l r h) (hk : ∀ h : Nat, h < L → ∀ c ∈ (chainI T L N l h).1, keyI T L m c = keyI T L l c) :
    GoodW T L N m ∧ ∀ h : Nat, h < L → chainI T L N m h = chainI T L N l h ∧ keptL T L N m h = keptL T L N l h := by
  have hfr : ∀ (c : Int) (h : Nat), idx c ≤ (N : Int) → h < L → freeB T L m h c = freeB T L l h c := fun c h a b => by unfold freeB; rw [hw c h a b]
  have hch : ∀ h : Nat, h < L → ∃ cl, chainI T L N l h = (cl, true) ∧ chainI T L N m h = (cl, true) ∧ ∀ c ∈ cl, idx c ≤ (N : Int) := fun h hh => by
    obtain ⟨cl, e⟩ := pair_yes (hg h (by omega)).1
    have hk := hk h hh
    rw [e] at hk
    exact ⟨cl, e, chain_is hN (chain_on (fun r a => hw r h a hh) hk (chain_of e)), fun c hc => (path_in _ _ (chain_of e).2.1 c hc).2.1⟩
  refine ⟨fun h hh => ?_, fun h hh => ?_⟩
  · have hh : h < L := by omega
    obtain ⟨cl, e, e2, hin⟩ := hch h hh
    have h1 := hg h (by omega)
    rw [e] at h1
    rw [e2]
    refine ⟨rfl, fun g hg r hr hf => ?_⟩
    obtain ⟨cg, eg, eg2, hing⟩ := hch g (by omega)
    rw [hfr r h (hin r hr) hh] at hf
    obtain ⟨k1, k2⟩ := h1.2 g hg r hr hf
    rw [eg] at k1
    rw [eg2, hfr r g (hing r k1) (by omega)]
    exact ⟨k1, k2⟩
  · obtain ⟨cl, e, e2, hin⟩ := hch h hh
    refine ⟨by rw [e, e2], ?_⟩
    unfold keptL
    rw [e, e2]
    exact List.filter_congr fun c hc => hfr c h (hin c hc) hh

/-! The steps. -/
theorem seekT_st {T L dl sq f : Int} {s : KM.St} (h : (seekA T L s).isSome = true) : (seekT L dl sq s f).st = 0 ∨ (seekA T L (seekT L dl sq s f)).isSome = true := by
  have hd : ∀ lv pr cu nx ps ss, (desc lv pr cu nx ps ss).st = 0 ∨ (seekA T L (desc lv pr cu nx ps ss)).isSome = true := fun lv pr cu nx ps ss => by
    unfold desc
    split
    · exact .inl rfl
    · exact .inr (by rw [seekA_1]; rfl)
  have hr : ∀ lv pr cu nx ps ss r, (reach lv pr cu nx ps ss r).st = 0 ∨ (seekA T L (reach lv pr cu nx ps ss r)).isSome = true := fun lv pr cu nx ps ss r => by
    unfold reach
    split
    · exact hd _ _ _ _ _ _
    · exact .inr (by rw [seekA_2]; rfl)
  have hp : ∀ lv pr cu nx ps ss b, (pass lv pr cu nx ps ss b).st = 0 ∨ (seekA T L (pass lv pr cu nx ps ss b)).isSome = true := fun lv pr cu nx ps ss b => by
    unfold pass
    split
    · exact hr _ _ _ _ _ _ _
    · exact hd _ _ _ _ _ _
  unfold seekT
  split
  · split
    · exact hd _ _ _ _ _ _
    · exact hr _ _ _ _ _ _ _
  · split
    · right
      split
      · rw [seekA_3]; rfl
      · rw [seekA_4]; rfl
    · split
      · split
        · exact hr _ _ _ _ _ _ _
        · exact hd _ _ _ _ _ _
      · split
        · split
          · exact .inr (by rw [seekA_5]; rfl)
          · exact hp _ _ _ _ _ _ _
        · split
          · exact hp _ _ _ _ _ _ _
          · exact .inr h
theorem seek_isSome {T L : Int} {s : KM.St} (h : s.st = 0) : seekA T L s = none := by simp [seekA, h]
theorem link_leads {T L r dl sq tall lv : Int} : Leads (linkA T L r) (linkT L dl sq tall) (seekA T L) (seekT L dl sq) (fun t => ⟨1, lv, t, [], []⟩) (fun t => goOn tall L t t.ps.reverse t.ss.reverse 0) := by
  intro t d hd
  refine ⟨by rw [linkA_1]; exact hd, fun f => ?_⟩
  rw [linkT_1]
  rcases seekT_st (dl := dl) (sq := sq) (f := f) (show (seekA T L t).isSome = true by rw [hd]; rfl) with h | h
  · rw [keep_done h, seek_isSome h]
    rfl
  · rw [if_pos h, keep_more]
    intro h0
    rw [seek_isSome h0] at h
    cases h
/-- Its ways on are stored up to a level. -/
structure Laid (T N L : Nat) (r : Int) (S : Nat → Int) (i : Nat) (m1 m : List Int) : Prop where
  len : m.length = wordsN T N L
  fit : BM.Fits m
  way : ∀ (x : Int) (g : Nat), idx x ≤ (N : Int) → g < L → idx x ≠ idx r → wayI T L m x g = wayI T L m1 x g
  own : ∀ g : Nat, g < i → wayI T L m r g = S g
  rest : ∀ g : Nat, i ≤ g → g < L → wayI T L m r g = wayI T L m1 r g
  key : ∀ x : Int, 1 ≤ idx x → idx x ≤ (N : Int) → keyI T L m x = keyI T L m1 x
  oth : ∀ i : Int, (∀ (r : Int) (g : Nat), idx r ≤ (N : Int) → g < L → i ≠ nextI T L (idx r) g) → getI m i = getI m1 i
theorem lay_run {T N L : Nat} {r dl sq tall : Int} (hT : T ≤ 8) (hN : N ≤ 64) (hL : L ≤ 8) (h2 : idx r ≤ (N : Int)) {sk : KM.St} {ps ss m1 : List Int} {S : Nat → Int} (hS : ∀ g : Nat, g < L → ss.getD g 0 = S g ∧ Word (S g)) {n : Nat} (hn : (n : Int) = min tall (L : Int)) :
    ∀ (j i : Nat) (m : List Int), i + j = n → Laid T N L r S i m1 m → ∃ m', steps (linkA T L r) (linkT L dl sq tall) j m (goOn tall L sk ps ss i) = some (m', ⟨3, n, sk, ps, ss⟩) ∧ Laid T N L r S n m1 m'
  | 0, i, m, e, h => by
    obtain rfl : i = n := e
    exact ⟨m, by rw [goOn_end (by omega)]; rfl, h⟩
  | j + 1, i, m, e, h => by
    have hi : i < L := by omega
    obtain ⟨s1, s2⟩ := hS i hi
    have hset := fun {x : Int} {g : Nat} (a : idx x ≤ (N : Int)) (b : g < L) => set_way (v := S i) hT hN hL h.len h2 a hi b
    have hs : Laid T N L r S (i + 1) m1 (setI m (nextI T L (idx r) i) (S i)) :=
      ⟨by rw [setI_length]; exact h.len, fits_set h.fit _ s2, fun x g a b c => by rw [hset a b, if_neg fun q => c q.1]; exact h.way x g a b c, fun g a => by
        rw [hset h2 (by omega)]
        by_cases e : g = i
        · rw [if_pos ⟨rfl, e⟩, e]
        · rw [if_neg fun q => e q.2]
          exact h.own g (by omega), fun g a b => by rw [hset h2 b, if_neg fun q => by omega]; exact h.rest g (by omega) b,
        fun x a b => by rw [set_key hT hN hL h2 a b hi]; exact h.key x a b, fun k hk => by rw [get_other (Ne.symm (hk r i h2 hi))]; exact h.oth k hk⟩
    obtain ⟨m', k1, k2⟩ := lay_run hT hN hL h2 (dl := dl) (sq := sq) (tall := tall) (sk := sk) (ps := ps) (ss := ss) hS hn j (i + 1) _ (by omega) hs
    refine ⟨m', ?_, k2⟩
    rw [goOn_on (by omega), steps_more (k := j) linkA_2, nextD_2, linkT_2, Int.toNat_natCast, s1]
    exact k1
/-- What is so behind it. -/
structure Linked (T N L : Nat) (l m : List Int) (r tall : Int) (P S : Nat → Int) : Prop where
  len : m.length = wordsN T N L
  fit : BM.Fits m
  key : ∀ x : Int, 1 ≤ idx x → idx x ≤ (N : Int) → keyI T L m x = keyI T L l x
  low : ∃ A B fr, Chain T L N m 0 (A ++ r :: B) ∧ (A ++ r :: B).filter (freeB T L m 0) = A.filter fr ++ r :: B.filter fr ∧ keptL T L N l 0 = A.filter fr ++ B.filter fr
  high : ∀ g : Nat, 1 ≤ g → g < L → ∃ cl, Chain T L N m g cl ∧ cl.Sublist (chainI T L N l g).1 ∧ cl.filter (freeB T L m g) = keptL T L N l g ∧ wayI T L m (P g) g = S g
  own : ∀ g : Nat, g < L → (g : Int) < tall → wayI T L m r g = S g
  oth : ∀ i : Int, (∀ (r : Int) (g : Nat), idx r ≤ (N : Int) → g < L → i ≠ nextI T L (idx r) g) → getI m i = getI l i
theorem res_word {T N L g : Nat} {lt : Int → Bool} {l : List Int} (hk : ∀ c ∈ keptL T L N l g, Word c) : Word (resL T L N lt l g).1 ∧ Word (resL T L N lt l g).2 := by
  constructor
  · rcases find_where lt (keptL T L N l g) 0 with h | ⟨h, -⟩
    · show Word (findL lt (keptL T L N l g) 0).1
      rw [h]; exact ⟨by decide, by decide⟩
    · exact hk _ h
  · rcases find_next lt (keptL T L N l g) 0 with h | ⟨h, -⟩
    · show Word (findL lt (keptL T L N l g) 0).2
      rw [h]; exact ⟨by decide, by decide⟩
    · exact hk _ h
theorem map_getD {f : Nat → Int} {L g : Nat} (h : g < L) : ((List.range L).map f).getD g 0 = f g := by
  rw [List.getD_eq_getElem?_getD, List.getElem?_map, List.getElem?_range h]
  rfl
theorem link_run {T N L : Nat} {r dl sq tall : Int} (hT : T ≤ 8) (hN : N ≤ 64) (hL : L ≤ 8) (hL1 : 1 ≤ L) {l : List Int} (hl : l.length = wordsN T N L) (hf : BM.Fits l) (hg : GoodW T L N l) (hkw : ∀ g : Nat, ∀ c ∈ keptL T L N l g, Word c) (hr : Word r) (h1 : 1 ≤ idx r) (h2 : idx r ≤ (N : Int)) (he : r % 2 = 0) (ht : 1 ≤ tall)
    (hap : ∀ h : Nat, h < L → ∀ c ∈ (chainI T L N l h).1, idx c ≠ idx r ∧ keyI T L l c ≠ (dl, sq)) (hkey : keyI T L l r = (dl, sq)) (lv : Int) :
    ∃ k m sk, k ≤ 1600 ∧ steps (linkA T L r) (linkT L dl sq tall) k l (begin L lv) = some (m, ⟨0, min tall L, sk, (List.range L).map fun h => (resL T L N (fun c => ltK (keyI T L l c) (dl, sq)) l h).1, (List.range L).map fun h => (resL T L N (fun c => ltK (keyI T L l c) (dl, sq)) l h).2⟩) ∧
      Linked T N L l m r tall (fun h => (resL T L N (fun c => ltK (keyI T L l c) (dl, sq)) l h).1) (fun h => (resL T L N (fun c => ltK (keyI T L l c) (dl, sq)) l h).2) := by
  obtain ⟨lt, hlt⟩ : ∃ lt : Int → Bool, lt = fun c => ltK (keyI T L l c) (dl, sq) := ⟨_, rfl⟩
  rw [← hlt]
  have hltk : ∀ c : Int, ltK (keyI T L l c) (dl, sq) = lt c := fun c => by rw [hlt]
  obtain ⟨k1, m1, lv', pr', cu', nx', q1, q2, q3, q4, q5, -, q7, q8⟩ := all_run (Q := 193) (Nat.le_refl _) hT hN hL (dl := dl) (sq := sq) (lt := lt) hg (fun c _ _ => hltk c) L l 0 0 0 [] [] (Nat.le_refl _) ⟨hl, hf, fun _ _ _ _ => rfl, fun _ _ _ => rfl, fun _ _ => rfl⟩ (fun _ _ => .inl rfl)
  clear hlt
  change steps _ _ k1 l (anew L 0 0) = _ at q2
  rw [List.nil_append, List.nil_append] at q2
  obtain ⟨P, hP⟩ : ∃ P : Nat → Int, P = fun h => (resL T L N lt l h).1 := ⟨_, rfl⟩
  obtain ⟨S, hS⟩ : ∃ S : Nat → Int, S = fun h => (resL T L N lt l h).2 := ⟨_, rfl⟩
  rw [← hP, ← hS] at q2 ⊢
  have hP' : ∀ g, (resL T L N lt l g).1 = P g := fun g => by rw [hP]
  have hS' : ∀ g, (resL T L N lt l g).2 = S g := fun g => by rw [hS]
  have hword : ∀ g, Word (P g) ∧ Word (S g) := fun g => by rw [← hP', ← hS']; exact res_word (hkw g)
  obtain ⟨sk, hsk⟩ : ∃ sk : KM.St, sk = ⟨0, lv', pr', cu', nx', (List.range L).reverse.map P, (List.range L).reverse.map S⟩ := ⟨_, rfl⟩
  rw [← hsk] at q2
  have hps : sk.ps.reverse = (List.range L).map P := by rw [hsk]; simp [← List.map_reverse]
  have hss : sk.ss.reverse = (List.range L).map S := by rw [hsk]; simp [← List.map_reverse]
  have hst : seekA T L sk = none := seek_isSome (by rw [hsk])
  clear hsk hP hS
  -- the stores
  obtain ⟨n, hn⟩ : ∃ n : Nat, (n : Int) = min tall (L : Int) := ⟨(min tall (L : Int)).toNat, by omega⟩
  obtain ⟨m2, s1, s2⟩ := lay_run hT hN hL h2 (dl := dl) (sq := sq) (tall := tall) (sk := sk) (ps := (List.range L).map P) (ss := (List.range L).map S) (m1 := m1) (S := S) (fun g a => ⟨map_getD a, (hword g).2⟩) hn n 0 m1 (by omega) ⟨q3, q4, fun _ _ _ _ _ => rfl, fun g a => by omega, fun _ _ _ => rfl, fun _ _ _ => rfl, fun _ _ => rfl⟩
  -- the chains behind the stores
  have hkm : ∀ c : Int, 1 ≤ idx c → idx c ≤ (N : Int) → keyI T L m2 c = keyI T L l c := fun c a b => by rw [s2.key c a b, q7 c a b]
  have hmem : ∀ g : Nat, g < L → ∀ c ∈ (chainI T L N l g).1, 1 ≤ idx c ∧ idx c ≤ (N : Int) := fun g a c hc => by
    obtain ⟨cl, e⟩ := pair_yes (hg g (by omega)).1
    rw [e] at hc
    have := path_in _ _ (chain_of e).2.1 c hc
    exact ⟨this.1, this.2.1⟩
  have hsplit := fun (g : Nat) (a : g < L) => (q5 g a).split (K := (dl, sq)) (fun c x y => by rw [q7 c x y]; exact hltk c)
  -- the same chains, of the words behind the stores
  have hch2 : ∀ (g : Nat) (cl : List Int), g < L → Chain T L N m1 g cl → cl.Sublist (chainI T L N l g).1 → Chain T L N m2 g cl ∧ cl.filter (freeB T L m2 g) = cl.filter (freeB T L m1 g) := fun g cl a hc hs => by
    have hne : ∀ c ∈ cl, idx c ≠ idx r := fun c hc => (hap g a c (hs.subset hc)).1
    have hin := path_in _ _ hc.2.1
    have hw0 : wayI T L m2 0 g = wayI T L m1 0 g := s2.way 0 g (by rw [idx_zero]; omega) a (by rw [idx_zero]; omega)
    refine ⟨⟨by rw [hw0]; exact hc.1, by rw [hw0]; exact path_cong cl _ hc.2.1 fun c hc => s2.way c g (hin c hc).2.1 a (hne c hc), List.Pairwise.imp_of_mem (fun {x y} hx hy hxy => by rw [s2.key x (hin x hx).1 (hin x hx).2.1, s2.key y (hin y hy).1 (hin y hy).2.1]; exact hxy) hc.2.2⟩, ?_⟩
    exact List.filter_congr fun c hc => by unfold freeB; rw [s2.way c g (hin c hc).2.1 a (hne c hc)]
  obtain ⟨A, B, c1, c2, c3, c4, c5, c6, c7, c8⟩ := hsplit 0 hL1
  rw [hP'] at c6
  rw [hS'] at c7
  obtain ⟨d1, d2⟩ := hch2 0 _ hL1 c1 c2
  have hin := path_in _ _ c1.2.1
  have hP0 : idx (P 0) ≤ (N : Int) ∧ idx (P 0) ≠ idx r := by
    rw [← c6]
    rcases last_cases A with rfl | ⟨A', p, rfl⟩
    · exact ⟨by show idx 0 ≤ _; rw [idx_zero]; omega, by show idx 0 ≠ _; rw [idx_zero]; omega⟩
    · rw [last_snoc]
      exact ⟨(hin p (by simp)).2.1, (hap 0 hL1 p (c2.subset (by simp))).1⟩
  have hway0 : wayI T L m2 (P 0) 0 = S 0 := by
    refine (s2.way (P 0) 0 hP0.1 hL1 hP0.2).trans ?_
    rw [← c6, ← c7]; exact c8
  have hrk : keyI T L m2 r = (dl, sq) := by rw [hkm r h1 h2]; exact hkey
  have hhang := hang (r := r) hT hN hL hL1 s2.len d1 h1 h2 he (fun c hc => (hap 0 hL1 c (c2.subset hc)).1) (by rw [c7]; exact s2.own 0 (by omega)) (by rw [c6, c7]; exact hway0)
    (fun a ha => by
      have h5 := hin a (by simp [ha])
      rw [hrk, hkm a h5.1 h5.2.1, hltk]
      exact c4 a ha)
    (fun b hb => by
      have h5 := hin b (by simp [hb])
      rw [hrk, hkm b h5.1 h5.2.1]
      have h6 := c5 b hb
      rw [← hltk] at h6
      rcases cmpK_cases (keyI T L l b) (dl, sq) with ⟨h7, -⟩ | ⟨-, h7, -⟩ | ⟨h7, -⟩
      · rw [h6] at h7; cases h7
      · exact h7
      · exact absurd h7 (hap 0 hL1 b (c2.subset (by simp [hb]))).2)
  rw [c6] at hhang
  obtain ⟨z1, z2⟩ := hhang
  have hset := fun {x : Int} {g : Nat} (a : idx x ≤ (N : Int)) (b : g < L) => set_way (v := r) hT hN hL s2.len hP0.1 a hL1 b
  refine ⟨k1 + (n + 1), setI m2 (nextI T L (idx (P 0)) (0 : Nat)) r, sk, by omega, ?_, ⟨by rw [setI_length]; exact s2.len, fits_set s2.fit _ hr, fun x a b => by rw [set_key hT hN hL hP0.1 a b hL1]; exact hkm x a b, ⟨A, B, freeB T L m2 0, z1, z2, ?_⟩, fun g a b => ?_, fun g a b => ?_, fun i hi => ?_⟩⟩
  · refine (steps_lead (link_leads (r := r) (tall := tall) (lv := lv)) k1 (n + 1) l m1 (anew L 0 0) sk (1, nextI T L (idx 0) (L - 1), 0, 0, 0) ?_ q2 hst).trans ?_
    · unfold anew
      rw [desc_on (by omega), seekA_1]
    · rw [hps, hss]
      refine steps_then n 1 m1 m2 _ _ _ s1 ?_
      rw [steps_more (k := 0) linkA_3, nextD_3, foundD_yes (by simp)]
      have e1 : ((List.range L).map P).getD 0 0 = P 0 := map_getD hL1
      have e2 : ((List.range L).map S).getD 0 0 = S 0 := map_getD hL1
      have e3 : getI m2 (nextI T L (idx (P 0)) 0) = S 0 := hway0
      rw [linkT_3 (by show getI m2 (nextI T L (idx (((List.range L).map P).getD 0 0)) 0) = _; rw [e1, e2]; exact e3), e1, e2, ← e3, MM.swap_is, hn]
      rfl
  · have h5 := d2.trans c3
    rw [List.filter_append] at h5
    exact h5.symm
  · obtain ⟨A', B', g1, g2, g3, -, -, g6, g7, g8⟩ := hsplit g b
    obtain ⟨f1, f2⟩ := hch2 g _ b g1 g2
    have hw : ∀ x : Int, idx x ≤ (N : Int) → wayI T L (setI m2 (nextI T L (idx (P 0)) (0 : Nat)) r) x g = wayI T L m2 x g := fun x c => by rw [hset c b, if_neg fun q => by omega]
    have hing := path_in _ _ f1.2.1
    rw [hP'] at g6
    rw [hS'] at g7
    refine ⟨A' ++ B', chain_on hw (fun c hc => set_key hT hN hL hP0.1 (hing c hc).1 (hing c hc).2.1 hL1) f1, g2, ?_, ?_⟩
    · rw [← g3, ← f2]
      exact List.filter_congr fun c hc => by unfold freeB; rw [hw c (hing c hc).2.1]
    · rw [← g6, ← g7, ← g8]
      have hla : idx (lastD A' 0) ≤ (N : Int) ∧ idx (lastD A' 0) ≠ idx r := by
        rcases last_cases A' with rfl | ⟨A2, p, rfl⟩
        · exact ⟨by show idx 0 ≤ _; rw [idx_zero]; omega, by show idx 0 ≠ _; rw [idx_zero]; omega⟩
        · rw [last_snoc]
          exact ⟨(hing p (by simp)).2.1, (hap g b p (g2.subset (by simp))).1⟩
      rw [hw _ hla.1, s2.way _ g hla.1 b hla.2]
  · rw [hset h2 a, if_neg fun q => hP0.2 q.1.symm]
    exact s2.own g (by omega)
  · rw [get_other (Ne.symm (hi (P 0) 0 hP0.1 hL1)), s2.oth i hi, q8 i hi]
end Go.Proofs.YtickghidajpbnaaGreatDoor.LiM

/- Two settlers done alone, one behind the other, where all chains rise, whoever is in one without a mark is so in the one below, and the timer's ways on are marked, in plain lists: the timer is in no chain then. No program is named. -/
namespace Go.Proofs.YtickghidajpbnaaGreatDoor.StM
set_option maxRecDepth 20000
open DM PM CM BM OM KM Runs
open LiM (seek_isSome seekT_st at_in at_inj chains_on)
open Go.RowKit (wrap64)
set_option linter.unusedVariables false
set_option linter.unusedSimpArgs false

/-- A level that was sought by a timer's own key: where that was marked, if it was there, it is not there any more. -/
theorem gone {T N L g : Nat} (hN : N ≤ 64) {l m : List Int} {r : Int} {lt : Int → Bool} {K : Key} (h : Sought T N L lt l m g) (hlt : ∀ c : Int, 1 ≤ idx c → idx c ≤ (N : Int) → ltK (keyI T L m c) K = lt c) (hk : keyI T L m r = K)
    (hm : r ∈ (chainI T L N l g).1 → freeB T L l g r = false) : ∃ cl, chainI T L N m g = (cl, true) ∧ ¬ r ∈ cl := by
  obtain ⟨A, B, c1, c2, c3, c4, c5, c6, c7, c8⟩ := h.split hlt
  have hin := path_in _ _ c1.2.1
  refine ⟨A ++ B, chain_is hN c1, fun hr => ?_⟩
  have hir := hin r hr
  rcases List.mem_append.1 hr with ha | hb
  · have h1 := c4 r ha
    rw [← hlt r hir.1 hir.2.1, hk, ltK_irrefl] at h1
    cases h1
  · cases B with
    | nil => cases hb
    | cons b B =>
      have hib := hin b (by simp)
      have hS := find_next lt (keptL T L N l g) 0
      change (resL T L N lt l g).2 = 0 ∨ ((resL T L N lt l g).2 ∈ _ ∧ lt (resL T L N lt l g).2 = false) at hS
      rw [← c7] at hS
      change b = 0 ∨ (b ∈ _ ∧ lt b = false) at hS
      have hS2 := hS.resolve_left fun e => by rw [e, idx_zero] at hib; omega
      rcases List.mem_cons.1 hb with e | hb
      · subst e
        have h2 := List.mem_filter.1 hS2.1
        rw [hm h2.1] at h2
        exact absurd h2.2 (by simp)
      · have hr3 := c1.2.2
        rw [Rises, List.pairwise_append, List.pairwise_cons] at hr3
        have h3 := hr3.2.1.1 r hb
        rw [hk, hlt b hib.1 hib.2.1, hS2.2] at h3
        cases h3

section
variable {T L r dl sq ep : Int} {wt : Bool}
theorem settle_leads : Leads (settleA T L r) (settleT L dl sq) (seekA T L) (seekT L dl sq) (fun t => ⟨2, t, ep, wt⟩) (fun t => ⟨3, t, ep, wt⟩) := by
  intro t d hd
  refine ⟨by rw [settleA_2]; exact hd, fun f => ?_⟩
  rw [settleT_2]
  rcases seekT_st (dl := dl) (sq := sq) (f := f) (show (seekA T L t).isSome = true by rw [hd]; rfl) with h | h
  · rw [goOn_done h, seek_isSome h]
    rfl
  · rw [if_pos h, goOn_more]
    intro h0
    rw [seek_isSome h0] at h
    cases h
end
/-- The word Hold of a slot is no way on, and no part of a key. -/
theorem hold_way {T N L : Nat} (hT : T ≤ 8) (hN : N ≤ 64) (hL : L ≤ 8) {r : Int} (h1 : 1 ≤ idx r) (h2 : idx r ≤ (N : Int)) {x : Int} {g : Nat} (hx : idx x ≤ (N : Int)) (hg : g < L) : atI T L (idx r) 4 ≠ nextI T L (idx x) g := by
  obtain ⟨e, -⟩ := way_nat hT hN hL hx hg
  have a1 := key_nat hT hN hL (a := 4) h1 h2 (by omega)
  change atI _ _ _ 4 = _ at a1
  rw [e, a1]
  intro q
  exact next_at (T := T) (i := (idx x).toNat) (j := (idx r).toNat) hg (by omega) (a := 4) (by omega) (by omega)
section
variable {T N L : Nat} {l : List Int} {r v : Int}
theorem hold_in (hT : T ≤ 8) (hN : N ≤ 64) (hL : L ≤ 8) (hl : l.length = wordsN T N L) (h1 : 1 ≤ idx r) (h2 : idx r ≤ (N : Int)) : there l (atI T L (idx r) 4) := by
  have a1 := key_nat hT hN hL (a := 4) h1 h2 (by omega)
  change atI _ _ _ 4 = _ at a1
  rw [a1]
  exact MM.there_in hl (at_in (by omega) (by omega) (by omega))
theorem hold_set (hT : T ≤ 8) (hN : N ≤ 64) (hL : L ≤ 8) (h1 : 1 ≤ idx r) (h2 : idx r ≤ (N : Int)) {x : Int} {g : Nat} (hx : idx x ≤ (N : Int)) (hg : g < L) : wayI T L (setI l (atI T L (idx r) 4) v) x g = wayI T L l x g := get_other (hold_way hT hN hL h1 h2 hx hg)
theorem hold_key (hT : T ≤ 8) (hN : N ≤ 64) (hL : L ≤ 8) (h1 : 1 ≤ idx r) (h2 : idx r ≤ (N : Int)) {x : Int} (g1 : 1 ≤ idx x) (g2 : idx x ≤ (N : Int)) : keyI T L (setI l (atI T L (idx r) 4) v) x = keyI T L l x := by
  have a4 := key_nat hT hN hL (a := 4) h1 h2 (by omega)
  have b1 := key_nat hT hN hL (a := 1) g1 g2 (by omega)
  have b2 := key_nat hT hN hL (a := 2) g1 g2 (by omega)
  change atI _ _ _ 4 = _ at a4
  change atI _ _ _ 1 = _ at b1
  change atI _ _ _ 2 = _ at b2
  have hne : ∀ b : Nat, b ≤ 2 → atN T L (idx r).toNat 4 ≠ atN T L (idx x).toNat b := fun b hb q => by
    have := (at_inj (by omega) (by omega) (by omega) (by omega) q).2
    omega
  unfold keyI
  rw [get_other, get_other]
  · rw [a4, b2]; intro q; exact hne 2 (by omega) (by omega)
  · rw [a4, b1]; intro q; exact hne 1 (by omega) (by omega)
theorem hold_zero (hT : T ≤ 8) (hN : N ≤ 64) (hL : L ≤ 8) (h1 : 1 ≤ idx r) (h2 : idx r ≤ (N : Int)) : getI (setI l (atI T L (idx r) 4) v) 0 = getI l 0 := by
  have a4 := key_nat hT hN hL (a := 4) h1 h2 (by omega)
  change atI _ _ _ 4 = _ at a4
  refine get_other ?_
  rw [a4]
  unfold atN
  omega
end
/-- One less. -/
theorem less_one {l : List Int} {i : Int} (hi : there l i) (a : Int) : addI (setI l i a) i 18446744073709551615 = setI l i ((a + 18446744073709551615) % 18446744073709551616) := by
  unfold addI
  rw [get_set hi, set_set]
/-- The first one: it just lets go. -/
theorem first_run {T L r dl sq : Int} {l : List Int} (hi : there l (atI T L (idx r) 4)) : ∃ sa, alone (settleA T L r) (settleT L dl sq) 2000 (setI l (atI T L (idx r) 4) 2) new = (setI l (atI T L (idx r) 4) 1, sa) ∧ settleA T L r sa = none ∧ sa.wt = false := by
  refine ⟨⟨0, ⟨0, 0, 0, 0, 0, [], []⟩, 0, false⟩, ?_, settleA_0, rfl⟩
  refine alone_steps 1 2000 _ _ _ _ ?_ settleA_0 (by omega)
  unfold new
  rw [steps_more (k := 0) settleA_1, nextD_4, foundD_yes (by simp)]
  change steps _ _ 0 _ (settleT L dl sq ⟨1, _, 0, false⟩ (getI (setI l (atI T L (idx r) 4) 2) (atI T L (idx r) 4))) = _
  rw [get_set hi, settleT_1n (by decide), less_one hi]
  rfl
/-- The last one: it takes the timer out of all chains, and its slot waits since the epoch that is. -/
theorem last_run {T N L : Nat} {r dl sq : Int} (hT : T ≤ 8) (hN : N ≤ 64) (hL : L ≤ 8) (hL1 : 1 ≤ L) {l : List Int} (hl : l.length = wordsN T N L) (hf : BM.Fits l) (hg : GoodW T L N l) (h1 : 1 ≤ idx r) (h2 : idx r ≤ (N : Int)) (hkey : keyI T L l r = (dl, sq))
    (hm : ∀ h : Nat, h < L → r ∈ (chainI T L N l h).1 → freeB T L l h r = false) :
    ∃ m sb, alone (settleA T L r) (settleT L dl sq) 2000 (setI l (atI T L (idx r) 4) 1) new = (m, sb) ∧ settleA T L r sb = none ∧ sb.wt = true ∧ sb.ep = getI l 0 ∧ m.length = wordsN T N L ∧ BM.Fits m ∧ getI m (atI T L (idx r) 4) = 0 ∧
      ∀ h : Nat, h < L → (∃ cl, chainI T L N m h = (cl, true) ∧ ¬ r ∈ cl) ∧ keptL T L N m h = keptL T L N l h := by
  have hi := hold_in hT hN hL hl h1 h2
  have hway := fun (x : Int) (g : Nat) (a : idx x ≤ (N : Int)) (b : g < L) => hold_set (l := l) (v := 0) hT hN hL h1 h2 a b
  have hky := fun {x : Int} (a : 1 ≤ idx x) (b : idx x ≤ (N : Int)) => hold_key (l := l) (v := 0) hT hN hL h1 h2 a b
  have hz := hold_zero (l := l) (v := 0) hT hN hL h1 h2
  have hq := fun (x : Int) (g : Nat) (a : idx x ≤ (N : Int)) (b : g < L) => hold_way hT hN hL h1 h2 a b
  have hat := get_set hi 0
  have hlen : (setI l (atI T L (idx r) 4) 0).length = wordsN T N L := (setI_length _ _ _).trans hl
  have hfit := fits_set hf (atI T L (idx r) 4) (show (0 : Int) ≤ 0 ∧ (0 : Int) < 18446744073709551616 by omega)
  have hstart : ∀ (k : Nat) (x : List Int × St), steps (settleA T L r) (settleT L dl sq) k (setI l (atI T L (idx r) 4) 0) ⟨2, anew L 0 0, 0, false⟩ = some x → steps (settleA T L r) (settleT L dl sq) (k + 1) (setI l (atI T L (idx r) 4) 1) new = some x := fun k x hx => by
    unfold new
    rw [steps_more (k := k) settleA_1, nextD_4, foundD_yes (by simp)]
    change steps _ _ k _ (settleT L dl sq ⟨1, _, 0, false⟩ (getI (setI l (atI T L (idx r) 4) 1) (atI T L (idx r) 4))) = _
    rw [get_set hi, settleT_1 rfl, less_one hi, goOn_more]
    · exact hx
    · unfold anew
      rw [desc_on (by omega)]
      simp
  generalize setI l (atI T L (idx r) 4) 0 = l0 at *
  have h0n : ∀ (x : Int) (g : Nat), idx x ≤ (N : Int) → g < L → (0 : Int) ≠ nextI T L (idx x) g := fun x g a b => by
    obtain ⟨e, -⟩ := way_nat hT hN hL a b
    rw [e]
    unfold nextN atN
    split <;> omega
  obtain ⟨hg0, hch⟩ := chains_on (l := l) (m := l0) hN hg (fun x g a b => hway x g a b) fun g a c hc => by
    obtain ⟨cl, e⟩ := pair_yes (hg g (by omega)).1
    rw [e] at hc
    have := path_in _ _ (chain_of e).2.1 c hc
    exact hky this.1 this.2.1
  obtain ⟨lt, hlt⟩ : ∃ lt : Int → Bool, lt = fun c => ltK (keyI T L l0 c) (dl, sq) := ⟨_, rfl⟩
  have hltk : ∀ c : Int, ltK (keyI T L l0 c) (dl, sq) = lt c := fun c => by rw [hlt]
  clear hlt
  obtain ⟨k1, m1, lv', pr', cu', nx', q1, q2, q3, q4, q5, -, q7, q8⟩ := all_run (Q := 193) (Nat.le_refl _) hT hN hL (dl := dl) (sq := sq) (lt := lt) hg0 (fun c _ _ => hltk c) L l0 0 0 0 [] [] (Nat.le_refl _) ⟨hlen, hfit, fun _ _ _ _ => rfl, fun _ _ _ => rfl, fun _ _ => rfl⟩ (fun _ _ => .inl rfl)
  change steps _ _ k1 l0 (anew L 0 0) = _ at q2
  have hep : getI m1 0 = getI l 0 := (q8 0 fun x g a b => h0n x g a b).trans hz
  have hlead := steps_lead (settle_leads (T := T) (L := L) (r := r) (dl := dl) (sq := sq) (ep := 0) (wt := false)) k1 1 l0 m1 (anew L 0 0) _ (1, nextI T L (idx 0) (L - 1), 0, 0, 0) (by unfold anew; rw [desc_on (by omega), seekA_1]) q2 seekA_0
  rw [steps_more (k := 0) settleA_3, nextD_1, foundD_yes (by simp), settleT_3] at hlead
  change _ = some (m1, (⟨0, _, getI m1 0, true⟩ : St)) at hlead
  rw [hep] at hlead
  refine ⟨m1, _, alone_steps (k1 + 1 + 1) 2000 _ _ _ _ (hstart _ _ hlead) settleA_0 (by omega), settleA_0, rfl, rfl, q3, q4, (q8 _ fun x g a b => hq x g a b).trans hat, fun h hh => ⟨?_, ?_⟩⟩
  · refine gone hN (q5 h hh) (K := (dl, sq)) (fun c x y => by rw [q7 c x y]; exact hltk c) (by rw [q7 r h1 h2, hky h1 h2]; exact hkey) fun hr => ?_
    rw [(hch h hh).1] at hr
    have h3 := hm h hh hr
    unfold freeB at h3 ⊢
    rw [hway r h h2 hh]
    exact h3
  · exact ((q5 h hh).finds hN).2.trans (hch h hh).2
end Go.Proofs.YtickghidajpbnaaGreatDoor.StM
