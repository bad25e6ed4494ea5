/- Timers that are made in all slots, one step of any of their makers at a time, in plain arithmetic. No program is named. -/
import Derived.Test.YtemjbheegdpofaaDoorMintMath
import Derived.Test.YtemjbheegdpofaaDoorMem
namespace Go.Proofs.YtemjbheegdpofaaDoor.MiM
open DM PM CM BM MM Runs
set_option linter.unusedVariables false
set_option linter.unusedSimpArgs false

theorem minA_fits {T L i dw tw : Int} {s : St} (h : Ok s) (hd : Word dw) (ht : Word tw) {d : D} (ha : minA T L i dw tw s = some d) : DM.Fits d := by
  have hc := k_cases h
  obtain ⟨h1, h2, h3, h4⟩ := h
  obtain ⟨k, sa, r, sq⟩ := s
  have hz : ∀ j, -9223372036854775808 ≤ atI T L i j ∧ atI T L i j ≤ 9223372036854775807 := fun j => at_fits _ _ _ _
  have h0 := word_zero
  simp only at hc h2 h3 h4
  rcases hc with rfl | rfl | rfl | rfl | rfl | rfl | rfl | rfl
  · cases ha; exact ⟨hz _, h0, h0, h0⟩
  · cases ha; exact ⟨hz _, h2, h0, h0⟩
  · cases ha; exact ⟨by simp, by simp, by simp, by simp⟩
  · cases ha; exact ⟨hz _, hd, h0, h3⟩
  · cases ha; exact ⟨hz _, h4, h0, h3⟩
  · cases ha; exact ⟨hz _, ht, h0, h3⟩
  · cases ha; exact ⟨hz _, by simp, by simp, h3⟩
  · cases ha

/-! Which maker a pick is. -/
theorem tmod_lt (x : Int) {S : Nat} (h : 1 ≤ S) : -(S : Int) < x.tmod S ∧ x.tmod S < (S : Int) := by
  have hS : (0 : Int) < S := by omega
  rcases Int.le_total 0 x with h0 | h0
  · rw [Int.tmod_eq_emod_of_nonneg h0]
    have := Int.emod_nonneg x (show (S : Int) ≠ 0 by omega)
    have := Int.emod_lt_of_pos x hS
    omega
  · have e : x.tmod S = -((-x).tmod S) := by rw [Int.neg_tmod]; omega
    rw [e, Int.tmod_eq_emod_of_nonneg (show 0 ≤ -x by omega)]
    have := Int.emod_nonneg (-x) (show (S : Int) ≠ 0 by omega)
    have := Int.emod_lt_of_pos (-x) hS
    omega
theorem pick (x : Int) {S : Nat} (h : 1 ≤ S) (h2 : S ≤ 64) : ∃ m : Nat, m < S ∧ (Go.RowKit.wrap64 (x.tmod S + S)).tmod S = (m : Int) := by
  have hS : (0 : Int) < S := by omega
  have h3 := tmod_lt x h
  have e : Go.RowKit.wrap64 (x.tmod S + S) = x.tmod S + S := by unfold Go.RowKit.wrap64; omega
  rw [e, Int.tmod_eq_emod_of_nonneg (by omega)]
  have h4 := Int.emod_nonneg (x.tmod S + S) (show (S : Int) ≠ 0 by omega)
  have h5 := Int.emod_lt_of_pos (x.tmod S + S) hS
  exact ⟨((x.tmod S + S) % S).toNat, by omega, by omega⟩

/-- All makers, of which the m-th is that of the slot m + 1, and the words, behind so many deeds at most. -/
structure Inv (T S L : Nat) (G : Int) (n : Nat) (l : List Int) (ss : List St) : Prop where
  len : l.length = wordsN T S L
  fits : BM.Fits l
  many : ss.length = S
  ok : ∀ s ∈ ss, Ok s
  count : 0 ≤ getI l 2 ∧ getI l 2 ≤ (n : Int)
  state : ∀ (m : Nat) s, ss[m]? = some s → getI l (atI T L ((m : Int) + 1) 0) = SM.stI G (if s.k ≤ 1 then 0 else 1)
  refs : ∀ (m : Nat) s, ss[m]? = some s → 1 ≤ s.k → s.sa = SM.stI G 1 ∧ s.r = RM.ofI G ((m : Int) + 1)
  seqs : ∀ (m : Nat) s, ss[m]? = some s → 3 ≤ s.k → s.sq < getI l 2
  seqw : ∀ (m : Nat) s, ss[m]? = some s → 5 ≤ s.k → getI l (atI T L ((m : Int) + 1) 2) = s.sq
  hold : ∀ (m : Nat) s, ss[m]? = some s → 7 ≤ s.k → getI l (atI T L ((m : Int) + 1) 4) = 2
  apart : ∀ (a b : Nat) s t, ss[a]? = some s → ss[b]? = some t → a ≠ b → 3 ≤ s.k → 3 ≤ t.k → s.sq ≠ t.sq

theorem lt_eq {a b c : Int} (h : a < b) (e : b = c) : a < c := e ▸ h
section
variable {T S L : Nat} {G : Int} {n m : Nat} {l : List Int} {ss : List St}
/-- Where a slot's words are. -/
theorem at_m {a : Nat} (hT : T ≤ 8) (hS : S ≤ 64) (hL : L ≤ 8) (hm : m < S) (ha : a ≤ 5) : ∃ b : Nat, atI T L ((m : Int) + 1) (a : Int) = (b : Int) ∧ b = atN T L (m + 1) a ∧ 4 ≤ b ∧ b < wordsN T S L := by
  have h := at_nat (a := a) hT hS hL (show 1 ≤ m + 1 by omega) (show m + 1 ≤ S by omega) ha
  simpa using h
/-- A word of one slot turned: that is so, and no other one is, nor is the serial. -/
theorem turn_at {a : Nat} (hT : T ≤ 8) (hS : S ≤ 64) (hL : L ≤ 8) (hm : m < S) (ha : a ≤ 5) (hl : l.length = wordsN T S L) (v : Int) :
    getI (setI l (atI T L ((m : Int) + 1) (a : Int)) v) (atI T L ((m : Int) + 1) (a : Int)) = v ∧ getI (setI l (atI T L ((m : Int) + 1) (a : Int)) v) 2 = getI l 2 ∧
      ∀ (m' a' : Nat), m' < S → a' ≤ 5 → ¬ (m' = m ∧ a' = a) → getI (setI l (atI T L ((m : Int) + 1) (a : Int)) v) (atI T L ((m' : Int) + 1) (a' : Int)) = getI l (atI T L ((m' : Int) + 1) (a' : Int)) := by
  obtain ⟨b, hb, eb, b4, bw⟩ := at_m hT hS hL hm ha
  rw [hb]
  refine ⟨get_set (there_in hl bw) v, get_other (by omega), fun m' a' hm' ha' hne => ?_⟩
  obtain ⟨c, hc, ec, c4, cw⟩ := at_m hT hS hL hm' ha'
  rw [hc]
  refine get_other fun e => ?_
  have e1 : b = c := by omega
  have := at_apart (T := T) (L := L) (show 1 ≤ m + 1 by omega) (show 1 ≤ m' + 1 by omega) ha ha' (by omega)
  omega
/-- One maker's step. -/
theorem Inv.turn (h : Inv T S L G n l ss) {s' : St} {l' : List Int} (hlen : l'.length = l.length) (hfits : BM.Fits l') (hok : Ok s') (hc : getI l 2 ≤ getI l' 2 ∧ getI l' 2 ≤ getI l 2 + 1)
    (hoth : ∀ (m' a' : Nat), m' < S → m' ≠ m → a' ≤ 5 → getI l' (atI T L ((m' : Int) + 1) (a' : Int)) = getI l (atI T L ((m' : Int) + 1) (a' : Int)))
    (hst : getI l' (atI T L ((m : Int) + 1) 0) = SM.stI G (if s'.k ≤ 1 then 0 else 1)) (hr : 1 ≤ s'.k → s'.sa = SM.stI G 1 ∧ s'.r = RM.ofI G ((m : Int) + 1))
    (hsq : 3 ≤ s'.k → s'.sq < getI l' 2) (h5 : 5 ≤ s'.k → getI l' (atI T L ((m : Int) + 1) 2) = s'.sq) (h7 : 7 ≤ s'.k → getI l' (atI T L ((m : Int) + 1) 4) = 2)
    (hap : 3 ≤ s'.k → ∀ (b : Nat) t, ss[b]? = some t → b ≠ m → 3 ≤ t.k → s'.sq ≠ t.sq) : Inv T S L G (n + 1) l' (ss.set m s') := by
  have key : ∀ (j : Nat) s, (ss.set m s')[j]? = some s → (j = m ∧ s = s') ∨ (j ≠ m ∧ ss[j]? = some s ∧ j < S) := by
    intro j s hj
    by_cases e : j = m
    · subst e
      refine .inl ⟨rfl, ?_⟩
      rw [List.getElem?_set] at hj
      simp only [if_true] at hj
      split at hj
      · exact (Option.some.inj hj).symm
      · cases hj
    · rw [List.getElem?_set_ne (fun q => e q.symm)] at hj
      exact .inr ⟨e, hj, by have := (List.getElem?_eq_some_iff.1 hj).1; rw [← h.many]; exact this⟩
  have hcount := h.count
  refine ⟨hlen.trans h.len, hfits, by rw [List.length_set]; exact h.many, ?_, ⟨by omega, by simp only [Int.natCast_add, Int.natCast_one]; omega⟩, ?_, ?_, ?_, ?_, ?_, ?_⟩
  · intro s hs
    rcases List.mem_or_eq_of_mem_set hs with h1 | h1
    · exact h.ok s h1
    · rw [h1]; exact hok
  · intro j s hj
    rcases key j s hj with ⟨rfl, rfl⟩ | ⟨e, hs, hS⟩
    · exact hst
    · have := hoth j 0 hS e (by omega)
      simp only [Int.natCast_zero, Int.ofNat_zero] at this
      rw [← h.state j s hs]
      exact this
  · intro j s hj hk
    rcases key j s hj with ⟨rfl, rfl⟩ | ⟨e, hs, hS⟩
    · exact hr hk
    · exact h.refs j s hs hk
  · intro j s hj hk
    rcases key j s hj with ⟨rfl, rfl⟩ | ⟨e, hs, hS⟩
    · exact hsq hk
    · have := h.seqs j s hs hk; omega
  · intro j s hj hk
    rcases key j s hj with ⟨rfl, rfl⟩ | ⟨e, hs, hS⟩
    · exact h5 hk
    · rw [← h.seqw j s hs hk]
      exact hoth j 2 hS e (by omega)
  · intro j s hj hk
    rcases key j s hj with ⟨rfl, rfl⟩ | ⟨e, hs, hS⟩
    · exact h7 hk
    · rw [← h.hold j s hs hk]
      exact hoth j 4 hS e (by omega)
  · intro a b s t ha hb hne hs ht
    rcases key a s ha with ⟨rfl, rfl⟩ | ⟨ea, hsa, _⟩
    · rcases key b t hb with ⟨rfl, rfl⟩ | ⟨eb, htb, _⟩
      · exact absurd rfl hne
      · exact hap hs b t htb eb ht
    · rcases key b t hb with ⟨rfl, rfl⟩ | ⟨eb, htb, _⟩
      · exact fun e => hap ht a s hsa ea hs e.symm
      · exact h.apart a b s t hsa htb hne hs ht
/-- A deed more is none that was not done. -/
theorem Inv.idle (h : Inv T S L G n l ss) : Inv T S L G (n + 1) l ss :=
  ⟨h.len, h.fits, h.many, h.ok, ⟨h.count.1, by have := h.count.2; simp only [Int.natCast_add, Int.natCast_one]; omega⟩, h.state, h.refs, h.seqs, h.seqw, h.hold, h.apart⟩
theorem Inv.step (h : Inv T S L G n l ss) (hT : T ≤ 8) (hS : S ≤ 64) (hL : L ≤ 8) (hG : 0 ≤ G ∧ G ≤ 4294967295) (hn : n ≤ 300) {s : St} {dw tw : Int} (hdw : Word dw) (htw : Word tw) (hm : ss[m]? = some s) {d : D} (hd : minA T L ((m : Int) + 1) dw tw s = some d) :
    Inv T S L G (n + 1) (nextD l d) (ss.set m (minT ((m : Int) + 1) s (foundD l d))) := by
  have hmS : m < S := by have := (List.getElem?_eq_some_iff.1 hm).1; rw [← h.many]; exact this
  have hok := h.ok s (List.mem_of_getElem? hm)
  have hdf := minA_fits hok hdw htw hd
  have hfit := fits_next h.fits hdf
  have hok' := minT_ok (i := (m : Int) + 1) hok (show Word (foundD l d) from fits_found h.fits d)
  have hst := h.state m s hm
  have hr := h.refs m s hm
  have hsq := h.seqs m s hm
  have h5 := h.seqw m s hm
  have h7 := h.hold m s hm
  have hcount := h.count
  have hap : 3 ≤ s.k → ∀ (b : Nat) t, ss[b]? = some t → b ≠ m → 3 ≤ t.k → s.sq ≠ t.sq := fun hk b t hb hne ht => h.apart m b s t hm hb (fun e => hne e.symm) hk ht
  have hc := k_cases hok
  obtain ⟨k, sa, r, sq⟩ := s
  have tn : ∀ {a : Nat}, a ≤ 5 → ∀ v, _ := fun {a} ha v => turn_at (a := a) hT hS hL hmS ha h.len v
  simp only at hc hst hr hsq h5 h7 hap
  have hG1 : ∀ x : Int, 0 ≤ x → x ≤ 4294967295 → SM.stI G x / 4294967296 = G := fun x _ _ => SM.stI_gen hG.1 hG.2
  rcases hc with rfl | rfl | rfl | rfl | rfl | rfl | rfl | rfl
  · cases hd
    rw [nextD_1] at hfit ⊢
    rw [foundD_yes (by simp)] at hok' ⊢
    simp only at hok' ⊢
    rw [if_pos (by omega)] at hst
    rw [hst] at hok' ⊢
    unfold minT at hok' ⊢
    simp only at hok' ⊢
    rw [hG1 0 (by omega) (by omega)] at hok' ⊢
    exact h.turn rfl hfit hok' ⟨by omega, by omega⟩ (fun _ _ _ _ _ => rfl) (by rw [hst, if_pos (by simp)]) (fun _ => ⟨rfl, rfl⟩) (fun q => by simp at q) (fun q => by simp at q) (fun q => by simp at q) (fun q => by simp at q)
  · cases hd
    rw [nextD_2] at hfit ⊢
    obtain ⟨t1, t2, t3⟩ := tn (a := 0) (by omega) sa
    simp only [Int.natCast_zero, Int.ofNat_zero] at t1 t2 t3
    change getI (setI l (atI T L ((m : Int) + 1) 0) sa) _ = _ at t1 t2
    unfold minT at hok' ⊢
    simp only at hok' ⊢
    refine h.turn (by rw [setI_length]) hfit hok' ⟨by rw [t2]; omega, by rw [t2]; omega⟩ (fun m' a' h1 h2 h3 => t3 m' a' h1 h3 (fun e => h2 e.1)) (by rw [t1, (hr (by omega)).1, if_neg (by simp)]) (fun _ => hr (by omega)) (fun q => by simp at q) (fun q => by simp at q) (fun q => by simp at q) (fun q => by simp at q)
  · cases hd
    rw [nextD_4] at hfit ⊢
    rw [foundD_yes (by simp)] at hok' ⊢
    simp only at hok' ⊢
    unfold minT at hok' ⊢
    simp only at hok' ⊢
    have hw : 2 < wordsN T S L := by unfold wordsN; omega
    have e1 : (getI l 2 + 1) % 18446744073709551616 = getI l 2 + 1 := by omega
    unfold addI at hfit ⊢
    rw [e1] at hfit ⊢
    have t2 : getI (setI l 2 (getI l 2 + 1)) 2 = getI l 2 + 1 := get_set (there_in (j := 2) h.len hw) _
    have t3 : ∀ (m' a' : Nat), m' < S → a' ≤ 5 → getI (setI l 2 (getI l 2 + 1)) (atI T L ((m' : Int) + 1) (a' : Int)) = getI l (atI T L ((m' : Int) + 1) (a' : Int)) := fun m' a' h1 h2 => by
      obtain ⟨b, hb, _, b4, _⟩ := at_m (m := m') (a := a') hT hS hL h1 h2
      rw [hb]
      exact get_other (by omega)
    have t0 := t3 m 0 hmS (by omega)
    simp only [Int.natCast_zero, Int.ofNat_zero] at t0
    refine h.turn (by rw [setI_length]) hfit hok' ⟨by rw [t2]; omega, by rw [t2]; omega⟩ (fun m' a' h1 h2 h3 => t3 m' a' h1 h3) ?_ (fun _ => hr (by omega)) (fun q => by rw [t2]; simp only; omega) (fun q => by simp at q) (fun q => by simp at q) (fun q b t hb hne ht => ?_)
    · rw [if_neg (by simp)] at hst ⊢
      rw [← hst]
      exact t0
    · have := h.seqs b t hb ht
      show getI l 2 ≠ t.sq
      omega
  · cases hd
    rw [nextD_2] at hfit ⊢
    obtain ⟨t1, t2, t3⟩ := tn (a := 1) (by omega) dw
    have t0 := t3 m 0 hmS (by omega) (by omega)
    simp only [Int.natCast_zero, Int.ofNat_zero, Int.natCast_one, Int.ofNat_one] at t0 t1 t2 t3
    unfold minT at hok' ⊢
    simp only at hok' ⊢
    refine h.turn (by rw [setI_length]) hfit hok' ⟨Int.le_of_eq t2.symm, by have := t2; omega⟩ (fun m' a' h1 h2 h3 => t3 m' a' h1 h3 (fun e => h2 e.1)) ?_ (fun _ => hr (by omega)) (fun q => lt_eq (hsq (by omega)) t2.symm) (fun q => by simp at q) (fun q => by simp at q) (fun _ => hap (by omega))
    rw [if_neg (by simp)] at hst ⊢
    exact t0.trans hst
  · cases hd
    rw [nextD_2] at hfit ⊢
    obtain ⟨t1, t2, t3⟩ := tn (a := 2) (by omega) sq
    have t0 := t3 m 0 hmS (by omega) (by omega)
    simp only [Int.natCast_zero, Int.ofNat_zero] at t0
    unfold minT at hok' ⊢
    simp only at hok' ⊢
    refine h.turn (by rw [setI_length]) hfit hok' ⟨Int.le_of_eq t2.symm, by have := t2; show getI (setI l (atI T L ((m : Int) + 1) ((2 : Nat) : Int)) sq) 2 ≤ _; omega⟩ (fun m' a' h1 h2 h3 => t3 m' a' h1 h3 (fun e => h2 e.1)) ?_ (fun _ => hr (by omega)) (fun q => lt_eq (hsq (by omega)) t2.symm) (fun q => t1) (fun q => by simp at q) (fun _ => hap (by omega))
    rw [if_neg (by simp)] at hst ⊢
    exact t0.trans hst
  · cases hd
    rw [nextD_2] at hfit ⊢
    obtain ⟨t1, t2, t3⟩ := tn (a := 3) (by omega) tw
    have t0 := t3 m 0 hmS (by omega) (by omega)
    have t5 := t3 m 2 hmS (by omega) (by omega)
    simp only [Int.natCast_zero, Int.ofNat_zero] at t0
    unfold minT at hok' ⊢
    simp only at hok' ⊢
    refine h.turn (by rw [setI_length]) hfit hok' ⟨Int.le_of_eq t2.symm, by have := t2; show getI (setI l (atI T L ((m : Int) + 1) ((3 : Nat) : Int)) tw) 2 ≤ _; omega⟩ (fun m' a' h1 h2 h3 => t3 m' a' h1 h3 (fun e => h2 e.1)) ?_ (fun _ => hr (by omega)) (fun q => lt_eq (hsq (by omega)) t2.symm) (fun q => t5.trans (h5 (by omega))) (fun q => by simp at q) (fun _ => hap (by omega))
    rw [if_neg (by simp)] at hst ⊢
    exact t0.trans hst
  · cases hd
    rw [nextD_2] at hfit ⊢
    obtain ⟨t1, t2, t3⟩ := tn (a := 4) (by omega) 2
    have t0 := t3 m 0 hmS (by omega) (by omega)
    have t5 := t3 m 2 hmS (by omega) (by omega)
    simp only [Int.natCast_zero, Int.ofNat_zero] at t0
    unfold minT at hok' ⊢
    simp only at hok' ⊢
    refine h.turn (by rw [setI_length]) hfit hok' ⟨Int.le_of_eq t2.symm, by have := t2; show getI (setI l (atI T L ((m : Int) + 1) ((4 : Nat) : Int)) 2) 2 ≤ _; omega⟩ (fun m' a' h1 h2 h3 => t3 m' a' h1 h3 (fun e => h2 e.1)) ?_ (fun _ => hr (by omega)) (fun q => lt_eq (hsq (by omega)) t2.symm) (fun q => t5.trans (h5 (by omega))) (fun q => t1) (fun _ => hap (by omega))
    rw [if_neg (by simp)] at hst ⊢
    exact t0.trans hst
  · cases hd
/-- What a slot's state is at the beginning. -/
theorem lay_state (g : Int) (hT : T ≤ 8) (hS : S ≤ 64) (hL : L ≤ 8) {i : Nat} (hi : 1 ≤ i) (hiS : i ≤ S) : ∀ k, k ≤ S → i ≤ k → getI (layL (wordsN T S L) T S L g k) (atI T L (i : Int) 0) = g
  | 0, _, h => by omega
  | k + 1, hk, h => by
    obtain ⟨a, ha, ea, ha4, hal⟩ := at_nat (a := 0) hT hS hL hi hiS (by omega)
    obtain ⟨b, hb, eb, hb4, hbl⟩ := at_nat (a := 0) hT hS hL (show 1 ≤ k + 1 by omega) hk (by omega)
    obtain ⟨c, hc, ec, hc4, hcl⟩ := at_nat (a := 5) hT hS hL (show 1 ≤ k + 1 by omega) hk (by omega)
    simp only [Int.natCast_add, Int.natCast_one] at hb hc
    change atI T L (i : Int) 0 = _ at ha
    change atI T L ((k : Int) + 1) 0 = _ at hb
    change atI T L ((k : Int) + 1) 5 = _ at hc
    have n1 : atN T L (k + 1) 5 ≠ atN T L i 0 := at_apart (by omega) hi (by omega) (by omega) (by omega)
    rw [lay_succ, ha, hb, hc, get_other (by omega)]
    by_cases e : i = k + 1
    · subst e
      obtain rfl : a = b := by omega
      refine get_set ?_ _
      unfold there
      rw [lay_length]
      omega
    · have n2 : atN T L (k + 1) 0 ≠ atN T L i 0 := at_apart (by omega) hi (by omega) (by omega) (by omega)
      have ih := lay_state g hT hS hL hi hiS k (by omega) (by omega)
      rw [ha] at ih
      rw [get_other (by omega), ih]
theorem Inv.start (hT : T ≤ 8) (hS : S ≤ 64) (hL : L ≤ 8) : Inv T S L G 0 (layL (wordsN T S L) (T : Int) (S : Int) (L : Int) (SM.stI G 0) S) (List.replicate S ⟨0, 0, 0, 0⟩) := by
  have hrep : ∀ (m : Nat) (s : St), (List.replicate S (⟨0, 0, 0, 0⟩ : St))[m]? = some s → s = ⟨0, 0, 0, 0⟩ ∧ m < S := by
    intro m s h
    rw [List.getElem?_replicate] at h
    split at h
    · exact ⟨(Option.some.inj h).symm, by assumption⟩
    · cases h
  have h2 := lay_low (SM.stI G 0) hT hS hL (j := 2) (by omega) (by omega) (by omega) S (Nat.le_refl _)
  change getI _ 2 = 0 at h2
  refine ⟨lay_length _ _ _ _ _ _, fits_lay _ _ _ ⟨SM.stI_lo _ _, SM.stI_hi _ _⟩ (by omega) _, List.length_replicate, ?_, ⟨by omega, by rw [h2]; simp⟩, ?_, ?_, ?_, ?_, ?_, ?_⟩
  · intro s hs
    rw [List.eq_of_mem_replicate hs]
    exact ok_new
  · intro m s h
    obtain ⟨rfl, hm⟩ := hrep m s h
    have := lay_state (SM.stI G 0) hT hS hL (i := m + 1) (by omega) (by omega) S (Nat.le_refl _) (by omega)
    simp only [Int.natCast_add, Int.natCast_one] at this
    rw [if_pos (by simp)]
    exact this
  · intro m s h hk
    obtain ⟨rfl, _⟩ := hrep m s h
    simp at hk
  · intro m s h hk
    obtain ⟨rfl, _⟩ := hrep m s h
    simp at hk
  · intro m s h hk
    obtain ⟨rfl, _⟩ := hrep m s h
    simp at hk
  · intro m s h hk
    obtain ⟨rfl, _⟩ := hrep m s h
    simp at hk
  · intro a b s t h h' hne hk
    obtain ⟨rfl, _⟩ := hrep a s h
    simp at hk
/-- A timer that is made. -/
theorem Inv.made (h : Inv T S L G n l ss) (hG : 0 ≤ G ∧ G ≤ 4294967295) {s : St} (hm : ss[m]? = some s) (hk : s.k = 7) (dl : Int) :
    refI s = RM.ofI G ((m : Int) + 1) ∧ keyI dl s = (dl, s.sq) ∧ SM.isI (getI l (atI T L ((m : Int) + 1) 0)) G 1 = true ∧ getI l (atI T L ((m : Int) + 1) 2) = s.sq ∧ getI l (atI T L ((m : Int) + 1) 4) = 2 := by
  refine ⟨?_, if_pos hk, ?_, h.seqw m s hm (by omega), h.hold m s hm (by omega)⟩
  · unfold refI
    rw [if_pos hk]
    exact (h.refs m s hm (by omega)).2
  · rw [h.state m s hm, if_neg (by omega), SM.is_st hG.1 hG.2 (by omega) (by omega) hG.1]
    simp
end
end Go.Proofs.YtemjbheegdpofaaDoor.MiM
