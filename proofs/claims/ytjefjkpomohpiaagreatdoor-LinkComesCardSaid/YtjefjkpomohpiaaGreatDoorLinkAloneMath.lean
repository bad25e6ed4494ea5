/- A linker done alone where all chains rise, and whoever is in one without a mark is so in the one below, in plain lists: a slot that is in none hangs in the lowest one then. No program is named. -/
import Derived.Test.YtjefjkpomohpiaaGreatDoorHangMath
import Derived.Test.YtjefjkpomohpiaaGreatDoorLinkMath
namespace Go.Proofs.YtjefjkpomohpiaaGreatDoor.LiM
set_option maxRecDepth 20000
open DM PM CM BM OM KM Runs
open Go.RowKit (wrap64)
set_option linter.unusedVariables false
set_option linter.unusedSimpArgs false

/-! A key is told to a slot's words. -/
theorem at_inj {T L i j a b : Nat} (hi : 1 ≤ i) (hj : 1 ≤ j) (ha : a ≤ 5) (hb : b ≤ 5) (e : atN T L i a = atN T L j b) : i = j ∧ a = b := by
  unfold atN at e
  rcases Nat.lt_trichotomy i j with h1 | h1 | h1
  · have := mul_step (L := L) h1 (by omega); omega
  · subst h1; omega
  · have := mul_step (L := L) h1 (by omega); omega
def toldL (T L : Int) (l : List Int) (i dw sq : Int) : List Int := setI (setI l (atI T L i 1) dw) (atI T L i 2) sq
section
variable {T N L : Nat} {l : List Int} {dw sq r : Int}
theorem told_len (i : Int) : (toldL T L l i dw sq).length = l.length := by unfold toldL; rw [setI_length, setI_length]
theorem told_fits (hf : BM.Fits l) (h1 : Word dw) (h2 : Word sq) (i : Int) : BM.Fits (toldL T L l i dw sq) := fits_set (fits_set hf _ h1) _ h2
theorem told_way (hT : T ≤ 8) (hN : N ≤ 64) (hL : L ≤ 8) (h1 : 1 ≤ idx r) (h2 : idx r ≤ (N : Int)) {x : Int} {g : Nat} (hx : idx x ≤ (N : Int)) (hg : g < L) : wayI T L (toldL T L l (idx r) dw sq) x g = wayI T L l x g := by
  obtain ⟨e, -⟩ := way_nat hT hN hL hx hg
  have a1 := key_nat hT hN hL (a := 1) h1 h2 (by omega)
  have a2 := key_nat hT hN hL (a := 2) h1 h2 (by omega)
  change atI _ _ _ 1 = _ at a1
  change atI _ _ _ 2 = _ at a2
  unfold wayI toldL
  rw [get_other, get_other]
  · rw [e, a1]; intro q; exact next_at (T := T) (i := (idx x).toNat) (j := (idx r).toNat) hg (by omega) (a := 1) (by omega) (by omega)
  · rw [e, a2]; intro q; exact next_at (T := T) (i := (idx x).toNat) (j := (idx r).toNat) hg (by omega) (a := 2) (by omega) (by omega)
theorem told_key (hT : T ≤ 8) (hN : N ≤ 64) (hL : L ≤ 8) (h1 : 1 ≤ idx r) (h2 : idx r ≤ (N : Int)) {x : Int} (g1 : 1 ≤ idx x) (g2 : idx x ≤ (N : Int)) (hn : idx x ≠ idx r) : keyI T L (toldL T L l (idx r) dw sq) x = keyI T L l x := by
  have a1 := key_nat hT hN hL (a := 1) h1 h2 (by omega)
  have a2 := key_nat hT hN hL (a := 2) h1 h2 (by omega)
  have b1 := key_nat hT hN hL (a := 1) g1 g2 (by omega)
  have b2 := key_nat hT hN hL (a := 2) g1 g2 (by omega)
  change atI _ _ _ 1 = _ at a1 b1
  change atI _ _ _ 2 = _ at a2 b2
  have hne : ∀ a b : Nat, a ≤ 5 → b ≤ 5 → atN T L (idx r).toNat a ≠ atN T L (idx x).toNat b := fun a b ha hb q => by
    have := (at_inj (by omega) (by omega) ha hb q).1
    omega
  unfold keyI toldL
  rw [get_other, get_other, get_other, get_other]
  · rw [a1, b2]; intro q; exact hne 1 2 (by omega) (by omega) (by omega)
  · rw [a2, b2]; intro q; exact hne 2 2 (by omega) (by omega) (by omega)
  · rw [a1, b1]; intro q; exact hne 1 1 (by omega) (by omega) (by omega)
  · rw [a2, b1]; intro q; exact hne 2 1 (by omega) (by omega) (by omega)
theorem at_in {T N L i a : Nat} (h1 : 1 ≤ i) (h2 : i ≤ N) (ha : a ≤ 5) : atN T L i a < wordsN T N L := by
  unfold atN wordsN
  have h3 := Nat.mul_le_mul_right (6 + L) h2
  have e : i * (6 + L) = (i - 1) * (6 + L) + (6 + L) := by rw [← Nat.succ_mul]; congr 1; omega
  omega
theorem told_own (hT : T ≤ 8) (hN : N ≤ 64) (hL : L ≤ 8) (hl : l.length = wordsN T N L) (h1 : 1 ≤ idx r) (h2 : idx r ≤ (N : Int)) : keyI T L (toldL T L l (idx r) dw sq) r = (wrap64 dw, sq) := by
  have a1 := key_nat hT hN hL (a := 1) h1 h2 (by omega)
  have a2 := key_nat hT hN hL (a := 2) h1 h2 (by omega)
  change atI _ _ _ 1 = _ at a1
  change atI _ _ _ 2 = _ at a2
  have b1 := at_in (T := T) (N := N) (L := L) (i := (idx r).toNat) (a := 1) (by omega) (by omega) (by omega)
  have b2 := at_in (T := T) (N := N) (L := L) (i := (idx r).toNat) (a := 2) (by omega) (by omega) (by omega)
  unfold keyI toldL
  rw [get_set (by rw [a2]; exact MM.there_in (by rw [setI_length]; exact hl) b2), get_other, get_set (by rw [a1]; exact MM.there_in hl b1)]
  rw [a1, a2]; intro q
  have := (at_inj (T := T) (L := L) (i := (idx r).toNat) (j := (idx r).toNat) (a := 2) (b := 1) (by omega) (by omega) (by omega) (by omega) (by omega)).2
  omega
end
/-- A chain of which no member's key was turned. -/
theorem chain_on {T N L h : Nat} {l m cl : List Int} (hw : ∀ r : Int, idx r ≤ (N : Int) → wayI T L m r h = wayI T L l r h) (hk : ∀ c ∈ cl, keyI T L m c = keyI T L l c) (hc : Chain T L N l h cl) : Chain T L N m h cl := by
  obtain ⟨he, hp, hr⟩ := hc
  have hin := path_in _ _ hp
  have h0 := hw 0 (by rw [idx_zero]; omega)
  refine ⟨by rw [h0]; exact he, ?_, List.Pairwise.imp_of_mem (fun {a b} ha hb hab => by rw [hk a ha, hk b hb]; exact hab) hr⟩
  rw [h0]
  exact path_cong cl _ hp fun c hc => hw c (hin c hc).2.1
/-- Words of which no way on, and no member's key, was turned: all chains are as they were. -/
theorem chains_on {T N L : Nat} {l m : List Int} (hN : N ≤ 64) (hg : GoodW T L N l) (hw : ∀ (r : Int) (h : Nat), idx r ≤ (N : Int) → h < L → wayI T L m r h = wayI T L l r h) (hk : ∀ h : Nat, h < L → ∀ c ∈ (chainI T L N l h).1, keyI T L m c = keyI T L l c) :
    GoodW T L N m ∧ ∀ h : Nat, h < L → chainI T L N m h = chainI T L N l h ∧ keptL T L N m h = keptL T L N l h := by
  have hfr : ∀ (c : Int) (h : Nat), idx c ≤ (N : Int) → h < L → freeB T L m h c = freeB T L l h c := fun c h a b => by unfold freeB; rw [hw c h a b]
  have hch : ∀ h : Nat, h < L → ∃ cl, chainI T L N l h = (cl, true) ∧ chainI T L N m h = (cl, true) ∧ ∀ c ∈ cl, idx c ≤ (N : Int) := fun h hh => by
    obtain ⟨cl, e⟩ := pair_yes (hg h (by omega)).1
    have hk := hk h hh
    rw [e] at hk
    exact ⟨cl, e, chain_is hN (chain_on (fun r a => hw r h a hh) hk (chain_of e)), fun c hc => (path_in _ _ (chain_of e).2.1 c hc).2.1⟩
  refine ⟨fun h hh => ?_, fun h hh => ?_⟩
  · have hh : h < L := by omega
    obtain ⟨cl, e, e2, hin⟩ := hch h hh
    have h1 := hg h (by omega)
    rw [e] at h1
    rw [e2]
    refine ⟨rfl, fun g hg r hr hf => ?_⟩
    obtain ⟨cg, eg, eg2, hing⟩ := hch g (by omega)
    rw [hfr r h (hin r hr) hh] at hf
    obtain ⟨k1, k2⟩ := h1.2 g hg r hr hf
    rw [eg] at k1
    rw [eg2, hfr r g (hing r k1) (by omega)]
    exact ⟨k1, k2⟩
  · obtain ⟨cl, e, e2, hin⟩ := hch h hh
    refine ⟨by rw [e, e2], ?_⟩
    unfold keptL
    rw [e, e2]
    exact List.filter_congr fun c hc => hfr c h (hin c hc) hh

/-! The steps. -/
theorem seekT_st {T L dl sq f : Int} {s : KM.St} (h : (seekA T L s).isSome = true) : (seekT L dl sq s f).st = 0 ∨ (seekA T L (seekT L dl sq s f)).isSome = true := by
  have hd : ∀ lv pr cu nx ps ss, (desc lv pr cu nx ps ss).st = 0 ∨ (seekA T L (desc lv pr cu nx ps ss)).isSome = true := fun lv pr cu nx ps ss => by
    unfold desc
    split
    · exact .inl rfl
    · exact .inr (by rw [seekA_1]; rfl)
  have hr : ∀ lv pr cu nx ps ss r, (reach lv pr cu nx ps ss r).st = 0 ∨ (seekA T L (reach lv pr cu nx ps ss r)).isSome = true := fun lv pr cu nx ps ss r => by
    unfold reach
    split
    · exact hd _ _ _ _ _ _
    · exact .inr (by rw [seekA_2]; rfl)
  have hp : ∀ lv pr cu nx ps ss b, (pass lv pr cu nx ps ss b).st = 0 ∨ (seekA T L (pass lv pr cu nx ps ss b)).isSome = true := fun lv pr cu nx ps ss b => by
    unfold pass
    split
    · exact hr _ _ _ _ _ _ _
    · exact hd _ _ _ _ _ _
  unfold seekT
  split
  · split
    · exact hd _ _ _ _ _ _
    · exact hr _ _ _ _ _ _ _
  · split
    · right
      split
      · rw [seekA_3]; rfl
      · rw [seekA_4]; rfl
    · split
      · split
        · exact hr _ _ _ _ _ _ _
        · exact hd _ _ _ _ _ _
      · split
        · split
          · exact .inr (by rw [seekA_5]; rfl)
          · exact hp _ _ _ _ _ _ _
        · split
          · exact hp _ _ _ _ _ _ _
          · exact .inr h
theorem seek_isSome {T L : Int} {s : KM.St} (h : s.st = 0) : seekA T L s = none := by simp [seekA, h]
theorem link_leads {T L r dl sq tall lv : Int} : Leads (linkA T L r) (linkT L dl sq tall) (seekA T L) (seekT L dl sq) (fun t => ⟨1, lv, t, [], []⟩) (fun t => goOn tall L t t.ps.reverse t.ss.reverse 0) := by
  intro t d hd
  refine ⟨by rw [linkA_1]; exact hd, fun f => ?_⟩
  rw [linkT_1]
  rcases seekT_st (dl := dl) (sq := sq) (f := f) (show (seekA T L t).isSome = true by rw [hd]; rfl) with h | h
  · rw [keep_done h, seek_isSome h]
    rfl
  · rw [if_pos h, keep_more]
    intro h0
    rw [seek_isSome h0] at h
    cases h
/-- Its ways on are stored up to a level. -/
structure Laid (T N L : Nat) (r : Int) (S : Nat → Int) (i : Nat) (m1 m : List Int) : Prop where
  len : m.length = wordsN T N L
  fit : BM.Fits m
  way : ∀ (x : Int) (g : Nat), idx x ≤ (N : Int) → g < L → idx x ≠ idx r → wayI T L m x g = wayI T L m1 x g
  own : ∀ g : Nat, g < i → wayI T L m r g = S g
  rest : ∀ g : Nat, i ≤ g → g < L → wayI T L m r g = wayI T L m1 r g
  key : ∀ x : Int, 1 ≤ idx x → idx x ≤ (N : Int) → keyI T L m x = keyI T L m1 x
  oth : ∀ i : Int, (∀ (r : Int) (g : Nat), idx r ≤ (N : Int) → g < L → i ≠ nextI T L (idx r) g) → getI m i = getI m1 i
theorem lay_run {T N L : Nat} {r dl sq tall : Int} (hT : T ≤ 8) (hN : N ≤ 64) (hL : L ≤ 8) (h2 : idx r ≤ (N : Int)) {sk : KM.St} {ps ss m1 : List Int} {S : Nat → Int} (hS : ∀ g : Nat, g < L → ss.getD g 0 = S g ∧ Word (S g)) {n : Nat} (hn : (n : Int) = min tall (L : Int)) :
    ∀ (j i : Nat) (m : List Int), i + j = n → Laid T N L r S i m1 m → ∃ m', steps (linkA T L r) (linkT L dl sq tall) j m (goOn tall L sk ps ss i) = some (m', ⟨3, n, sk, ps, ss⟩) ∧ Laid T N L r S n m1 m'
  | 0, i, m, e, h => by
    obtain rfl : i = n := e
    exact ⟨m, by rw [goOn_end (by omega)]; rfl, h⟩
  | j + 1, i, m, e, h => by
    have hi : i < L := by omega
    obtain ⟨s1, s2⟩ := hS i hi
    have hset := fun {x : Int} {g : Nat} (a : idx x ≤ (N : Int)) (b : g < L) => set_way (v := S i) hT hN hL h.len h2 a hi b
    have hs : Laid T N L r S (i + 1) m1 (setI m (nextI T L (idx r) i) (S i)) :=
      ⟨by rw [setI_length]; exact h.len, fits_set h.fit _ s2, fun x g a b c => by rw [hset a b, if_neg fun q => c q.1]; exact h.way x g a b c, fun g a => by
        rw [hset h2 (by omega)]
        by_cases e : g = i
        · rw [if_pos ⟨rfl, e⟩, e]
        · rw [if_neg fun q => e q.2]
          exact h.own g (by omega), fun g a b => by rw [hset h2 b, if_neg fun q => by omega]; exact h.rest g (by omega) b,
        fun x a b => by rw [set_key hT hN hL h2 a b hi]; exact h.key x a b, fun k hk => by rw [get_other (Ne.symm (hk r i h2 hi))]; exact h.oth k hk⟩
    obtain ⟨m', k1, k2⟩ := lay_run hT hN hL h2 (dl := dl) (sq := sq) (tall := tall) (sk := sk) (ps := ps) (ss := ss) hS hn j (i + 1) _ (by omega) hs
    refine ⟨m', ?_, k2⟩
    rw [goOn_on (by omega), steps_more (k := j) linkA_2, nextD_2, linkT_2, Int.toNat_natCast, s1]
    exact k1
/-- What is so behind it. -/
structure Linked (T N L : Nat) (l m : List Int) (r tall : Int) (P S : Nat → Int) : Prop where
  len : m.length = wordsN T N L
  fit : BM.Fits m
  key : ∀ x : Int, 1 ≤ idx x → idx x ≤ (N : Int) → keyI T L m x = keyI T L l x
  low : ∃ A B fr, Chain T L N m 0 (A ++ r :: B) ∧ (A ++ r :: B).filter (freeB T L m 0) = A.filter fr ++ r :: B.filter fr ∧ keptL T L N l 0 = A.filter fr ++ B.filter fr
  high : ∀ g : Nat, 1 ≤ g → g < L → ∃ cl, Chain T L N m g cl ∧ cl.Sublist (chainI T L N l g).1 ∧ cl.filter (freeB T L m g) = keptL T L N l g ∧ wayI T L m (P g) g = S g
  own : ∀ g : Nat, g < L → (g : Int) < tall → wayI T L m r g = S g
  oth : ∀ i : Int, (∀ (r : Int) (g : Nat), idx r ≤ (N : Int) → g < L → i ≠ nextI T L (idx r) g) → getI m i = getI l i
theorem res_word {T N L g : Nat} {lt : Int → Bool} {l : List Int} (hk : ∀ c ∈ keptL T L N l g, Word c) : Word (resL T L N lt l g).1 ∧ Word (resL T L N lt l g).2 := by
  constructor
  · rcases find_where lt (keptL T L N l g) 0 with h | ⟨h, -⟩
    · show Word (findL lt (keptL T L N l g) 0).1
      rw [h]; exact ⟨by decide, by decide⟩
    · exact hk _ h
  · rcases find_next lt (keptL T L N l g) 0 with h | ⟨h, -⟩
    · show Word (findL lt (keptL T L N l g) 0).2
      rw [h]; exact ⟨by decide, by decide⟩
    · exact hk _ h
theorem map_getD {f : Nat → Int} {L g : Nat} (h : g < L) : ((List.range L).map f).getD g 0 = f g := by
  rw [List.getD_eq_getElem?_getD, List.getElem?_map, List.getElem?_range h]
  rfl
theorem link_run {T N L : Nat} {r dl sq tall : Int} (hT : T ≤ 8) (hN : N ≤ 64) (hL : L ≤ 8) (hL1 : 1 ≤ L) {l : List Int} (hl : l.length = wordsN T N L) (hf : BM.Fits l) (hg : GoodW T L N l) (hkw : ∀ g : Nat, ∀ c ∈ keptL T L N l g, Word c) (hr : Word r) (h1 : 1 ≤ idx r) (h2 : idx r ≤ (N : Int)) (he : r % 2 = 0) (ht : 1 ≤ tall)
    (hap : ∀ h : Nat, h < L → ∀ c ∈ (chainI T L N l h).1, idx c ≠ idx r ∧ keyI T L l c ≠ (dl, sq)) (hkey : keyI T L l r = (dl, sq)) (lv : Int) :
    ∃ k m sk, k ≤ 1600 ∧ steps (linkA T L r) (linkT L dl sq tall) k l (begin L lv) = some (m, ⟨0, min tall L, sk, (List.range L).map fun h => (resL T L N (fun c => ltK (keyI T L l c) (dl, sq)) l h).1, (List.range L).map fun h => (resL T L N (fun c => ltK (keyI T L l c) (dl, sq)) l h).2⟩) ∧
      Linked T N L l m r tall (fun h => (resL T L N (fun c => ltK (keyI T L l c) (dl, sq)) l h).1) (fun h => (resL T L N (fun c => ltK (keyI T L l c) (dl, sq)) l h).2) := by
  obtain ⟨lt, hlt⟩ : ∃ lt : Int → Bool, lt = fun c => ltK (keyI T L l c) (dl, sq) := ⟨_, rfl⟩
  rw [← hlt]
  have hltk : ∀ c : Int, ltK (keyI T L l c) (dl, sq) = lt c := fun c => by rw [hlt]
  obtain ⟨k1, m1, lv', pr', cu', nx', q1, q2, q3, q4, q5, -, q7, q8⟩ := all_run (Q := 193) (Nat.le_refl _) hT hN hL (dl := dl) (sq := sq) (lt := lt) hg (fun c _ _ => hltk c) L l 0 0 0 [] [] (Nat.le_refl _) ⟨hl, hf, fun _ _ _ _ => rfl, fun _ _ _ => rfl, fun _ _ => rfl⟩ (fun _ _ => .inl rfl)
  clear hlt
  change steps _ _ k1 l (anew L 0 0) = _ at q2
  rw [List.nil_append, List.nil_append] at q2
  obtain ⟨P, hP⟩ : ∃ P : Nat → Int, P = fun h => (resL T L N lt l h).1 := ⟨_, rfl⟩
  obtain ⟨S, hS⟩ : ∃ S : Nat → Int, S = fun h => (resL T L N lt l h).2 := ⟨_, rfl⟩
  rw [← hP, ← hS] at q2 ⊢
  have hP' : ∀ g, (resL T L N lt l g).1 = P g := fun g => by rw [hP]
  have hS' : ∀ g, (resL T L N lt l g).2 = S g := fun g => by rw [hS]
  have hword : ∀ g, Word (P g) ∧ Word (S g) := fun g => by rw [← hP', ← hS']; exact res_word (hkw g)
  obtain ⟨sk, hsk⟩ : ∃ sk : KM.St, sk = ⟨0, lv', pr', cu', nx', (List.range L).reverse.map P, (List.range L).reverse.map S⟩ := ⟨_, rfl⟩
  rw [← hsk] at q2
  have hps : sk.ps.reverse = (List.range L).map P := by rw [hsk]; simp [← List.map_reverse]
  have hss : sk.ss.reverse = (List.range L).map S := by rw [hsk]; simp [← List.map_reverse]
  have hst : seekA T L sk = none := seek_isSome (by rw [hsk])
  clear hsk hP hS
  -- the stores
  obtain ⟨n, hn⟩ : ∃ n : Nat, (n : Int) = min tall (L : Int) := ⟨(min tall (L : Int)).toNat, by omega⟩
  obtain ⟨m2, s1, s2⟩ := lay_run hT hN hL h2 (dl := dl) (sq := sq) (tall := tall) (sk := sk) (ps := (List.range L).map P) (ss := (List.range L).map S) (m1 := m1) (S := S) (fun g a => ⟨map_getD a, (hword g).2⟩) hn n 0 m1 (by omega) ⟨q3, q4, fun _ _ _ _ _ => rfl, fun g a => by omega, fun _ _ _ => rfl, fun _ _ _ => rfl, fun _ _ => rfl⟩
  -- the chains behind the stores
  have hkm : ∀ c : Int, 1 ≤ idx c → idx c ≤ (N : Int) → keyI T L m2 c = keyI T L l c := fun c a b => by rw [s2.key c a b, q7 c a b]
  have hmem : ∀ g : Nat, g < L → ∀ c ∈ (chainI T L N l g).1, 1 ≤ idx c ∧ idx c ≤ (N : Int) := fun g a c hc => by
    obtain ⟨cl, e⟩ := pair_yes (hg g (by omega)).1
    rw [e] at hc
    have := path_in _ _ (chain_of e).2.1 c hc
    exact ⟨this.1, this.2.1⟩
  have hsplit := fun (g : Nat) (a : g < L) => (q5 g a).split (K := (dl, sq)) (fun c x y => by rw [q7 c x y]; exact hltk c)
  -- the same chains, of the words behind the stores
  have hch2 : ∀ (g : Nat) (cl : List Int), g < L → Chain T L N m1 g cl → cl.Sublist (chainI T L N l g).1 → Chain T L N m2 g cl ∧ cl.filter (freeB T L m2 g) = cl.filter (freeB T L m1 g) := fun g cl a hc hs => by
    have hne : ∀ c ∈ cl, idx c ≠ idx r := fun c hc => (hap g a c (hs.subset hc)).1
    have hin := path_in _ _ hc.2.1
    have hw0 : wayI T L m2 0 g = wayI T L m1 0 g := s2.way 0 g (by rw [idx_zero]; omega) a (by rw [idx_zero]; omega)
    refine ⟨⟨by rw [hw0]; exact hc.1, by rw [hw0]; exact path_cong cl _ hc.2.1 fun c hc => s2.way c g (hin c hc).2.1 a (hne c hc), List.Pairwise.imp_of_mem (fun {x y} hx hy hxy => by rw [s2.key x (hin x hx).1 (hin x hx).2.1, s2.key y (hin y hy).1 (hin y hy).2.1]; exact hxy) hc.2.2⟩, ?_⟩
    exact List.filter_congr fun c hc => by unfold freeB; rw [s2.way c g (hin c hc).2.1 a (hne c hc)]
  obtain ⟨A, B, c1, c2, c3, c4, c5, c6, c7, c8⟩ := hsplit 0 hL1
  rw [hP'] at c6
  rw [hS'] at c7
  obtain ⟨d1, d2⟩ := hch2 0 _ hL1 c1 c2
  have hin := path_in _ _ c1.2.1
  have hP0 : idx (P 0) ≤ (N : Int) ∧ idx (P 0) ≠ idx r := by
    rw [← c6]
    rcases last_cases A with rfl | ⟨A', p, rfl⟩
    · exact ⟨by show idx 0 ≤ _; rw [idx_zero]; omega, by show idx 0 ≠ _; rw [idx_zero]; omega⟩
    · rw [last_snoc]
      exact ⟨(hin p (by simp)).2.1, (hap 0 hL1 p (c2.subset (by simp))).1⟩
  have hway0 : wayI T L m2 (P 0) 0 = S 0 := by
    refine (s2.way (P 0) 0 hP0.1 hL1 hP0.2).trans ?_
    rw [← c6, ← c7]; exact c8
  have hrk : keyI T L m2 r = (dl, sq) := by rw [hkm r h1 h2]; exact hkey
  have hhang := hang (r := r) hT hN hL hL1 s2.len d1 h1 h2 he (fun c hc => (hap 0 hL1 c (c2.subset hc)).1) (by rw [c7]; exact s2.own 0 (by omega)) (by rw [c6, c7]; exact hway0)
    (fun a ha => by
      have h5 := hin a (by simp [ha])
      rw [hrk, hkm a h5.1 h5.2.1, hltk]
      exact c4 a ha)
    (fun b hb => by
      have h5 := hin b (by simp [hb])
      rw [hrk, hkm b h5.1 h5.2.1]
      have h6 := c5 b hb
      rw [← hltk] at h6
      rcases cmpK_cases (keyI T L l b) (dl, sq) with ⟨h7, -⟩ | ⟨-, h7, -⟩ | ⟨h7, -⟩
      · rw [h6] at h7; cases h7
      · exact h7
      · exact absurd h7 (hap 0 hL1 b (c2.subset (by simp [hb]))).2)
  rw [c6] at hhang
  obtain ⟨z1, z2⟩ := hhang
  have hset := fun {x : Int} {g : Nat} (a : idx x ≤ (N : Int)) (b : g < L) => set_way (v := r) hT hN hL s2.len hP0.1 a hL1 b
  refine ⟨k1 + (n + 1), setI m2 (nextI T L (idx (P 0)) (0 : Nat)) r, sk, by omega, ?_, ⟨by rw [setI_length]; exact s2.len, fits_set s2.fit _ hr, fun x a b => by rw [set_key hT hN hL hP0.1 a b hL1]; exact hkm x a b, ⟨A, B, freeB T L m2 0, z1, z2, ?_⟩, fun g a b => ?_, fun g a b => ?_, fun i hi => ?_⟩⟩
  · refine (steps_lead (link_leads (r := r) (tall := tall) (lv := lv)) k1 (n + 1) l m1 (anew L 0 0) sk (1, nextI T L (idx 0) (L - 1), 0, 0, 0) ?_ q2 hst).trans ?_
    · unfold anew
      rw [desc_on (by omega), seekA_1]
    · rw [hps, hss]
      refine steps_then n 1 m1 m2 _ _ _ s1 ?_
      rw [steps_more (k := 0) linkA_3, nextD_3, foundD_yes (by simp)]
      have e1 : ((List.range L).map P).getD 0 0 = P 0 := map_getD hL1
      have e2 : ((List.range L).map S).getD 0 0 = S 0 := map_getD hL1
      have e3 : getI m2 (nextI T L (idx (P 0)) 0) = S 0 := hway0
      rw [linkT_3 (by show getI m2 (nextI T L (idx (((List.range L).map P).getD 0 0)) 0) = _; rw [e1, e2]; exact e3), e1, e2, ← e3, MM.swap_is, hn]
      rfl
  · have h5 := d2.trans c3
    rw [List.filter_append] at h5
    exact h5.symm
  · obtain ⟨A', B', g1, g2, g3, -, -, g6, g7, g8⟩ := hsplit g b
    obtain ⟨f1, f2⟩ := hch2 g _ b g1 g2
    have hw : ∀ x : Int, idx x ≤ (N : Int) → wayI T L (setI m2 (nextI T L (idx (P 0)) (0 : Nat)) r) x g = wayI T L m2 x g := fun x c => by rw [hset c b, if_neg fun q => by omega]
    have hing := path_in _ _ f1.2.1
    rw [hP'] at g6
    rw [hS'] at g7
    refine ⟨A' ++ B', chain_on hw (fun c hc => set_key hT hN hL hP0.1 (hing c hc).1 (hing c hc).2.1 hL1) f1, g2, ?_, ?_⟩
    · rw [← g3, ← f2]
      exact List.filter_congr fun c hc => by unfold freeB; rw [hw c (hing c hc).2.1]
    · rw [← g6, ← g7, ← g8]
      have hla : idx (lastD A' 0) ≤ (N : Int) ∧ idx (lastD A' 0) ≠ idx r := by
        rcases last_cases A' with rfl | ⟨A2, p, rfl⟩
        · exact ⟨by show idx 0 ≤ _; rw [idx_zero]; omega, by show idx 0 ≠ _; rw [idx_zero]; omega⟩
        · rw [last_snoc]
          exact ⟨(hing p (by simp)).2.1, (hap g b p (g2.subset (by simp))).1⟩
      rw [hw _ hla.1, s2.way _ g hla.1 b hla.2]
  · rw [hset h2 a, if_neg fun q => hP0.2 q.1.symm]
    exact s2.own g (by omega)
  · rw [get_other (Ne.symm (hi (P 0) 0 hP0.1 hL1)), s2.oth i hi, q8 i hi]
end Go.Proofs.YtjefjkpomohpiaaGreatDoor.LiM
