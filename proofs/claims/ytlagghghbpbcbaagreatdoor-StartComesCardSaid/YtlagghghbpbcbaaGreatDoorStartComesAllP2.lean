import Derived.Test.YtlagghghbpbcbaaGreatDoorStartComesAllP1
/- A linker done alone where all chains rise, and whoever is in one without a mark is so in the one below, in plain lists: a slot that is in none hangs in the lowest one then. No program is named. -/
namespace Go.Proofs.YtlagghghbpbcbaaGreatDoor.LiM
set_option maxRecDepth 20000
open DM PM CM BM OM KM Runs
open Go.RowKit (wrap64)
set_option linter.unusedVariables false
set_option linter.unusedSimpArgs false

/-! A key is told to a slot's words. -/
theorem at_inj {T L i j a b : Nat} (hi : 1 ≤ i) (hj : 1 ≤ j) (ha : a ≤ 5) (hb : b ≤ 5) (e : atN T L i a = atN T L j b) : i = j ∧ a = b := by
  unfold atN at e
  rcases Nat.lt_trichotomy i j with h1 | h1 | h1
  · have := mul_step (L := L) h1 (by omega); omega
  · subst h1; omega
  · have := mul_step (L := L) h1 (by omega); omega
def toldL (T L : Int) (l : List Int) (i dw sq : Int) : List Int := setI (setI l (atI T L i 1) dw) (atI T L i 2) sq
section
variable {T N L : Nat} {l : List Int} {dw sq r : Int}
theorem told_len (i : Int) : (toldL T L l i dw sq).length = l.length := by unfold toldL; rw [setI_length, setI_length]
theorem told_fits (hf : BM.Fits l) (h1 : Word dw) (h2 : Word sq) (i : Int) : BM.Fits (toldL T L l i dw sq) := fits_set (fits_set hf _ h1) _ h2
theorem told_way (hT : T ≤ 8) (hN : N ≤ 64) (hL : L ≤ 8) (h1 : 1 ≤ idx r) (h2 : idx r ≤ (N : Int)) {x : Int} {g : Nat} (hx : idx x ≤ (N : Int)) (hg : g < L) : wayI T L (toldL T L l (idx r) dw sq) x g = wayI T L l x g := by
  obtain ⟨e, -⟩ := way_nat hT hN hL hx hg
  have a1 := key_nat hT hN hL (a := 1) h1 h2 (by omega)
  have a2 := key_nat hT hN hL (a := 2) h1 h2 (by omega)
  change atI _ _ _ 1 = _ at a1
  change atI _ _ _ 2 = _ at a2
  unfold wayI toldL
  rw [get_other, get_other]
  · rw [e, a1]; intro q; exact next_at (T := T) (i := (idx x).toNat) (j := (idx r).toNat) hg (by omega) (a := 1) (by omega) (by omega)
  · rw [e, a2]; intro q; exact next_at (T := T) (i := (idx x).toNat) (j := (idx r).toNat) hg (by omega) (a := 2) (by omega) (by omega)
theorem told_key (hT : T ≤ 8) (hN : N ≤ 64) (hL : L ≤ 8) (h1 : 1 ≤ idx r) (h2 : idx r ≤ (N : Int)) {x : Int} (g1 : 1 ≤ idx x) (g2 : idx x ≤ (N : Int)) (hn : idx x ≠ idx r) : keyI T L (toldL T L l (idx r) dw sq) x = keyI T L l x := by
  have a1 := key_nat hT hN hL (a := 1) h1 h2 (by omega)
  have a2 := key_nat hT hN hL (a := 2) h1 h2 (by omega)
  have b1 := key_nat hT hN hL (a := 1) g1 g2 (by omega)
  have b2 := key_nat hT hN hL (a := 2) g1 g2 (by omega)
  change atI _ _ _ 1 = _ at a1 b1
  change atI _ _ _ 2 = _ at a2 b2
  have hne : ∀ a b : Nat, a ≤ 5 → b ≤ 5 → atN T L (idx r).toNat a ≠ atN T L (idx x).toNat b := fun a b ha hb q => by
    have := (at_inj (by omega) (by omega) ha hb q).1
    omega
  unfold keyI toldL
  rw [get_other, get_other, get_other, get_other]
  · rw [a1, b2]; intro q; exact hne 1 2 (by omega) (by omega) (by omega)
  · rw [a2, b2]; intro q; exact hne 2 2 (by omega) (by omega) (by omega)
  · rw [a1, b1]; intro q; exact hne 1 1 (by omega) (by omega) (by omega)
  · rw [a2, b1]; intro q; exact hne 2 1 (by omega) (by omega) (by omega)
theorem at_in {T N L i a : Nat} (h1 : 1 ≤ i) (h2 : i ≤ N) (ha : a ≤ 5) : atN T L i a < wordsN T N L := by
  unfold atN wordsN
  have h3 := Nat.mul_le_mul_right (6 + L) h2
  have e : i * (6 + L) = (i - 1) * (6 + L) + (6 + L) := by rw [← Nat.succ_mul]; congr 1; omega
  omega
theorem told_own (hT : T ≤ 8) (hN : N ≤ 64) (hL : L ≤ 8) (hl : l.length = wordsN T N L) (h1 : 1 ≤ idx r) (h2 : idx r ≤ (N : Int)) : keyI T L (toldL T L l (idx r) dw sq) r = (wrap64 dw, sq) := by
  have a1 := key_nat hT hN hL (a := 1) h1 h2 (by omega)
  have a2 := key_nat hT hN hL (a := 2) h1 h2 (by omega)
  change atI _ _ _ 1 = _ at a1
  change atI _ _ _ 2 = _ at a2
  have b1 := at_in (T := T) (N := N) (L := L) (i := (idx r).toNat) (a := 1) (by omega) (by omega) (by omega)
  have b2 := at_in (T := T) (N := N) (L := L) (i := (idx r).toNat) (a := 2) (by omega) (by omega) (by omega)
  unfold keyI toldL
  rw [get_set (by rw [a2]; exact MM.there_in (by rw [setI_length]; exact hl) b2), get_other, get_set (by rw [a1]; exact MM.there_in hl b1)]
  rw [a1, a2]; intro q
  have := (at_inj (T := T) (L := L) (i := (idx r).toNat) (j := (idx r).toNat) (a := 2) (b := 1) (by omega) (by omega) (by omega) (by omega) (by omega)).2
  omega
end
/-- A chain of which no member's key was turned. -/
theorem chain_on {T N L h : Nat} {l m cl : List Int} (hw : ∀ r : Int, idx r ≤ (N : Int) → wayI T L m r h = wayI T L l r h) (hk : ∀ c ∈ cl, keyI T L m c = keyI T L l c) (hc : Chain T L N l h cl) : Chain T L N m h cl := by
  obtain ⟨he, hp, hr⟩ := hc
  have hin := path_in _ _ hp
  have h0 := hw 0 (by rw [idx_zero]; omega)
  refine ⟨by rw [h0]; exact he, ?_, List.Pairwise.imp_of_mem (fun {a b} ha hb hab => by rw [hk a ha, hk b hb]; exact hab) hr⟩
  rw [h0]
  exact path_cong cl _ hp fun c hc => hw c (hin c hc).2.1
/-- Words of which no way on, and no member's key, was turned: all chains are as they were. -/
theorem chains_on {T N L : Nat} {l m : List Int} (hN : N ≤ 64) (hg : GoodW T L N l) (hw : ∀ (r : Int) (h : Nat), idx r ≤ (N : Int) → h < L → wayI T L m r h = wayI T L l r h) (hk : ∀ h : Nat, h < L → ∀ c ∈ (chainI T L N l h).1, keyI T L m c = keyI T L l c) :
    GoodW T L N m ∧ ∀ h : Nat, h < L → chainI T L N m h = chainI T L N l h ∧ keptL T L N m h = keptL T L N l h := by
  have hfr : ∀ (c : Int) (h : Nat), idx c ≤ (N : Int) → h < L → freeB T L m h c = freeB T L l h c := fun c h a b => by unfold freeB; rw [hw c h a b]
  have hch : ∀ h : Nat, h < L → ∃ cl, chainI T L N l h = (cl, true) ∧ chainI T L N m h = (cl, true) ∧ ∀ c ∈ cl, idx c ≤ (N : Int) := fun h hh => by
    obtain ⟨cl, e⟩ := pair_yes (hg h (by omega)).1
    have hk := hk h hh
    rw [e] at hk
    exact ⟨cl, e, chain_is hN (chain_on (fun r a => hw r h a hh) hk (chain_of e)), fun c hc => (path_in _ _ (chain_of e).2.1 c hc).2.1⟩
  refine ⟨fun h hh => ?_, fun h hh => ?_⟩
  · have hh : h < L := by omega
    obtain ⟨cl, e, e2, hin⟩ := hch h hh
    have h1 := hg h (by omega)
    rw [e] at h1
    rw [e2]
    refine ⟨rfl, fun g hg r hr hf => ?_⟩
    obtain ⟨cg, eg, eg2, hing⟩ := hch g (by omega)
    rw [hfr r h (hin r hr) hh] at hf
    obtain ⟨k1, k2⟩ := h1.2 g hg r hr hf
    rw [eg] at k1
    rw [eg2, hfr r g (hing r k1) (by omega)]
    exact ⟨k1, k2⟩
  · obtain ⟨cl, e, e2, hin⟩ := hch h hh
    refine ⟨by rw [e, e2], ?_⟩
    unfold keptL
    rw [e, e2]
    exact List.filter_congr fun c hc => hfr c h (hin c hc) hh

/-! The steps. -/
theorem seekT_st {T L dl sq f : Int} {s : KM.St} (h : (seekA T L s).isSome = true) : (seekT L dl sq s f).st = 0 ∨ (seekA T L (seekT L dl sq s f)).isSome = true := by
  have hd : ∀ lv pr cu nx ps ss, (desc lv pr cu nx ps ss).st = 0 ∨ (seekA T L (desc lv pr cu nx ps ss)).isSome = true := fun lv pr cu nx ps ss => by
    unfold desc
    split
    · exact .inl rfl
    · exact .inr (by rw [seekA_1]; rfl)
  have hr : ∀ lv pr cu nx ps ss r, (reach lv pr cu nx ps ss r).st = 0 ∨ (seekA T L (reach lv pr cu nx ps ss r)).isSome = true := fun lv pr cu nx ps ss r => by
    unfold reach
    split
    · exact hd _ _ _ _ _ _
    · exact .inr (by rw [seekA_2]; rfl)
  have hp : ∀ lv pr cu nx ps ss b, (pass lv pr cu nx ps ss b).st = 0 ∨ (seekA T L (pass lv pr cu nx ps ss b)).isSome = true := fun lv pr cu nx ps ss b => by
    unfold pass
    split
    · exact hr _ _ _ _ _ _ _
    · exact hd _ _ _ _ _ _
  unfold seekT
  split
  · split
    · exact hd _ _ _ _ _ _
    · exact hr _ _ _ _ _ _ _
  · split
    · right
      split
      · rw [seekA_3]; rfl
      · rw [seekA_4]; rfl
    · split
      · split
        · exact hr _ _ _ _ _ _ _
        · exact hd _ _ _ _ _ _
      · split
        · split
          · exact .inr (by rw [seekA_5]; rfl)
          · exact hp _ _ _ _ _ _ _
        · split
          · exact hp _ _ _ _ _ _ _
          · exact .inr h
theorem seek_isSome {T L : Int} {s : KM.St} (h : s.st = 0) : seekA T L s = none := by simp [seekA, h]
theorem link_leads {T L r dl sq tall lv : Int} : Leads (linkA T L r) (linkT L dl sq tall) (seekA T L) (seekT L dl sq) (fun t => ⟨1, lv, t, [], []⟩) (fun t => goOn tall L t t.ps.reverse t.ss.reverse 0) := by
  intro t d hd
  refine ⟨by rw [linkA_1]; exact hd, fun f => ?_⟩
  rw [linkT_1]
  rcases seekT_st (dl := dl) (sq := sq) (f := f) (show (seekA T L t).isSome = true by rw [hd]; rfl) with h | h
  · rw [keep_done h, seek_isSome h]
    rfl
  · rw [if_pos h, keep_more]
    intro h0
    rw [seek_isSome h0] at h
    cases h
/-- Its ways on are stored up to a level. -/
structure Laid (T N L : Nat) (r : Int) (S : Nat → Int) (i : Nat) (m1 m : List Int) : Prop where
  len : m.length = wordsN T N L
  fit : BM.Fits m
  way : ∀ (x : Int) (g : Nat), idx x ≤ (N : Int) → g < L → idx x ≠ idx r → wayI T L m x g = wayI T L m1 x g
  own : ∀ g : Nat, g < i → wayI T L m r g = S g
  rest : ∀ g : Nat, i ≤ g → g < L → wayI T L m r g = wayI T L m1 r g
  key : ∀ x : Int, 1 ≤ idx x → idx x ≤ (N : Int) → keyI T L m x = keyI T L m1 x
  oth : ∀ i : Int, (∀ (r : Int) (g : Nat), idx r ≤ (N : Int) → g < L → i ≠ nextI T L (idx r) g) → getI m i = getI m1 i
theorem lay_run {T N L : Nat} {r dl sq tall : Int} (hT : T ≤ 8) (hN : N ≤ 64) (hL : L ≤ 8) (h2 : idx r ≤ (N : Int)) {sk : KM.St} {ps ss m1 : List Int} {S : Nat → Int} (hS : ∀ g : Nat, g < L → ss.getD g 0 = S g ∧ Word (S g)) {n : Nat} (hn : (n : Int) = min tall (L : Int)) :
    ∀ (j i : Nat) (m : List Int), i + j = n → Laid T N L r S i m1 m → ∃ m', steps (linkA T L r) (linkT L dl sq tall) j m (goOn tall L sk ps ss i) = some (m', ⟨3, n, sk, ps, ss⟩) ∧ Laid T N L r S n m1 m'
  | 0, i, m, e, h => by
    obtain rfl : i = n := e
    exact ⟨m, by rw [goOn_end (by omega)]; rfl, h⟩
  | j + 1, i, m, e, h => by
    have hi : i < L := by omega
    obtain ⟨s1, s2⟩ := hS i hi
    have hset := fun {x : Int} {g : Nat} (a : idx x ≤ (N : Int)) (b : g < L) => set_way (v := S i) hT hN hL h.len h2 a hi b
    have hs : Laid T N L r S (i + 1) m1 (setI m (nextI T L (idx r) i) (S i)) :=
      ⟨by rw [setI_length]; exact h.len, fits_set h.fit _ s2, fun x g a b c => by rw [hset a b, if_neg fun q => c q.1]; exact h.way x g a b c, fun g a => by
        rw [hset h2 (by omega)]
        by_cases e : g = i
        · rw [if_pos ⟨rfl, e⟩, e]
        · rw [if_neg fun q => e q.2]
          exact h.own g (by omega), fun g a b => by rw [hset h2 b, if_neg fun q => by omega]; exact h.rest g (by omega) b,
        fun x a b => by rw [set_key hT hN hL h2 a b hi]; exact h.key x a b, fun k hk => by rw [get_other (Ne.symm (hk r i h2 hi))]; exact h.oth k hk⟩
    obtain ⟨m', k1, k2⟩ := lay_run hT hN hL h2 (dl := dl) (sq := sq) (tall := tall) (sk := sk) (ps := ps) (ss := ss) hS hn j (i + 1) _ (by omega) hs
    refine ⟨m', ?_, k2⟩
    rw [goOn_on (by omega), steps_more (k := j) linkA_2, nextD_2, linkT_2, Int.toNat_natCast, s1]
    exact k1
/-- What is so behind it. -/
structure Linked (T N L : Nat) (l m : List Int) (r tall : Int) (P S : Nat → Int) : Prop where
  len : m.length = wordsN T N L
  fit : BM.Fits m
  key : ∀ x : Int, 1 ≤ idx x → idx x ≤ (N : Int) → keyI T L m x = keyI T L l x
  low : ∃ A B fr, Chain T L N m 0 (A ++ r :: B) ∧ (A ++ r :: B).filter (freeB T L m 0) = A.filter fr ++ r :: B.filter fr ∧ keptL T L N l 0 = A.filter fr ++ B.filter fr
  high : ∀ g : Nat, 1 ≤ g → g < L → ∃ cl, Chain T L N m g cl ∧ cl.Sublist (chainI T L N l g).1 ∧ cl.filter (freeB T L m g) = keptL T L N l g ∧ wayI T L m (P g) g = S g
  own : ∀ g : Nat, g < L → (g : Int) < tall → wayI T L m r g = S g
  oth : ∀ i : Int, (∀ (r : Int) (g : Nat), idx r ≤ (N : Int) → g < L → i ≠ nextI T L (idx r) g) → getI m i = getI l i
  sub : ∀ c ∈ (chainI T L N m (0 : Nat)).1, c = r ∨ c ∈ (chainI T L N l (0 : Nat)).1
theorem res_word {T N L g : Nat} {lt : Int → Bool} {l : List Int} (hk : ∀ c ∈ keptL T L N l g, Word c) : Word (resL T L N lt l g).1 ∧ Word (resL T L N lt l g).2 := by
  constructor
  · rcases find_where lt (keptL T L N l g) 0 with h | ⟨h, -⟩
    · show Word (findL lt (keptL T L N l g) 0).1
      rw [h]; exact ⟨by decide, by decide⟩
    · exact hk _ h
  · rcases find_next lt (keptL T L N l g) 0 with h | ⟨h, -⟩
    · show Word (findL lt (keptL T L N l g) 0).2
      rw [h]; exact ⟨by decide, by decide⟩
    · exact hk _ h
theorem map_getD {f : Nat → Int} {L g : Nat} (h : g < L) : ((List.range L).map f).getD g 0 = f g := by
  rw [List.getD_eq_getElem?_getD, List.getElem?_map, List.getElem?_range h]
  rfl
theorem link_run {T N L : Nat} {r dl sq tall : Int} (hT : T ≤ 8) (hN : N ≤ 64) (hL : L ≤ 8) (hL1 : 1 ≤ L) {l : List Int} (hl : l.length = wordsN T N L) (hf : BM.Fits l) (hg : GoodW T L N l) (hkw : ∀ g : Nat, ∀ c ∈ keptL T L N l g, Word c) (hr : Word r) (h1 : 1 ≤ idx r) (h2 : idx r ≤ (N : Int)) (he : r % 2 = 0) (ht : 1 ≤ tall)
    (hap : ∀ h : Nat, h < L → ∀ c ∈ (chainI T L N l h).1, idx c ≠ idx r ∧ keyI T L l c ≠ (dl, sq)) (hkey : keyI T L l r = (dl, sq)) (lv : Int) :
    ∃ k m sk, k ≤ 1600 ∧ steps (linkA T L r) (linkT L dl sq tall) k l (begin L lv) = some (m, ⟨0, min tall L, sk, (List.range L).map fun h => (resL T L N (fun c => ltK (keyI T L l c) (dl, sq)) l h).1, (List.range L).map fun h => (resL T L N (fun c => ltK (keyI T L l c) (dl, sq)) l h).2⟩) ∧
      Linked T N L l m r tall (fun h => (resL T L N (fun c => ltK (keyI T L l c) (dl, sq)) l h).1) (fun h => (resL T L N (fun c => ltK (keyI T L l c) (dl, sq)) l h).2) := by
  obtain ⟨lt, hlt⟩ : ∃ lt : Int → Bool, lt = fun c => ltK (keyI T L l c) (dl, sq) := ⟨_, rfl⟩
  rw [← hlt]
  have hltk : ∀ c : Int, ltK (keyI T L l c) (dl, sq) = lt c := fun c => by rw [hlt]
  obtain ⟨k1, m1, lv', pr', cu', nx', q1, q2, q3, q4, q5, -, q7, q8⟩ := all_run (Q := 193) (Nat.le_refl _) hT hN hL (dl := dl) (sq := sq) (lt := lt) hg (fun c _ _ => hltk c) L l 0 0 0 [] [] (Nat.le_refl _) ⟨hl, hf, fun _ _ _ _ => rfl, fun _ _ _ => rfl, fun _ _ => rfl⟩ (fun _ _ => .inl rfl)
  clear hlt
  change steps _ _ k1 l (anew L 0 0) = _ at q2
  rw [List.nil_append, List.nil_append] at q2
  obtain ⟨P, hP⟩ : ∃ P : Nat → Int, P = fun h => (resL T L N lt l h).1 := ⟨_, rfl⟩
  obtain ⟨S, hS⟩ : ∃ S : Nat → Int, S = fun h => (resL T L N lt l h).2 := ⟨_, rfl⟩
  rw [← hP, ← hS] at q2 ⊢
  have hP' : ∀ g, (resL T L N lt l g).1 = P g := fun g => by rw [hP]
  have hS' : ∀ g, (resL T L N lt l g).2 = S g := fun g => by rw [hS]
  have hword : ∀ g, Word (P g) ∧ Word (S g) := fun g => by rw [← hP', ← hS']; exact res_word (hkw g)
  obtain ⟨sk, hsk⟩ : ∃ sk : KM.St, sk = ⟨0, lv', pr', cu', nx', (List.range L).reverse.map P, (List.range L).reverse.map S⟩ := ⟨_, rfl⟩
  rw [← hsk] at q2
  have hps : sk.ps.reverse = (List.range L).map P := by rw [hsk]; simp [← List.map_reverse]
  have hss : sk.ss.reverse = (List.range L).map S := by rw [hsk]; simp [← List.map_reverse]
  have hst : seekA T L sk = none := seek_isSome (by rw [hsk])
  clear hsk hP hS
  -- the stores
  obtain ⟨n, hn⟩ : ∃ n : Nat, (n : Int) = min tall (L : Int) := ⟨(min tall (L : Int)).toNat, by omega⟩
  obtain ⟨m2, s1, s2⟩ := lay_run hT hN hL h2 (dl := dl) (sq := sq) (tall := tall) (sk := sk) (ps := (List.range L).map P) (ss := (List.range L).map S) (m1 := m1) (S := S) (fun g a => ⟨map_getD a, (hword g).2⟩) hn n 0 m1 (by omega) ⟨q3, q4, fun _ _ _ _ _ => rfl, fun g a => by omega, fun _ _ _ => rfl, fun _ _ _ => rfl, fun _ _ => rfl⟩
  -- the chains behind the stores
  have hkm : ∀ c : Int, 1 ≤ idx c → idx c ≤ (N : Int) → keyI T L m2 c = keyI T L l c := fun c a b => by rw [s2.key c a b, q7 c a b]
  have hmem : ∀ g : Nat, g < L → ∀ c ∈ (chainI T L N l g).1, 1 ≤ idx c ∧ idx c ≤ (N : Int) := fun g a c hc => by
    obtain ⟨cl, e⟩ := pair_yes (hg g (by omega)).1
    rw [e] at hc
    have := path_in _ _ (chain_of e).2.1 c hc
    exact ⟨this.1, this.2.1⟩
  have hsplit := fun (g : Nat) (a : g < L) => (q5 g a).split (K := (dl, sq)) (fun c x y => by rw [q7 c x y]; exact hltk c)
  -- the same chains, of the words behind the stores
  have hch2 : ∀ (g : Nat) (cl : List Int), g < L → Chain T L N m1 g cl → cl.Sublist (chainI T L N l g).1 → Chain T L N m2 g cl ∧ cl.filter (freeB T L m2 g) = cl.filter (freeB T L m1 g) := fun g cl a hc hs => by
    have hne : ∀ c ∈ cl, idx c ≠ idx r := fun c hc => (hap g a c (hs.subset hc)).1
    have hin := path_in _ _ hc.2.1
    have hw0 : wayI T L m2 0 g = wayI T L m1 0 g := s2.way 0 g (by rw [idx_zero]; omega) a (by rw [idx_zero]; omega)
    refine ⟨⟨by rw [hw0]; exact hc.1, by rw [hw0]; exact path_cong cl _ hc.2.1 fun c hc => s2.way c g (hin c hc).2.1 a (hne c hc), List.Pairwise.imp_of_mem (fun {x y} hx hy hxy => by rw [s2.key x (hin x hx).1 (hin x hx).2.1, s2.key y (hin y hy).1 (hin y hy).2.1]; exact hxy) hc.2.2⟩, ?_⟩
    exact List.filter_congr fun c hc => by unfold freeB; rw [s2.way c g (hin c hc).2.1 a (hne c hc)]
  obtain ⟨A, B, c1, c2, c3, c4, c5, c6, c7, c8⟩ := hsplit 0 hL1
  rw [hP'] at c6
  rw [hS'] at c7
  obtain ⟨d1, d2⟩ := hch2 0 _ hL1 c1 c2
  have hin := path_in _ _ c1.2.1
  have hP0 : idx (P 0) ≤ (N : Int) ∧ idx (P 0) ≠ idx r := by
    rw [← c6]
    rcases last_cases A with rfl | ⟨A', p, rfl⟩
    · exact ⟨by show idx 0 ≤ _; rw [idx_zero]; omega, by show idx 0 ≠ _; rw [idx_zero]; omega⟩
    · rw [last_snoc]
      exact ⟨(hin p (by simp)).2.1, (hap 0 hL1 p (c2.subset (by simp))).1⟩
  have hway0 : wayI T L m2 (P 0) 0 = S 0 := by
    refine (s2.way (P 0) 0 hP0.1 hL1 hP0.2).trans ?_
    rw [← c6, ← c7]; exact c8
  have hrk : keyI T L m2 r = (dl, sq) := by rw [hkm r h1 h2]; exact hkey
  have hhang := hang (r := r) hT hN hL hL1 s2.len d1 h1 h2 he (fun c hc => (hap 0 hL1 c (c2.subset hc)).1) (by rw [c7]; exact s2.own 0 (by omega)) (by rw [c6, c7]; exact hway0)
    (fun a ha => by
      have h5 := hin a (by simp [ha])
      rw [hrk, hkm a h5.1 h5.2.1, hltk]
      exact c4 a ha)
    (fun b hb => by
      have h5 := hin b (by simp [hb])
      rw [hrk, hkm b h5.1 h5.2.1]
      have h6 := c5 b hb
      rw [← hltk] at h6
      rcases cmpK_cases (keyI T L l b) (dl, sq) with ⟨h7, -⟩ | ⟨-, h7, -⟩ | ⟨h7, -⟩
      · rw [h6] at h7; cases h7
      · exact h7
      · exact absurd h7 (hap 0 hL1 b (c2.subset (by simp [hb]))).2)
  rw [c6] at hhang
  obtain ⟨z1, z2⟩ := hhang
  have hset := fun {x : Int} {g : Nat} (a : idx x ≤ (N : Int)) (b : g < L) => set_way (v := r) hT hN hL s2.len hP0.1 a hL1 b
  refine ⟨k1 + (n + 1), setI m2 (nextI T L (idx (P 0)) (0 : Nat)) r, sk, by omega, ?_, ⟨by rw [setI_length]; exact s2.len, fits_set s2.fit _ hr, fun x a b => by rw [set_key hT hN hL hP0.1 a b hL1]; exact hkm x a b, ⟨A, B, freeB T L m2 0, z1, z2, ?_⟩, fun g a b => ?_, fun g a b => ?_, fun i hi => ?_, fun c hc => ?_⟩⟩
  · refine (steps_lead (link_leads (r := r) (tall := tall) (lv := lv)) k1 (n + 1) l m1 (anew L 0 0) sk (1, nextI T L (idx 0) (L - 1), 0, 0, 0) ?_ q2 hst).trans ?_
    · unfold anew
      rw [desc_on (by omega), seekA_1]
    · rw [hps, hss]
      refine steps_then n 1 m1 m2 _ _ _ s1 ?_
      rw [steps_more (k := 0) linkA_3, nextD_3, foundD_yes (by simp)]
      have e1 : ((List.range L).map P).getD 0 0 = P 0 := map_getD hL1
      have e2 : ((List.range L).map S).getD 0 0 = S 0 := map_getD hL1
      have e3 : getI m2 (nextI T L (idx (P 0)) 0) = S 0 := hway0
      rw [linkT_3 (by show getI m2 (nextI T L (idx (((List.range L).map P).getD 0 0)) 0) = _; rw [e1, e2]; exact e3), e1, e2, ← e3, MM.swap_is, hn]
      rfl
  · have h5 := d2.trans c3
    rw [List.filter_append] at h5
    exact h5.symm
  · obtain ⟨A', B', g1, g2, g3, -, -, g6, g7, g8⟩ := hsplit g b
    obtain ⟨f1, f2⟩ := hch2 g _ b g1 g2
    have hw : ∀ x : Int, idx x ≤ (N : Int) → wayI T L (setI m2 (nextI T L (idx (P 0)) (0 : Nat)) r) x g = wayI T L m2 x g := fun x c => by rw [hset c b, if_neg fun q => by omega]
    have hing := path_in _ _ f1.2.1
    rw [hP'] at g6
    rw [hS'] at g7
    refine ⟨A' ++ B', chain_on hw (fun c hc => set_key hT hN hL hP0.1 (hing c hc).1 (hing c hc).2.1 hL1) f1, g2, ?_, ?_⟩
    · rw [← g3, ← f2]
      exact List.filter_congr fun c hc => by unfold freeB; rw [hw c (hing c hc).2.1]
    · rw [← g6, ← g7, ← g8]
      have hla : idx (lastD A' 0) ≤ (N : Int) ∧ idx (lastD A' 0) ≠ idx r := by
        rcases last_cases A' with rfl | ⟨A2, p, rfl⟩
        · exact ⟨by show idx 0 ≤ _; rw [idx_zero]; omega, by show idx 0 ≠ _; rw [idx_zero]; omega⟩
        · rw [last_snoc]
          exact ⟨(hing p (by simp)).2.1, (hap g b p (g2.subset (by simp))).1⟩
      rw [hw _ hla.1, s2.way _ g hla.1 b hla.2]
  · rw [hset h2 a, if_neg fun q => hP0.2 q.1.symm]
    exact s2.own g (by omega)
  · rw [get_other (Ne.symm (hi (P 0) 0 hP0.1 hL1)), s2.oth i hi, q8 i hi]
  · rw [chain_is hN z1] at hc
    rcases List.mem_append.1 hc with q | q
    · exact .inr (c2.subset (List.mem_append_left _ q))
    · rcases List.mem_cons.1 q with q | q
      · exact .inl q
      · exact .inr (c2.subset (List.mem_append_right _ q))
end Go.Proofs.YtlagghghbpbcbaaGreatDoor.LiM

/- A lifter done alone where all chains rise, and whoever is in one without a mark is so in the one below, in plain lists: a timer that is in the lowest one alone is in those of all levels below its height then. No program is named. -/
namespace Go.Proofs.YtlagghghbpbcbaaGreatDoor.LfM
set_option maxRecDepth 20000
open DM PM CM BM OM KM Runs
open LiM (seek_isSome seekT_st map_getD res_word)
open Go.RowKit (wrap64)
set_option linter.unusedVariables false
set_option linter.unusedSimpArgs false

/-! Chains of which just what stands in them counts. -/
theorem chain_off {T N L h : Nat} {l m cl : List Int} (h0 : wayI T L m 0 h = wayI T L l 0 h) (hw : ∀ c ∈ cl, wayI T L m c h = wayI T L l c h) (hk : ∀ c ∈ cl, keyI T L m c = keyI T L l c) (hc : Chain T L N l h cl) : Chain T L N m h cl ∧ cl.filter (freeB T L m h) = cl.filter (freeB T L l h) := by
  obtain ⟨he, hp, hr⟩ := hc
  refine ⟨⟨by rw [h0]; exact he, by rw [h0]; exact path_cong cl _ hp fun c hc => hw c hc, List.Pairwise.imp_of_mem (fun {a b} ha hb hab => by rw [hk a ha, hk b hb]; exact hab) hr⟩, ?_⟩
  exact List.filter_congr fun c hc => by unfold freeB; rw [hw c hc]
theorem good_chain {T N L : Nat} {l : List Int} (hg : GoodW T L N l) {g : Nat} (h : g < L) : ∃ cl, chainI T L N l g = (cl, true) ∧ Chain T L N l g cl ∧ keptL T L N l g = cl.filter (freeB T L l g) ∧ ∀ c ∈ cl, 1 ≤ idx c ∧ idx c ≤ (N : Int) ∧ c % 2 = 0 := by
  obtain ⟨cl, e⟩ := pair_yes (hg g (by omega)).1
  have hc := chain_of e
  exact ⟨cl, e, hc, by unfold keptL; rw [e], path_in _ _ hc.2.1⟩
theorem good_kept {T N L : Nat} {l : List Int} (hg : GoodW T L N l) {g : Nat} (h : g + 1 < L) {x : Int} (hx : x ∈ keptL T L N l (g + 1 : Nat)) : x ∈ keptL T L N l g := by
  have h1 := List.mem_filter.1 hx
  have h2 := (hg (g + 1) (by omega)).2 g rfl x h1.1 h1.2
  exact List.mem_filter.2 h2
theorem good_low {T N L : Nat} {l : List Int} (hg : GoodW T L N l) {x : Int} : ∀ {g : Nat}, g < L → x ∈ keptL T L N l g → x ∈ keptL T L N l (0 : Nat)
  | 0, _, hx => hx
  | g + 1, h, hx => good_low hg (g := g) (by omega) (good_kept hg h hx)
/-- All chains, told one by one. -/
theorem good_of {T N L : Nat} {m : List Int} (hN : N ≤ 64) (hc : ∀ g : Nat, g < L → ∃ cl, Chain T L N m g cl) (hk : ∀ g : Nat, g + 1 < L → ∀ x ∈ keptL T L N m (g + 1 : Nat), x ∈ keptL T L N m g) : GoodW T L N m := by
  intro h hh
  obtain ⟨cl, e⟩ := hc h (by omega)
  refine ⟨by rw [chain_is hN e], fun g hg r hr hf => ?_⟩
  subst hg
  have h1 := hk g (by omega) r (List.mem_filter.2 ⟨hr, hf⟩)
  exact List.mem_filter.1 h1
theorem rises_ne {key : Int → Key} {l : List Int} (h : Rises key l) {a b : Int} (ha : a ∈ l) (hb : b ∈ l) (hn : a ≠ b) : key a ≠ key b := by
  obtain ⟨i, hi, ea⟩ := List.getElem_of_mem ha
  obtain ⟨j, hj, eb⟩ := List.getElem_of_mem hb
  intro e
  have hp := List.pairwise_iff_getElem.1 h
  rcases Nat.lt_trichotomy i j with q | q | q
  · have := hp i j hi hj q
    rw [ea, eb, e, ltK_irrefl] at this
    cases this
  · subst q
    exact hn (ea.symm.trans eb)
  · have := hp j i hj hi q
    rw [ea, eb, e, ltK_irrefl] at this
    cases this

/-! The higher ways on of a slot are none. -/
def zeroL (T L i : Int) (l : List Int) : Nat → List Int
  | 0 => l
  | k + 1 => setI (zeroL T L i l k) (nextI T L i ((k + 1 : Nat) : Int)) 0
section
variable {T N L : Nat} {l : List Int} {r : Int}
end

/-! Amid the rise. -/
/-- A timer is in the chains below a level, and in none from there on; all else is as it was. -/
structure Up (T N L : Nat) (l : List Int) (r : Int) (h : Nat) (m : List Int) : Prop where
  len : m.length = wordsN T N L
  fit : BM.Fits m
  key : ∀ x : Int, 1 ≤ idx x → idx x ≤ (N : Int) → keyI T L m x = keyI T L l x
  low : ∀ g : Nat, g < h → g < L → r ∈ keptL T L N m g ∧ ∀ x ∈ keptL T L N l g, x ∈ keptL T L N m g
  high : ∀ g : Nat, h ≤ g → g < L → ∃ cl, Chain T L N m g cl ∧ cl.Sublist (chainI T L N l g).1 ∧ cl.filter (freeB T L m g) = keptL T L N l g
  good : GoodW T L N m
  own : ∀ g : Nat, h ≤ g → g < L → wayI T L m r g % 2 = 0
  kept : keptL T L N m (0 : Nat) = keptL T L N l (0 : Nat)
  oth : ∀ i : Int, (∀ (x : Int) (g : Nat), idx x ≤ (N : Int) → g < L → i ≠ nextI T L (idx x) g) → getI m i = getI l i
section
variable {T N L : Nat} {l m m' : List Int} {r : Int} {h : Nat}
theorem Up.res (hN : N ≤ 64) (hu : Up T N L l r h m) {lt : Int → Bool} {g : Nat} (a : h ≤ g) (b : g < L) : keptL T L N m g = keptL T L N l g ∧ resL T L N lt m g = resL T L N lt l g := by
  obtain ⟨cl, h1, -, h3⟩ := hu.high g a b
  have h4 := (kept_of hN h1).trans h3
  exact ⟨h4, by unfold resL; rw [h4]⟩
/-- What is sought keeps it so. -/
theorem Up.sought (hN : N ≤ 64) (hu : Up T N L l r h m) {lt : Int → Bool} (h2 : idx r ≤ (N : Int)) (hl : m'.length = wordsN T N L) (hf : BM.Fits m') (hs : ∀ g : Nat, g < L → Sought T N L lt m m' g) (hk : ∀ x : Int, 1 ≤ idx x → idx x ≤ (N : Int) → keyI T L m' x = keyI T L m x) (ho : ∀ i : Int, (∀ (x : Int) (g : Nat), idx x ≤ (N : Int) → g < L → i ≠ nextI T L (idx x) g) → getI m' i = getI m i) (h1 : 1 ≤ L) : Up T N L l r h m' := by
  have hkp : ∀ g : Nat, g < L → keptL T L N m' g = keptL T L N m g := fun g a => ((hs g a).finds hN).2
  refine ⟨hl, hf, fun x a b => (hk x a b).trans (hu.key x a b), fun g a b => ?_, fun g a b => ?_, good_of hN (fun g a => ?_) (fun g a x hx => ?_), fun g a b => ?_, (hkp 0 h1).trans hu.kept, fun i hi => (ho i hi).trans (hu.oth i hi)⟩
  · rw [hkp g b]
    exact hu.low g a b
  · obtain ⟨cl, c1, c2, c3, -⟩ := hs g b
    obtain ⟨cm, d1, d2, d3⟩ := hu.high g a b
    rw [chain_is hN d1] at c2
    exact ⟨cl, c1, c2.trans d2, by rw [c3, (hu.res hN (lt := lt) a b).1]⟩
  · obtain ⟨cl, c1, -⟩ := hs g a
    exact ⟨cl, c1⟩
  · rw [hkp (g + 1) a] at hx
    rw [hkp g (by omega)]
    exact good_kept hu.good a hx
  · obtain ⟨cl, -, -, -, -, c5, -⟩ := hs g b
    rw [c5 r h2]
    exact hu.own g a b
/-- Its own way on is turned, where it is in no chain. -/
theorem Up.led (hT : T ≤ 8) (hN : N ≤ 64) (hL : L ≤ 8) (hu : Up T N L l r h m) (h1 : 1 ≤ idx r) (h2 : idx r ≤ (N : Int)) (hap : ∀ g : Nat, h ≤ g → g < L → ∀ c ∈ (chainI T L N l g).1, idx c ≠ idx r) (hh : h < L) (hp : 1 ≤ h) {v : Int} (hv : 0 ≤ v ∧ v < 18446744073709551616) (he : v % 2 = 0) : Up T N L l r h (setI m (nextI T L (idx r) h) v) := by
  have hset := fun {x : Int} {g : Nat} (a : idx x ≤ (N : Int)) (b : g < L) => set_way (v := v) hT hN hL hu.len h2 a hh b
  have hkey := fun {x : Int} (a : 1 ≤ idx x) (b : idx x ≤ (N : Int)) => set_key (m := m) (v := v) hT hN hL h2 a b hh
  have hlen := setI_length m (nextI T L (idx r) h) v
  have hfit := fits_set hu.fit (nextI T L (idx r) h) hv
  have hoth : ∀ i : Int, (∀ (x : Int) (g : Nat), idx x ≤ (N : Int) → g < L → i ≠ nextI T L (idx x) g) → getI (setI m (nextI T L (idx r) h) v) i = getI m i := fun i hi => get_other (Ne.symm (hi r h h2 hh))
  generalize setI m (nextI T L (idx r) h) v = m' at hset hkey hlen hfit hoth ⊢
  -- each chain is as it was
  have hch : ∀ g : Nat, g < L → ∀ cl, Chain T L N m g cl → (g = h → ∀ c ∈ cl, idx c ≠ idx r) → Chain T L N m' g cl ∧ cl.filter (freeB T L m' g) = cl.filter (freeB T L m g) := fun g a cl hc hn => by
    have hin := path_in _ _ hc.2.1
    refine chain_off ?_ (fun c k => ?_) (fun c k => hkey (hin c k).1 (hin c k).2.1) hc
    · rw [hset (by rw [idx_zero]; omega) a, if_neg fun q => by rw [idx_zero] at q; omega]
    · rw [hset (hin c k).2.1 a, if_neg fun q => hn q.2 c k q.1]
  have hnh : ∀ cl : List Int, cl.Sublist (chainI T L N l h).1 → ∀ c ∈ cl, idx c ≠ idx r := fun cl hs c k => hap h (Nat.le_refl _) hh c (hs.subset k)
  have hone : ∀ g : Nat, g < L → ∃ cl, Chain T L N m g cl ∧ (g = h → ∀ c ∈ cl, idx c ≠ idx r) := fun g a => by
    by_cases e : g = h
    · subst e
      obtain ⟨cl, c1, c2, -⟩ := hu.high g (Nat.le_refl _) a
      exact ⟨cl, c1, fun _ => hnh cl c2⟩
    · obtain ⟨cl, -, c1, -⟩ := good_chain hu.good a
      exact ⟨cl, c1, fun q => absurd q e⟩
  have hkp : ∀ g : Nat, g < L → keptL T L N m' g = keptL T L N m g := fun g a => by
    obtain ⟨cl, c1, c2⟩ := hone g a
    obtain ⟨d1, d2⟩ := hch g a cl c1 c2
    rw [kept_of hN d1, kept_of hN c1, d2]
  refine ⟨hlen.trans hu.len, hfit, fun x a b => (hkey a b).trans (hu.key x a b), fun g a b => ?_, fun g a b => ?_, good_of hN (fun g a => ?_) (fun g a x hx => ?_), fun g a b => ?_, (hkp 0 (by omega)).trans hu.kept, fun i hi => (hoth i hi).trans (hu.oth i hi)⟩
  · rw [hkp g b]
    exact hu.low g a b
  · obtain ⟨cl, c1, c2, c3⟩ := hu.high g a b
    obtain ⟨d1, d2⟩ := hch g b cl c1 fun e => by subst e; exact hnh cl c2
    exact ⟨cl, d1, c2, d2.trans c3⟩
  · obtain ⟨cl, c1, c2⟩ := hone g a
    exact ⟨cl, (hch g a cl c1 c2).1⟩
  · rw [hkp (g + 1) a] at hx
    rw [hkp g (by omega)]
    exact good_kept hu.good a hx
  · rw [hset h2 b]
    split
    · exact he
    · exact hu.own g a b
/-- It hangs at one more level. -/
theorem Up.hung (hT : T ≤ 8) (hN : N ≤ 64) (hL : L ≤ 8) (hu : Up T N L l r h m) (hg : GoodW T L N l) {K : Key} {lt : Int → Bool} (h1 : 1 ≤ idx r) (h2 : idx r ≤ (N : Int)) (he : r % 2 = 0) (hr : 0 ≤ r ∧ r < 18446744073709551616) (hk : keyI T L l r = K) (hr0 : r ∈ keptL T L N l (0 : Nat)) (hlt : ∀ c : Int, 1 ≤ idx c → idx c ≤ (N : Int) → ltK (keyI T L l c) K = lt c)
    (hap : ∀ g : Nat, h ≤ g → g < L → ∀ c ∈ (chainI T L N l g).1, idx c ≠ idx r) (hh : h < L) (hp : 1 ≤ h) (hw : wayI T L m r h = (resL T L N lt l h).2) (hv : wayI T L m (resL T L N lt l h).1 h = (resL T L N lt l h).2) :
    Up T N L l r (h + 1) (setI m (nextI T L (idx (resL T L N lt l h).1) h) r) ∧ ∀ g : Nat, h < g → g < L → ∀ x : Int, idx x ≤ (N : Int) → wayI T L (setI m (nextI T L (idx (resL T L N lt l h).1) h) r) x g = wayI T L m x g := by
  obtain ⟨cl, c1, c2, c3⟩ := hu.high h (Nat.le_refl _) hh
  obtain ⟨e1, e2⟩ := hu.res hN (lt := lt) (Nat.le_refl h) hh
  have hltm : ∀ c : Int, 1 ≤ idx c → idx c ≤ (N : Int) → ltK (keyI T L m c) K = lt c := fun c a b => by rw [hu.key c a b]; exact hlt c a b
  have hs : Sought T N L lt m m h := ⟨cl, c1, by rw [chain_is hN c1]; exact List.Sublist.refl _, by rw [kept_of hN c1], by rw [e2]; exact hv, fun _ _ => rfl, fun _ _ _ => rfl, fun _ _ _ _ => rfl⟩
  obtain ⟨A, B, d1, d2, d3, d4, d5, d6, d7, -⟩ := hs.split hltm
  rw [chain_is hN c1] at d2
  rw [e2] at d6 d7
  rw [e1] at d3
  have hsub : ∀ c ∈ A ++ B, idx c ≠ idx r := fun c hc => hap h (Nat.le_refl _) hh c (c2.subset (d2.subset hc))
  have hin := path_in _ _ d1.2.1
  have hrk : keyI T L m r = K := (hu.key r h1 h2).trans hk
  have hS := find_next lt (keptL T L N l h) 0
  change (resL T L N lt l h).2 = 0 ∨ ((resL T L N lt l h).2 ∈ _ ∧ lt (resL T L N lt l h).2 = false) at hS
  generalize hPe : (resL T L N lt l h).1 = P at *
  generalize hSe : (resL T L N lt l h).2 = S at *
  have hP : idx P ≤ (N : Int) ∧ idx P ≠ idx r := by
    rw [← d6]
    rcases last_cases A with rfl | ⟨A', p, rfl⟩
    · exact ⟨by show idx 0 ≤ _; rw [idx_zero]; omega, by show idx 0 ≠ _; rw [idx_zero]; omega⟩
    · rw [last_snoc]
      exact ⟨(hin p (by simp)).2.1, hsub p (by simp)⟩
  have hBk : ∀ b ∈ B, ltK (keyI T L m r) (keyI T L m b) = true := by
    cases B with
    | nil => intro b hb; cases hb
    | cons b0 B =>
      have hb0 : b0 = S := d7
      have hi0 := hin b0 (by simp)
      rw [hrk]
      have hSm : S ∈ keptL T L N l h ∧ lt S = false := hS.resolve_left fun e => by rw [hb0, e, idx_zero] at hi0; omega
      have hlow := good_low hg hh hSm.1
      obtain ⟨c0, -, f1, f2, -⟩ := good_chain hg (show 0 < L by omega)
      have hris : Rises (keyI T L l) (keptL T L N l (0 : Nat)) := by rw [f2]; exact List.Pairwise.sublist List.filter_sublist f1.2.2
      have hne := rises_ne hris hlow hr0 (fun e => hsub b0 (by simp) (by rw [hb0, e]))
      rw [hk] at hne
      have hfirst : ltK K (keyI T L m b0) = true := by
        rw [hu.key b0 hi0.1 hi0.2.1, hb0]
        have h6 := hSm.2
        rw [← hlt S (by rw [← hb0]; exact hi0.1) (by rw [← hb0]; exact hi0.2.1)] at h6
        rcases cmpK_cases (keyI T L l S) K with ⟨h7, -⟩ | ⟨-, h7, -⟩ | ⟨h7, -⟩
        · rw [h6] at h7; cases h7
        · exact h7
        · exact absurd h7 hne
      have hr3 := d1.2.2
      rw [Rises, List.pairwise_append, List.pairwise_cons] at hr3
      intro b hb
      rcases List.mem_cons.1 hb with rfl | hb
      · exact hfirst
      · exact ltK_trans _ _ _ hfirst (hr3.2.1.1 b hb)
  obtain ⟨g1, g2⟩ := hang (r := r) hT hN hL hh hu.len d1 h1 h2 he hsub (by rw [d7]; exact hw) (by rw [d6, d7]; exact hv) (fun a ha => by
    have h5 := hin a (by simp [ha])
    rw [hrk, hltm a h5.1 h5.2.1]
    exact d4 a ha) hBk
  rw [d6] at g1 g2
  have hset := fun {x : Int} {g : Nat} (a : idx x ≤ (N : Int)) (b : g < L) => set_way (v := r) hT hN hL hu.len hP.1 a hh b
  have hkey := fun {x : Int} (a : 1 ≤ idx x) (b : idx x ≤ (N : Int)) => set_key (m := m) (v := r) hT hN hL hP.1 a b hh
  have hlen := setI_length m (nextI T L (idx P) h) r
  have hfit := fits_set hu.fit (nextI T L (idx P) h) hr
  have hoth : ∀ i : Int, (∀ (x : Int) (g : Nat), idx x ≤ (N : Int) → g < L → i ≠ nextI T L (idx x) g) → getI (setI m (nextI T L (idx P) h) r) i = getI m i := fun i hi => get_other (Ne.symm (hi P h hP.1 hh))
  generalize setI m (nextI T L (idx P) h) r = m' at hset hkey hlen hfit hoth g1 g2 ⊢
  have hoff : ∀ (x : Int) (g : Nat), idx x ≤ (N : Int) → g < L → g ≠ h → wayI T L m' x g = wayI T L m x g := fun x g a b c => by rw [hset a b, if_neg fun q => c q.2]
  have hch : ∀ g : Nat, g < L → g ≠ h → ∀ cl, Chain T L N m g cl → Chain T L N m' g cl ∧ cl.filter (freeB T L m' g) = cl.filter (freeB T L m g) := fun g a e cl hc => by
    have hin := path_in _ _ hc.2.1
    exact chain_off (hoff 0 g (by rw [idx_zero]; omega) a e) (fun c k => hoff c g (hin c k).2.1 a e) (fun c k => hkey (hin c k).1 (hin c k).2.1) hc
  have hkp : ∀ g : Nat, g < L → g ≠ h → keptL T L N m' g = keptL T L N m g := fun g a e => by
    obtain ⟨cl, -, c1, -⟩ := good_chain hu.good a
    obtain ⟨d1, d2⟩ := hch g a e cl c1
    rw [kept_of hN d1, kept_of hN c1, d2]
  have hkh : keptL T L N m' h = A.filter (freeB T L m h) ++ r :: B.filter (freeB T L m h) := (kept_of hN g1).trans g2
  have hkm : keptL T L N m h = A.filter (freeB T L m h) ++ B.filter (freeB T L m h) := by rw [e1, ← d3, List.filter_append]
  have hmore : ∀ x ∈ keptL T L N m h, x ∈ keptL T L N m' h := fun x hx => by
    rw [hkm, List.mem_append] at hx
    rw [hkh, List.mem_append, List.mem_cons]
    exact hx.imp id .inr
  refine ⟨⟨hlen.trans hu.len, hfit, fun x a b => (hkey a b).trans (hu.key x a b), fun g a b => ?_, fun g a b => ?_, good_of hN (fun g a => ?_) (fun g a x hx => ?_), fun g a b => ?_, (hkp 0 (by omega) (by omega)).trans hu.kept, fun i hi => (hoth i hi).trans (hu.oth i hi)⟩, fun g a b x c => hoff x g c b (by omega)⟩
  · by_cases e : g = h
    · subst e
      exact ⟨by rw [hkh]; simp, fun x hx => hmore x (by rw [e1]; exact hx)⟩
    · rw [hkp g b e]
      exact hu.low g (by omega) b
  · obtain ⟨cl, c1, c2, c3⟩ := hu.high g (by omega) b
    obtain ⟨d1, d2⟩ := hch g b (by omega) cl c1
    exact ⟨cl, d1, c2, d2.trans c3⟩
  · by_cases e : g = h
    · subst e
      exact ⟨_, g1⟩
    · obtain ⟨cl, -, c1, -⟩ := good_chain hu.good a
      exact ⟨cl, (hch g a e cl c1).1⟩
  · by_cases e : g + 1 = h
    · subst e
      rw [hkp g (by omega) (by omega)]
      rw [hkh, List.mem_append, List.mem_cons] at hx
      by_cases q : x = r
      · subst q
        exact (hu.low g (by omega) (by omega)).1
      · refine good_kept hu.good a ?_
        rw [hkm, List.mem_append]
        exact hx.imp id fun z => z.resolve_left q
    · rw [hkp (g + 1) a e] at hx
      have h5 := good_kept hu.good a hx
      by_cases q : g = h
      · subst q
        exact hmore x h5
      · rw [hkp g (by omega) q]
        exact h5
  · rw [hoff r g h2 b (by omega)]
    exact hu.own g (by omega) b
end

/-! The steps. -/
theorem lift_leads {T L r dl sq tall lv wy : Int} {ps ss : List Int} : Leads (liftA T L r) (liftT L dl sq tall) (seekA T L) (seekT L dl sq) (fun t => ⟨3, lv, wy, some t, ps, ss⟩) (fun t => reach tall lv wy t.ps.reverse t.ss.reverse) := by
  intro t d hd
  refine ⟨by rw [liftA_s]; exact hd, fun f => ?_⟩
  rw [liftT_s]
  rcases seekT_st (dl := dl) (sq := sq) (f := f) (show (seekA T L t).isSome = true by rw [hd]; rfl) with h | h
  · rw [keep_done h, seek_isSome h]
    rfl
  · rw [if_pos h, keep_more]
    intro h0
    rw [seek_isSome h0] at h
    cases h
section
variable {T N L : Nat} {l : List Int} {r dl sq tall : Int} {lt : Int → Bool}
/-- Whoever found what there is, for the levels from h on. -/
def Knows (T N L : Nat) (lt : Int → Bool) (l : List Int) (h : Nat) (ps ss : List Int) : Prop := ps.length = L ∧ ss.length = L ∧ ∀ g : Nat, h ≤ g → g < L → ps.getD g 0 = (resL T L N lt l g).1 ∧ ss.getD g 0 = (resL T L N lt l g).2
/-- All that a rise leans on. -/
structure Base (T N L : Nat) (l : List Int) (r dl sq tall : Int) (lt : Int → Bool) : Prop where
  hT : T ≤ 8
  hN : N ≤ 64
  hL : L ≤ 8
  good : GoodW T L N l
  word : ∀ g : Nat, ∀ c ∈ keptL T L N l g, Word c
  r0 : 0 ≤ r ∧ r < 18446744073709551616
  r1 : 1 ≤ idx r
  r2 : idx r ≤ (N : Int)
  re : r % 2 = 0
  key : keyI T L l r = (dl, sq)
  low : r ∈ keptL T L N l (0 : Nat)
  lt : ∀ c : Int, 1 ≤ idx c → idx c ≤ (N : Int) → ltK (keyI T L l c) (dl, sq) = lt c
  apart : ∀ g : Nat, 1 ≤ g → g < L → ∀ c ∈ (chainI T L N l g).1, idx c ≠ idx r
  t1 : 1 ≤ tall
  tL : tall ≤ (L : Int)
theorem Base.res (b : Base T N L l r dl sq tall lt) {h : Nat} (hp : 1 ≤ h) (hh : h < L) : Word (resL T L N lt l h).2 ∧ (resL T L N lt l h).2 % 2 = 0 ∧ idx (resL T L N lt l h).1 ≤ (N : Int) ∧ idx (resL T L N lt l h).1 ≠ idx r := by
  obtain ⟨cl, e, -, hk, hin⟩ := good_chain b.good hh
  have hw := find_where lt (keptL T L N l h) 0
  have hn := find_next lt (keptL T L N l h) 0
  change (resL T L N lt l h).1 = 0 ∨ ((resL T L N lt l h).1 ∈ _ ∧ lt (resL T L N lt l h).1 = true) at hw
  change (resL T L N lt l h).2 = 0 ∨ ((resL T L N lt l h).2 ∈ _ ∧ lt (resL T L N lt l h).2 = false) at hn
  have hap := b.apart h hp hh
  have r1 := b.r1
  rw [e] at hap
  refine ⟨(res_word (b.word h)).2, ?_, ?_⟩
  · rcases hn with q | ⟨q, -⟩
    · rw [q]; rfl
    · rw [hk] at q
      exact (hin _ (List.mem_filter.1 q).1).2.2
  · rcases hw with q | ⟨q, -⟩
    · rw [q, idx_zero]; omega
    · rw [hk] at q
      have q := (List.mem_filter.1 q).1
      exact ⟨(hin _ q).2.1, hap _ q⟩
/-- The first two steps: the timer leads to what is to stand behind it. -/
theorem lead_run (b : Base T N L l r dl sq tall lt) {h : Nat} (hp : 1 ≤ h) (hh : h < L) {m ps ss : List Int} {wy : Int} (hu : Up T N L l r h m) (hk : Knows T N L lt l h ps ss) :
    ∃ k m' wy', k ≤ 2 ∧ steps (liftA T L r) (liftT L dl sq tall) k m ⟨1, h, wy, none, ps, ss⟩ = some (m', ⟨3, h, wy', none, ps, ss⟩) ∧ Up T N L l r h m' ∧ wayI T L m' r h = (resL T L N lt l h).2 ∧ ∀ (x : Int) (g : Nat), idx x ≤ (N : Int) → g < L → idx x ≠ idx r → wayI T L m' x g = wayI T L m x g := by
  obtain ⟨s1, s2, -, -⟩ := b.res hp hh
  have hs := (hk.2.2 h (Nat.le_refl _) hh).2
  have hev := hu.own h (Nat.le_refl _) hh
  have hod : ¬ wayI T L m r h % 2 = 1 := by omega
  have h1 : steps (liftA T L r) (liftT L dl sq tall) 1 m ⟨1, h, wy, none, ps, ss⟩ = some (m, ⟨if wayI T L m r h = (resL T L N lt l h).2 then 3 else 2, h, wayI T L m r h, none, ps, ss⟩) := by
    rw [steps_more (k := 0) liftA_1, nextD_1, foundD_yes (by simp)]
    simp only
    change steps _ _ 0 m (liftT L dl sq tall ⟨1, h, wy, none, ps, ss⟩ (wayI T L m r h)) = _
    rw [liftT_1, if_neg hod, Int.toNat_natCast, hs]
    rfl
  by_cases e : wayI T L m r h = (resL T L N lt l h).2
  · rw [if_pos e] at h1
    exact ⟨1, m, _, by omega, h1, hu, e, fun _ _ _ _ _ => rfl⟩
  · rw [if_neg e] at h1
    refine ⟨1 + 1, setI m (nextI T L (idx r) h) (resL T L N lt l h).2, wayI T L m r h, by omega, steps_then 1 1 _ _ _ _ _ h1 ?_, hu.led b.hT b.hN b.hL b.r1 b.r2 (fun g a c => b.apart g (by omega) c) hh hp s1 s2, ?_, fun x g a c d => ?_⟩
    · rw [steps_more (k := 0) liftA_2, nextD_3, foundD_yes (by simp)]
      simp only
      rw [Int.toNat_natCast, hs]
      change steps _ _ 0 (swapI m (nextI T L (idx r) h) (getI m (nextI T L (idx r) h)) (resL T L N lt l h).2) (liftT L dl sq tall ⟨2, h, wayI T L m r h, none, ps, ss⟩ (wayI T L m r h)) = _
      rw [MM.swap_is, liftT_2, if_pos rfl]
      rfl
    · rw [set_way b.hT b.hN b.hL hu.len b.r2 b.r2 hh hh, if_pos ⟨rfl, rfl⟩]
    · rw [set_way b.hT b.hN b.hL hu.len b.r2 a hh c, if_neg fun q => d q.1]
/-- One level, where what was found stands side by side. -/
theorem level_once (b : Base T N L l r dl sq tall lt) {h : Nat} (hp : 1 ≤ h) (hh : h < L) {m ps ss : List Int} {wy : Int} (hu : Up T N L l r h m) (hk : Knows T N L lt l h ps ss) (hw : wayI T L m (resL T L N lt l h).1 h = (resL T L N lt l h).2) :
    ∃ k m' wy', k ≤ 3 ∧ steps (liftA T L r) (liftT L dl sq tall) k m ⟨1, h, wy, none, ps, ss⟩ = some (m', reach tall ((h + 1 : Nat) : Int) wy' ps ss) ∧ Up T N L l r (h + 1) m' ∧ ∀ (x : Int) (g : Nat), idx x ≤ (N : Int) → h < g → g < L → idx x ≠ idx r → wayI T L m' x g = wayI T L m x g := by
  obtain ⟨k, m1, wy', k1, k2, k3, k4, k5⟩ := lead_run b hp hh (wy := wy) hu hk
  obtain ⟨-, -, s3, s4⟩ := b.res hp hh
  obtain ⟨hsp, hss⟩ := hk.2.2 h (Nat.le_refl _) hh
  have hw1 : wayI T L m1 (resL T L N lt l h).1 h = (resL T L N lt l h).2 := (k5 _ h s3 hh s4).trans hw
  obtain ⟨u1, u2⟩ := k3.hung b.hT b.hN b.hL b.good b.r1 b.r2 b.re b.r0 b.key b.low b.lt (fun g a c => b.apart g (by omega) c) hh hp k4 hw1
  refine ⟨k + 1, _, wy', by omega, steps_then k 1 _ m1 _ _ _ k2 ?_, u1, fun x g a c d e => (u2 g c d x a).trans (k5 x g a d e)⟩
  rw [steps_more (k := 0) liftA_3, nextD_3, foundD_yes (by simp)]
  simp only
  rw [Int.toNat_natCast, hsp, hss]
  change steps _ _ 0 (swapI m1 (nextI T L (idx (resL T L N lt l h).1) h) (resL T L N lt l h).2 r) (liftT L dl sq tall ⟨3, h, wy', none, ps, ss⟩ (wayI T L m1 (resL T L N lt l h).1 h)) = _
  have hsw : swapI m1 (nextI T L (idx (resL T L N lt l h).1) h) (resL T L N lt l h).2 r = setI m1 (nextI T L (idx (resL T L N lt l h).1) h) r := by
    have h5 := MM.swap_is (l := m1) (nextI T L (idx (resL T L N lt l h).1) h) r
    rwa [show getI m1 (nextI T L (idx (resL T L N lt l h).1) h) = (resL T L N lt l h).2 from hw1] at h5
  rw [hsw, liftT_3 (by rw [Int.toNat_natCast, hss]; exact hw1)]
  rfl
/-- One level, where it does not: all levels are sought. -/
theorem level_twice (b : Base T N L l r dl sq tall lt) {h : Nat} (hp : 1 ≤ h) (hh : h < L) {m ps ss : List Int} {wy : Int} (hu : Up T N L l r h m) (hk : Knows T N L lt l h ps ss) (hw : ¬ wayI T L m (resL T L N lt l h).1 h = (resL T L N lt l h).2) :
    ∃ k m' wy' ps' ss', k ≤ 1547 ∧ steps (liftA T L r) (liftT L dl sq tall) k m ⟨1, h, wy, none, ps, ss⟩ = some (m', reach tall h wy' ps' ss') ∧ Up T N L l r h m' ∧ Knows T N L lt l h ps' ss' ∧ ∀ g : Nat, h ≤ g → g < L → wayI T L m' (resL T L N lt l g).1 g = (resL T L N lt l g).2 := by
  obtain ⟨k, m1, wy', k1, k2, k3, k4, k5⟩ := lead_run b hp hh (wy := wy) hu hk
  obtain ⟨-, -, s3, s4⟩ := b.res hp hh
  obtain ⟨hsp, hss⟩ := hk.2.2 h (Nat.le_refl _) hh
  have hw1 : ¬ wayI T L m1 (resL T L N lt l h).1 h = (resL T L N lt l h).2 := fun e => hw ((k5 _ h s3 hh s4).symm.trans e)
  obtain ⟨j, m2, lv', pr', cu', nx', q1, q2, q3, q4, q5, q6, q7, q8⟩ := all_run (Q := 193) (Nat.le_refl _) b.hT b.hN b.hL (dl := dl) (sq := sq) (lt := lt) k3.good (fun c x y => by rw [k3.key c x y]; exact b.lt c x y) L m1 0 0 0 [] [] (Nat.le_refl _) ⟨k3.len, k3.fit, fun _ _ _ _ => rfl, fun _ _ _ => rfl, fun _ _ => rfl⟩ (fun _ _ => .inl rfl)
  rw [List.nil_append, List.nil_append] at q2
  change steps _ _ j m1 (anew L 0 0) = _ at q2
  have hu2 := k3.sought b.hN b.r2 q3 q4 q5 q7 q8 (by omega)
  have hres : ∀ g : Nat, h ≤ g → g < L → resL T L N lt m1 g = resL T L N lt l g := fun g a c => (k3.res b.hN (lt := lt) a c).2
  have hbig : 193 * L ≤ 1544 := by have := b.hL; omega
  refine ⟨k + (1 + (j + 0)), m2, wy', (List.range L).map fun g => (resL T L N lt m1 g).1, (List.range L).map fun g => (resL T L N lt m1 g).2, by rw [Nat.mul_comm] at q1; omega, steps_then k _ _ m1 _ _ _ k2 (steps_then 1 (j + 0) _ m1 _ ⟨3, h, wy', some (anew L 0 0), ps, ss⟩ _ ?_ ?_), hu2, ⟨by simp, by simp, fun g a c => ?_⟩, fun g a c => ?_⟩
  · rw [steps_more (k := 0) liftA_3, nextD_3, foundD_yes (by simp)]
    simp only
    rw [Int.toNat_natCast, hsp, hss]
    change steps _ _ 0 (swapI m1 (nextI T L (idx (resL T L N lt l h).1) h) (resL T L N lt l h).2 r) (liftT L dl sq tall ⟨3, h, wy', none, ps, ss⟩ (wayI T L m1 (resL T L N lt l h).1 h)) = _
    rw [MM.swap_no hw1, liftT_3n (by rw [Int.toNat_natCast, hss]; exact hw1)]
    rfl
  · refine (steps_lead (lift_leads (r := r) (tall := tall) (lv := h) (wy := wy') (ps := ps) (ss := ss)) j 0 m1 m2 (anew L 0 0) _ (1, nextI T L (idx 0) (L - 1), 0, 0, 0) ?_ q2 seekA_0).trans ?_
    · unfold anew
      rw [desc_on (by omega), seekA_1]
    · show some (m2, reach tall h wy' _ _) = _
      simp [← List.map_reverse]
  · rw [map_getD c, map_getD c, hres g a c]
    exact ⟨rfl, rfl⟩
  · have h5 := ((q5 g c).finds b.hN).1
    rwa [hres g a c] at h5
theorem Knows.up {h h' : Nat} {ps ss : List Int} (hk : Knows T N L lt l h ps ss) (a : h ≤ h') : Knows T N L lt l h' ps ss := ⟨hk.1, hk.2.1, fun g c d => hk.2.2 g (by omega) d⟩
theorem Knows.begins {h : Nat} {ps ss : List Int} {wy : Int} (hk : Knows T N L lt l h ps ss) (a : (h : Int) < tall) (c : h < L) : reach tall (h : Int) wy ps ss = ⟨1, h, wy, none, ps, ss⟩ := reach_on (by rw [hk.1, hk.2.1]; omega)
theorem Knows.ends {h : Nat} {ps ss : List Int} {wy : Int} (hk : Knows T N L lt l h ps ss) (a : tall ≤ (h : Int)) : reach tall (h : Int) wy ps ss = ⟨0, h, wy, none, ps, ss⟩ := reach_end (by omega)
theorem clean_run (b : Base T N L l r dl sq tall lt) : ∀ (n h : Nat) (m ps ss : List Int) (wy : Int), ((h + n : Nat) : Int) = tall → 1 ≤ h → Up T N L l r h m → Knows T N L lt l h ps ss → (∀ g : Nat, h ≤ g → g < L → wayI T L m (resL T L N lt l g).1 g = (resL T L N lt l g).2) →
    ∃ k m' s, k ≤ 3 * n ∧ steps (liftA T L r) (liftT L dl sq tall) k m (reach tall h wy ps ss) = some (m', s) ∧ s.un = none ∧ s.st = 0 ∧ Up T N L l r (h + n) m'
  | 0, h, m, ps, ss, wy, hn, _, hu, hk, _ => ⟨0, m, _, Nat.le_refl _, rfl, by rw [hk.ends (by omega)], by rw [hk.ends (by omega)], hu⟩
  | n + 1, h, m, ps, ss, wy, hn, hp, hu, hk, hw => by
    have hh : h < L := by have := b.tL; omega
    obtain ⟨k, m1, wy', k1, k2, k3, k4⟩ := level_once b hp hh (wy := wy) hu hk (hw h (Nat.le_refl _) hh)
    obtain ⟨j, m2, s, j1, j2, j3, j4, j5⟩ := clean_run b n (h + 1) m1 ps ss wy' (by omega) (by omega) k3 (hk.up (Nat.le_succ _)) fun g a c => by
      obtain ⟨-, -, s3, s4⟩ := b.res (show 1 ≤ g by omega) c
      rw [k4 _ g s3 (by omega) c s4]
      exact hw g (by omega) c
    refine ⟨k + j, m2, s, by omega, ?_, j3, j4, by rw [show h + (n + 1) = h + 1 + n by omega]; exact j5⟩
    rw [hk.begins (by omega) hh]
    exact steps_then k j _ _ _ _ _ k2 j2
theorem lift_run (b : Base T N L l r dl sq tall lt) : ∀ (n h : Nat) (m ps ss : List Int) (wy : Int), ((h + n : Nat) : Int) = tall → 1 ≤ h → Up T N L l r h m → Knows T N L lt l h ps ss →
    ∃ k m' s, k ≤ 1547 + 3 * n ∧ steps (liftA T L r) (liftT L dl sq tall) k m (reach tall h wy ps ss) = some (m', s) ∧ s.un = none ∧ s.st = 0 ∧ Up T N L l r (h + n) m'
  | 0, h, m, ps, ss, wy, hn, _, hu, hk => ⟨0, m, _, Nat.zero_le _, rfl, by rw [hk.ends (by omega)], by rw [hk.ends (by omega)], hu⟩
  | n + 1, h, m, ps, ss, wy, hn, hp, hu, hk => by
    have hh : h < L := by have := b.tL; omega
    by_cases hw : wayI T L m (resL T L N lt l h).1 h = (resL T L N lt l h).2
    · obtain ⟨k, m1, wy', k1, k2, k3, -⟩ := level_once b hp hh (wy := wy) hu hk hw
      obtain ⟨j, m2, s, j1, j2, j3, j4, j5⟩ := lift_run b n (h + 1) m1 ps ss wy' (by omega) (by omega) k3 (hk.up (Nat.le_succ _))
      refine ⟨k + j, m2, s, by omega, ?_, j3, j4, by rw [show h + (n + 1) = h + 1 + n by omega]; exact j5⟩
      rw [hk.begins (by omega) hh]
      exact steps_then k j _ _ _ _ _ k2 j2
    · obtain ⟨k, m1, wy', ps', ss', k1, k2, k3, k4, k5⟩ := level_twice b hp hh (wy := wy) hu hk hw
      obtain ⟨j, m2, s, j1, j2, j3, j4, j5⟩ := clean_run b (n + 1) h m1 ps' ss' wy' hn hp k3 k4 k5
      refine ⟨k + j, m2, s, by omega, ?_, j3, j4, j5⟩
      rw [hk.begins (by omega) hh]
      exact steps_then k j _ _ _ _ _ k2 j2
end
end Go.Proofs.YtlagghghbpbcbaaGreatDoor.LfM

/- A lifter done alone, as in LiftAloneMath, where of the timer's own ways on just those below its height are without a mark. Made of that text by tools/rise_gen.py. No program is named. -/
namespace Go.Proofs.YtlagghghbpbcbaaGreatDoor.RiM
set_option maxRecDepth 20000
open DM PM CM BM OM Runs
open KM hiding reach
open LiM (seek_isSome seekT_st map_getD res_word)
open LfM (chain_off good_chain good_kept good_low good_of rises_ne reach keep goOn liftA liftT liftA_s liftA_0 liftA_1 liftA_2 liftA_3 liftT_s liftT_0 liftT_1 liftT_2 liftT_3 liftT_3n reach_on reach_end keep_done keep_more)
open Go.RowKit (wrap64)
set_option linter.unusedVariables false
set_option linter.unusedSimpArgs false

/-! Amid the rise. -/
/-- A timer is in the chains below a level, and in none from there on; all else is as it was. -/
structure Up (T N L : Nat) (tl : Int) (l : List Int) (r : Int) (h : Nat) (m : List Int) : Prop where
  len : m.length = wordsN T N L
  fit : BM.Fits m
  key : ∀ x : Int, 1 ≤ idx x → idx x ≤ (N : Int) → keyI T L m x = keyI T L l x
  low : ∀ g : Nat, g < h → g < L → r ∈ keptL T L N m g ∧ ∀ x ∈ keptL T L N l g, x ∈ keptL T L N m g
  high : ∀ g : Nat, h ≤ g → g < L → ∃ cl, Chain T L N m g cl ∧ cl.Sublist (chainI T L N l g).1 ∧ cl.filter (freeB T L m g) = keptL T L N l g
  good : GoodW T L N m
  own : ∀ g : Nat, h ≤ g → (g : Int) < tl → g < L → wayI T L m r g % 2 = 0
  kept : keptL T L N m (0 : Nat) = keptL T L N l (0 : Nat)
  oth : ∀ i : Int, (∀ (x : Int) (g : Nat), idx x ≤ (N : Int) → g < L → i ≠ nextI T L (idx x) g) → getI m i = getI l i
  sub : ∀ g : Nat, g < L → ∀ c ∈ (chainI T L N m g).1, c ∈ (chainI T L N l g).1 ∨ (c = r ∧ g < h)
  only : ∀ g : Nat, g < L → ∀ c ∈ keptL T L N m g, c ∈ keptL T L N l g ∨ (c = r ∧ g < h)
section
variable {T N L : Nat} {tl : Int} {l m m' : List Int} {r : Int} {h : Nat}
theorem Up.res (hN : N ≤ 64) (hu : Up T N L tl l r h m) {lt : Int → Bool} {g : Nat} (a : h ≤ g) (b : g < L) : keptL T L N m g = keptL T L N l g ∧ resL T L N lt m g = resL T L N lt l g := by
  obtain ⟨cl, h1, -, h3⟩ := hu.high g a b
  have h4 := (kept_of hN h1).trans h3
  exact ⟨h4, by unfold resL; rw [h4]⟩
/-- What is sought keeps it so. -/
theorem Up.sought (hN : N ≤ 64) (hu : Up T N L tl l r h m) {lt : Int → Bool} (h2 : idx r ≤ (N : Int)) (hl : m'.length = wordsN T N L) (hf : BM.Fits m') (hs : ∀ g : Nat, g < L → Sought T N L lt m m' g) (hk : ∀ x : Int, 1 ≤ idx x → idx x ≤ (N : Int) → keyI T L m' x = keyI T L m x) (ho : ∀ i : Int, (∀ (x : Int) (g : Nat), idx x ≤ (N : Int) → g < L → i ≠ nextI T L (idx x) g) → getI m' i = getI m i) (h1 : 1 ≤ L) : Up T N L tl l r h m' := by
  have hkp : ∀ g : Nat, g < L → keptL T L N m' g = keptL T L N m g := fun g a => ((hs g a).finds hN).2
  refine ⟨hl, hf, fun x a b => (hk x a b).trans (hu.key x a b), fun g a b => ?_, fun g a b => ?_, good_of hN (fun g a => ?_) (fun g a x hx => ?_), fun g a c b => ?_, (hkp 0 h1).trans hu.kept, fun i hi => (ho i hi).trans (hu.oth i hi), fun g a c hc => ?_, fun g a c hc => ?_⟩
  · rw [hkp g b]
    exact hu.low g a b
  · obtain ⟨cl, c1, c2, c3, -⟩ := hs g b
    obtain ⟨cm, d1, d2, d3⟩ := hu.high g a b
    rw [chain_is hN d1] at c2
    exact ⟨cl, c1, c2.trans d2, by rw [c3, (hu.res hN (lt := lt) a b).1]⟩
  · obtain ⟨cl, c1, -⟩ := hs g a
    exact ⟨cl, c1⟩
  · rw [hkp (g + 1) a] at hx
    rw [hkp g (by omega)]
    exact good_kept hu.good a hx
  · obtain ⟨cl, -, -, -, -, c5, -⟩ := hs g b
    rw [c5 r h2]
    exact hu.own g a c b
  · obtain ⟨cl, c1, c2, -⟩ := hs g a
    rw [chain_is hN c1] at hc
    exact hu.sub g a c (c2.subset hc)
  · rw [hkp g a] at hc
    exact hu.only g a c hc
/-- Its own way on is turned, where it is in no chain. -/
theorem Up.led (hT : T ≤ 8) (hN : N ≤ 64) (hL : L ≤ 8) (hu : Up T N L tl l r h m) (h1 : 1 ≤ idx r) (h2 : idx r ≤ (N : Int)) (hap : ∀ g : Nat, h ≤ g → g < L → ∀ c ∈ (chainI T L N l g).1, idx c ≠ idx r) (hh : h < L) (hp : 1 ≤ h) {v : Int} (hv : 0 ≤ v ∧ v < 18446744073709551616) (he : v % 2 = 0) : Up T N L tl l r h (setI m (nextI T L (idx r) h) v) := by
  have hset := fun {x : Int} {g : Nat} (a : idx x ≤ (N : Int)) (b : g < L) => set_way (v := v) hT hN hL hu.len h2 a hh b
  have hkey := fun {x : Int} (a : 1 ≤ idx x) (b : idx x ≤ (N : Int)) => set_key (m := m) (v := v) hT hN hL h2 a b hh
  have hlen := setI_length m (nextI T L (idx r) h) v
  have hfit := fits_set hu.fit (nextI T L (idx r) h) hv
  have hoth : ∀ i : Int, (∀ (x : Int) (g : Nat), idx x ≤ (N : Int) → g < L → i ≠ nextI T L (idx x) g) → getI (setI m (nextI T L (idx r) h) v) i = getI m i := fun i hi => get_other (Ne.symm (hi r h h2 hh))
  generalize setI m (nextI T L (idx r) h) v = m' at hset hkey hlen hfit hoth ⊢
  -- each chain is as it was
  have hch : ∀ g : Nat, g < L → ∀ cl, Chain T L N m g cl → (g = h → ∀ c ∈ cl, idx c ≠ idx r) → Chain T L N m' g cl ∧ cl.filter (freeB T L m' g) = cl.filter (freeB T L m g) := fun g a cl hc hn => by
    have hin := path_in _ _ hc.2.1
    refine chain_off ?_ (fun c k => ?_) (fun c k => hkey (hin c k).1 (hin c k).2.1) hc
    · rw [hset (by rw [idx_zero]; omega) a, if_neg fun q => by rw [idx_zero] at q; omega]
    · rw [hset (hin c k).2.1 a, if_neg fun q => hn q.2 c k q.1]
  have hnh : ∀ cl : List Int, cl.Sublist (chainI T L N l h).1 → ∀ c ∈ cl, idx c ≠ idx r := fun cl hs c k => hap h (Nat.le_refl _) hh c (hs.subset k)
  have hone : ∀ g : Nat, g < L → ∃ cl, Chain T L N m g cl ∧ (g = h → ∀ c ∈ cl, idx c ≠ idx r) := fun g a => by
    by_cases e : g = h
    · subst e
      obtain ⟨cl, c1, c2, -⟩ := hu.high g (Nat.le_refl _) a
      exact ⟨cl, c1, fun _ => hnh cl c2⟩
    · obtain ⟨cl, -, c1, -⟩ := good_chain hu.good a
      exact ⟨cl, c1, fun q => absurd q e⟩
  have hkp : ∀ g : Nat, g < L → keptL T L N m' g = keptL T L N m g := fun g a => by
    obtain ⟨cl, c1, c2⟩ := hone g a
    obtain ⟨d1, d2⟩ := hch g a cl c1 c2
    rw [kept_of hN d1, kept_of hN c1, d2]
  refine ⟨hlen.trans hu.len, hfit, fun x a b => (hkey a b).trans (hu.key x a b), fun g a b => ?_, fun g a b => ?_, good_of hN (fun g a => ?_) (fun g a x hx => ?_), fun g a c b => ?_, (hkp 0 (by omega)).trans hu.kept, fun i hi => (hoth i hi).trans (hu.oth i hi), fun g a c hc => ?_, fun g a c hc => ?_⟩
  · rw [hkp g b]
    exact hu.low g a b
  · obtain ⟨cl, c1, c2, c3⟩ := hu.high g a b
    obtain ⟨d1, d2⟩ := hch g b cl c1 fun e => by subst e; exact hnh cl c2
    exact ⟨cl, d1, c2, d2.trans c3⟩
  · obtain ⟨cl, c1, c2⟩ := hone g a
    exact ⟨cl, (hch g a cl c1 c2).1⟩
  · rw [hkp (g + 1) a] at hx
    rw [hkp g (by omega)]
    exact good_kept hu.good a hx
  · rw [hset h2 b]
    split
    · exact he
    · exact hu.own g a c b
  · obtain ⟨cl, c1, c2⟩ := hone g a
    rw [chain_is hN (hch g a cl c1 c2).1] at hc
    exact hu.sub g a c (by rw [chain_is hN c1]; exact hc)
  · rw [hkp g a] at hc
    exact hu.only g a c hc
/-- It hangs at one more level. -/
theorem Up.hung (hT : T ≤ 8) (hN : N ≤ 64) (hL : L ≤ 8) (hu : Up T N L tl l r h m) (hg : GoodW T L N l) {K : Key} {lt : Int → Bool} (h1 : 1 ≤ idx r) (h2 : idx r ≤ (N : Int)) (he : r % 2 = 0) (hr : 0 ≤ r ∧ r < 18446744073709551616) (hk : keyI T L l r = K) (hr0 : r ∈ keptL T L N l (0 : Nat)) (hlt : ∀ c : Int, 1 ≤ idx c → idx c ≤ (N : Int) → ltK (keyI T L l c) K = lt c)
    (hap : ∀ g : Nat, h ≤ g → g < L → ∀ c ∈ (chainI T L N l g).1, idx c ≠ idx r) (hh : h < L) (hp : 1 ≤ h) (hw : wayI T L m r h = (resL T L N lt l h).2) (hv : wayI T L m (resL T L N lt l h).1 h = (resL T L N lt l h).2) :
    Up T N L tl l r (h + 1) (setI m (nextI T L (idx (resL T L N lt l h).1) h) r) ∧ ∀ g : Nat, h < g → g < L → ∀ x : Int, idx x ≤ (N : Int) → wayI T L (setI m (nextI T L (idx (resL T L N lt l h).1) h) r) x g = wayI T L m x g := by
  obtain ⟨cl, c1, c2, c3⟩ := hu.high h (Nat.le_refl _) hh
  obtain ⟨e1, e2⟩ := hu.res hN (lt := lt) (Nat.le_refl h) hh
  have hltm : ∀ c : Int, 1 ≤ idx c → idx c ≤ (N : Int) → ltK (keyI T L m c) K = lt c := fun c a b => by rw [hu.key c a b]; exact hlt c a b
  have hs : Sought T N L lt m m h := ⟨cl, c1, by rw [chain_is hN c1]; exact List.Sublist.refl _, by rw [kept_of hN c1], by rw [e2]; exact hv, fun _ _ => rfl, fun _ _ _ => rfl, fun _ _ _ _ => rfl⟩
  obtain ⟨A, B, d1, d2, d3, d4, d5, d6, d7, -⟩ := hs.split hltm
  rw [chain_is hN c1] at d2
  rw [e2] at d6 d7
  rw [e1] at d3
  have hsub : ∀ c ∈ A ++ B, idx c ≠ idx r := fun c hc => hap h (Nat.le_refl _) hh c (c2.subset (d2.subset hc))
  have hin := path_in _ _ d1.2.1
  have hrk : keyI T L m r = K := (hu.key r h1 h2).trans hk
  have hS := find_next lt (keptL T L N l h) 0
  change (resL T L N lt l h).2 = 0 ∨ ((resL T L N lt l h).2 ∈ _ ∧ lt (resL T L N lt l h).2 = false) at hS
  generalize hPe : (resL T L N lt l h).1 = P at *
  generalize hSe : (resL T L N lt l h).2 = S at *
  have hP : idx P ≤ (N : Int) ∧ idx P ≠ idx r := by
    rw [← d6]
    rcases last_cases A with rfl | ⟨A', p, rfl⟩
    · exact ⟨by show idx 0 ≤ _; rw [idx_zero]; omega, by show idx 0 ≠ _; rw [idx_zero]; omega⟩
    · rw [last_snoc]
      exact ⟨(hin p (by simp)).2.1, hsub p (by simp)⟩
  have hBk : ∀ b ∈ B, ltK (keyI T L m r) (keyI T L m b) = true := by
    cases B with
    | nil => intro b hb; cases hb
    | cons b0 B =>
      have hb0 : b0 = S := d7
      have hi0 := hin b0 (by simp)
      rw [hrk]
      have hSm : S ∈ keptL T L N l h ∧ lt S = false := hS.resolve_left fun e => by rw [hb0, e, idx_zero] at hi0; omega
      have hlow := good_low hg hh hSm.1
      obtain ⟨c0, -, f1, f2, -⟩ := good_chain hg (show 0 < L by omega)
      have hris : Rises (keyI T L l) (keptL T L N l (0 : Nat)) := by rw [f2]; exact List.Pairwise.sublist List.filter_sublist f1.2.2
      have hne := rises_ne hris hlow hr0 (fun e => hsub b0 (by simp) (by rw [hb0, e]))
      rw [hk] at hne
      have hfirst : ltK K (keyI T L m b0) = true := by
        rw [hu.key b0 hi0.1 hi0.2.1, hb0]
        have h6 := hSm.2
        rw [← hlt S (by rw [← hb0]; exact hi0.1) (by rw [← hb0]; exact hi0.2.1)] at h6
        rcases cmpK_cases (keyI T L l S) K with ⟨h7, -⟩ | ⟨-, h7, -⟩ | ⟨h7, -⟩
        · rw [h6] at h7; cases h7
        · exact h7
        · exact absurd h7 hne
      have hr3 := d1.2.2
      rw [Rises, List.pairwise_append, List.pairwise_cons] at hr3
      intro b hb
      rcases List.mem_cons.1 hb with rfl | hb
      · exact hfirst
      · exact ltK_trans _ _ _ hfirst (hr3.2.1.1 b hb)
  obtain ⟨g1, g2⟩ := hang (r := r) hT hN hL hh hu.len d1 h1 h2 he hsub (by rw [d7]; exact hw) (by rw [d6, d7]; exact hv) (fun a ha => by
    have h5 := hin a (by simp [ha])
    rw [hrk, hltm a h5.1 h5.2.1]
    exact d4 a ha) hBk
  rw [d6] at g1 g2
  have hset := fun {x : Int} {g : Nat} (a : idx x ≤ (N : Int)) (b : g < L) => set_way (v := r) hT hN hL hu.len hP.1 a hh b
  have hkey := fun {x : Int} (a : 1 ≤ idx x) (b : idx x ≤ (N : Int)) => set_key (m := m) (v := r) hT hN hL hP.1 a b hh
  have hlen := setI_length m (nextI T L (idx P) h) r
  have hfit := fits_set hu.fit (nextI T L (idx P) h) hr
  have hoth : ∀ i : Int, (∀ (x : Int) (g : Nat), idx x ≤ (N : Int) → g < L → i ≠ nextI T L (idx x) g) → getI (setI m (nextI T L (idx P) h) r) i = getI m i := fun i hi => get_other (Ne.symm (hi P h hP.1 hh))
  generalize setI m (nextI T L (idx P) h) r = m' at hset hkey hlen hfit hoth g1 g2 ⊢
  have hoff : ∀ (x : Int) (g : Nat), idx x ≤ (N : Int) → g < L → g ≠ h → wayI T L m' x g = wayI T L m x g := fun x g a b c => by rw [hset a b, if_neg fun q => c q.2]
  have hch : ∀ g : Nat, g < L → g ≠ h → ∀ cl, Chain T L N m g cl → Chain T L N m' g cl ∧ cl.filter (freeB T L m' g) = cl.filter (freeB T L m g) := fun g a e cl hc => by
    have hin := path_in _ _ hc.2.1
    exact chain_off (hoff 0 g (by rw [idx_zero]; omega) a e) (fun c k => hoff c g (hin c k).2.1 a e) (fun c k => hkey (hin c k).1 (hin c k).2.1) hc
  have hkp : ∀ g : Nat, g < L → g ≠ h → keptL T L N m' g = keptL T L N m g := fun g a e => by
    obtain ⟨cl, -, c1, -⟩ := good_chain hu.good a
    obtain ⟨d1, d2⟩ := hch g a e cl c1
    rw [kept_of hN d1, kept_of hN c1, d2]
  have hkh : keptL T L N m' h = A.filter (freeB T L m h) ++ r :: B.filter (freeB T L m h) := (kept_of hN g1).trans g2
  have hkm : keptL T L N m h = A.filter (freeB T L m h) ++ B.filter (freeB T L m h) := by rw [e1, ← d3, List.filter_append]
  have hmore : ∀ x ∈ keptL T L N m h, x ∈ keptL T L N m' h := fun x hx => by
    rw [hkm, List.mem_append] at hx
    rw [hkh, List.mem_append, List.mem_cons]
    exact hx.imp id .inr
  refine ⟨⟨hlen.trans hu.len, hfit, fun x a b => (hkey a b).trans (hu.key x a b), fun g a b => ?_, fun g a b => ?_, good_of hN (fun g a => ?_) (fun g a x hx => ?_), fun g a c b => ?_, (hkp 0 (by omega) (by omega)).trans hu.kept, fun i hi => (hoth i hi).trans (hu.oth i hi), fun g a c hc => ?_, fun g a c hc => ?_⟩, fun g a b x c => hoff x g c b (by omega)⟩
  · by_cases e : g = h
    · subst e
      exact ⟨by rw [hkh]; simp, fun x hx => hmore x (by rw [e1]; exact hx)⟩
    · rw [hkp g b e]
      exact hu.low g (by omega) b
  · obtain ⟨cl, c1, c2, c3⟩ := hu.high g (by omega) b
    obtain ⟨d1, d2⟩ := hch g b (by omega) cl c1
    exact ⟨cl, d1, c2, d2.trans c3⟩
  · by_cases e : g = h
    · subst e
      exact ⟨_, g1⟩
    · obtain ⟨cl, -, c1, -⟩ := good_chain hu.good a
      exact ⟨cl, (hch g a e cl c1).1⟩
  · by_cases e : g + 1 = h
    · subst e
      rw [hkp g (by omega) (by omega)]
      rw [hkh, List.mem_append, List.mem_cons] at hx
      by_cases q : x = r
      · subst q
        exact (hu.low g (by omega) (by omega)).1
      · refine good_kept hu.good a ?_
        rw [hkm, List.mem_append]
        exact hx.imp id fun z => z.resolve_left q
    · rw [hkp (g + 1) a e] at hx
      have h5 := good_kept hu.good a hx
      by_cases q : g = h
      · subst q
        exact hmore x h5
      · rw [hkp g (by omega) q]
        exact h5
  · rw [hoff r g h2 b (by omega)]
    exact hu.own g (by omega) c b
  · by_cases e : g = h
    · subst e
      rw [chain_is hN g1] at hc
      rcases List.mem_append.1 hc with q | q
      · exact .inl (c2.subset (d2.subset (List.mem_append_left _ q)))
      · rcases List.mem_cons.1 q with q | q
        · exact .inr ⟨q, by omega⟩
        · exact .inl (c2.subset (d2.subset (List.mem_append_right _ q)))
    · obtain ⟨cl, q1, q2, -⟩ := good_chain hu.good a
      rw [chain_is hN (hch g a e cl q2).1] at hc
      exact (hu.sub g a c (by rw [q1]; exact hc)).imp id fun q => ⟨q.1, by omega⟩
  · by_cases e : g = h
    · subst e
      rw [hkh, List.mem_append, List.mem_cons] at hc
      by_cases q : c = r
      · exact .inr ⟨q, by omega⟩
      · refine .inl ?_
        rw [← e1, hkm, List.mem_append]
        exact hc.imp id fun z => z.resolve_left q
    · rw [hkp g a e] at hc
      exact (hu.only g a c hc).imp id fun q => ⟨q.1, by omega⟩
end

/-! The steps. -/
theorem lift_leads {T L r dl sq tall lv wy : Int} {ps ss : List Int} : Leads (liftA T L r) (liftT L dl sq tall) (seekA T L) (seekT L dl sq) (fun t => ⟨3, lv, wy, some t, ps, ss⟩) (fun t => reach tall lv wy t.ps.reverse t.ss.reverse) := by
  intro t d hd
  refine ⟨by rw [liftA_s]; exact hd, fun f => ?_⟩
  rw [liftT_s]
  rcases seekT_st (dl := dl) (sq := sq) (f := f) (show (seekA T L t).isSome = true by rw [hd]; rfl) with h | h
  · rw [keep_done h, seek_isSome h]
    rfl
  · rw [if_pos h, keep_more]
    intro h0
    rw [seek_isSome h0] at h
    cases h
section
variable {T N L : Nat} {l : List Int} {r dl sq tall : Int} {lt : Int → Bool}
/-- Whoever found what there is, for the levels from h on. -/
def Knows (T N L : Nat) (lt : Int → Bool) (l : List Int) (h : Nat) (ps ss : List Int) : Prop := ps.length = L ∧ ss.length = L ∧ ∀ g : Nat, h ≤ g → g < L → ps.getD g 0 = (resL T L N lt l g).1 ∧ ss.getD g 0 = (resL T L N lt l g).2
/-- All that a rise leans on. -/
structure Base (T N L : Nat) (l : List Int) (r dl sq tall : Int) (lt : Int → Bool) : Prop where
  hT : T ≤ 8
  hN : N ≤ 64
  hL : L ≤ 8
  good : GoodW T L N l
  word : ∀ g : Nat, ∀ c ∈ keptL T L N l g, Word c
  r0 : 0 ≤ r ∧ r < 18446744073709551616
  r1 : 1 ≤ idx r
  r2 : idx r ≤ (N : Int)
  re : r % 2 = 0
  key : keyI T L l r = (dl, sq)
  low : r ∈ keptL T L N l (0 : Nat)
  lt : ∀ c : Int, 1 ≤ idx c → idx c ≤ (N : Int) → ltK (keyI T L l c) (dl, sq) = lt c
  apart : ∀ g : Nat, 1 ≤ g → g < L → ∀ c ∈ (chainI T L N l g).1, idx c ≠ idx r
  t1 : 1 ≤ tall
  tL : tall ≤ (L : Int)
theorem Base.res (b : Base T N L l r dl sq tall lt) {h : Nat} (hp : 1 ≤ h) (hh : h < L) : Word (resL T L N lt l h).2 ∧ (resL T L N lt l h).2 % 2 = 0 ∧ idx (resL T L N lt l h).1 ≤ (N : Int) ∧ idx (resL T L N lt l h).1 ≠ idx r := by
  obtain ⟨cl, e, -, hk, hin⟩ := good_chain b.good hh
  have hw := find_where lt (keptL T L N l h) 0
  have hn := find_next lt (keptL T L N l h) 0
  change (resL T L N lt l h).1 = 0 ∨ ((resL T L N lt l h).1 ∈ _ ∧ lt (resL T L N lt l h).1 = true) at hw
  change (resL T L N lt l h).2 = 0 ∨ ((resL T L N lt l h).2 ∈ _ ∧ lt (resL T L N lt l h).2 = false) at hn
  have hap := b.apart h hp hh
  have r1 := b.r1
  rw [e] at hap
  refine ⟨(res_word (b.word h)).2, ?_, ?_⟩
  · rcases hn with q | ⟨q, -⟩
    · rw [q]; rfl
    · rw [hk] at q
      exact (hin _ (List.mem_filter.1 q).1).2.2
  · rcases hw with q | ⟨q, -⟩
    · rw [q, idx_zero]; omega
    · rw [hk] at q
      have q := (List.mem_filter.1 q).1
      exact ⟨(hin _ q).2.1, hap _ q⟩
/-- The first two steps: the timer leads to what is to stand behind it. -/
theorem lead_run (b : Base T N L l r dl sq tall lt) {h : Nat} (hp : 1 ≤ h) (hh : h < L) (ht : (h : Int) < tall) {m ps ss : List Int} {wy : Int} (hu : Up T N L tall l r h m) (hk : Knows T N L lt l h ps ss) :
    ∃ k m' wy', k ≤ 2 ∧ steps (liftA T L r) (liftT L dl sq tall) k m ⟨1, h, wy, none, ps, ss⟩ = some (m', ⟨3, h, wy', none, ps, ss⟩) ∧ Up T N L tall l r h m' ∧ wayI T L m' r h = (resL T L N lt l h).2 ∧ ∀ (x : Int) (g : Nat), idx x ≤ (N : Int) → g < L → idx x ≠ idx r → wayI T L m' x g = wayI T L m x g := by
  obtain ⟨s1, s2, -, -⟩ := b.res hp hh
  have hs := (hk.2.2 h (Nat.le_refl _) hh).2
  have hev := hu.own h (Nat.le_refl _) ht hh
  have hod : ¬ wayI T L m r h % 2 = 1 := by omega
  have h1 : steps (liftA T L r) (liftT L dl sq tall) 1 m ⟨1, h, wy, none, ps, ss⟩ = some (m, ⟨if wayI T L m r h = (resL T L N lt l h).2 then 3 else 2, h, wayI T L m r h, none, ps, ss⟩) := by
    rw [steps_more (k := 0) liftA_1, nextD_1, foundD_yes (by simp)]
    simp only
    change steps _ _ 0 m (liftT L dl sq tall ⟨1, h, wy, none, ps, ss⟩ (wayI T L m r h)) = _
    rw [liftT_1, if_neg hod, Int.toNat_natCast, hs]
    rfl
  by_cases e : wayI T L m r h = (resL T L N lt l h).2
  · rw [if_pos e] at h1
    exact ⟨1, m, _, by omega, h1, hu, e, fun _ _ _ _ _ => rfl⟩
  · rw [if_neg e] at h1
    refine ⟨1 + 1, setI m (nextI T L (idx r) h) (resL T L N lt l h).2, wayI T L m r h, by omega, steps_then 1 1 _ _ _ _ _ h1 ?_, hu.led b.hT b.hN b.hL b.r1 b.r2 (fun g a c => b.apart g (by omega) c) hh hp s1 s2, ?_, fun x g a c d => ?_⟩
    · rw [steps_more (k := 0) liftA_2, nextD_3, foundD_yes (by simp)]
      simp only
      rw [Int.toNat_natCast, hs]
      change steps _ _ 0 (swapI m (nextI T L (idx r) h) (getI m (nextI T L (idx r) h)) (resL T L N lt l h).2) (liftT L dl sq tall ⟨2, h, wayI T L m r h, none, ps, ss⟩ (wayI T L m r h)) = _
      rw [MM.swap_is, liftT_2, if_pos rfl]
      rfl
    · rw [set_way b.hT b.hN b.hL hu.len b.r2 b.r2 hh hh, if_pos ⟨rfl, rfl⟩]
    · rw [set_way b.hT b.hN b.hL hu.len b.r2 a hh c, if_neg fun q => d q.1]
/-- One level, where what was found stands side by side. -/
theorem level_once (b : Base T N L l r dl sq tall lt) {h : Nat} (hp : 1 ≤ h) (hh : h < L) (ht : (h : Int) < tall) {m ps ss : List Int} {wy : Int} (hu : Up T N L tall l r h m) (hk : Knows T N L lt l h ps ss) (hw : wayI T L m (resL T L N lt l h).1 h = (resL T L N lt l h).2) :
    ∃ k m' wy', k ≤ 3 ∧ steps (liftA T L r) (liftT L dl sq tall) k m ⟨1, h, wy, none, ps, ss⟩ = some (m', reach tall ((h + 1 : Nat) : Int) wy' ps ss) ∧ Up T N L tall l r (h + 1) m' ∧ ∀ (x : Int) (g : Nat), idx x ≤ (N : Int) → h < g → g < L → idx x ≠ idx r → wayI T L m' x g = wayI T L m x g := by
  obtain ⟨k, m1, wy', k1, k2, k3, k4, k5⟩ := lead_run b hp hh ht (wy := wy) hu hk
  obtain ⟨-, -, s3, s4⟩ := b.res hp hh
  obtain ⟨hsp, hss⟩ := hk.2.2 h (Nat.le_refl _) hh
  have hw1 : wayI T L m1 (resL T L N lt l h).1 h = (resL T L N lt l h).2 := (k5 _ h s3 hh s4).trans hw
  obtain ⟨u1, u2⟩ := k3.hung b.hT b.hN b.hL b.good b.r1 b.r2 b.re b.r0 b.key b.low b.lt (fun g a c => b.apart g (by omega) c) hh hp k4 hw1
  refine ⟨k + 1, _, wy', by omega, steps_then k 1 _ m1 _ _ _ k2 ?_, u1, fun x g a c d e => (u2 g c d x a).trans (k5 x g a d e)⟩
  rw [steps_more (k := 0) liftA_3, nextD_3, foundD_yes (by simp)]
  simp only
  rw [Int.toNat_natCast, hsp, hss]
  change steps _ _ 0 (swapI m1 (nextI T L (idx (resL T L N lt l h).1) h) (resL T L N lt l h).2 r) (liftT L dl sq tall ⟨3, h, wy', none, ps, ss⟩ (wayI T L m1 (resL T L N lt l h).1 h)) = _
  have hsw : swapI m1 (nextI T L (idx (resL T L N lt l h).1) h) (resL T L N lt l h).2 r = setI m1 (nextI T L (idx (resL T L N lt l h).1) h) r := by
    have h5 := MM.swap_is (l := m1) (nextI T L (idx (resL T L N lt l h).1) h) r
    rwa [show getI m1 (nextI T L (idx (resL T L N lt l h).1) h) = (resL T L N lt l h).2 from hw1] at h5
  rw [hsw, liftT_3 (by rw [Int.toNat_natCast, hss]; exact hw1)]
  rfl
/-- One level, where it does not: all levels are sought. -/
theorem level_twice (b : Base T N L l r dl sq tall lt) {h : Nat} (hp : 1 ≤ h) (hh : h < L) (ht : (h : Int) < tall) {m ps ss : List Int} {wy : Int} (hu : Up T N L tall l r h m) (hk : Knows T N L lt l h ps ss) (hw : ¬ wayI T L m (resL T L N lt l h).1 h = (resL T L N lt l h).2) :
    ∃ k m' wy' ps' ss', k ≤ 1547 ∧ steps (liftA T L r) (liftT L dl sq tall) k m ⟨1, h, wy, none, ps, ss⟩ = some (m', reach tall h wy' ps' ss') ∧ Up T N L tall l r h m' ∧ Knows T N L lt l h ps' ss' ∧ ∀ g : Nat, h ≤ g → g < L → wayI T L m' (resL T L N lt l g).1 g = (resL T L N lt l g).2 := by
  obtain ⟨k, m1, wy', k1, k2, k3, k4, k5⟩ := lead_run b hp hh ht (wy := wy) hu hk
  obtain ⟨-, -, s3, s4⟩ := b.res hp hh
  obtain ⟨hsp, hss⟩ := hk.2.2 h (Nat.le_refl _) hh
  have hw1 : ¬ wayI T L m1 (resL T L N lt l h).1 h = (resL T L N lt l h).2 := fun e => hw ((k5 _ h s3 hh s4).symm.trans e)
  obtain ⟨j, m2, lv', pr', cu', nx', q1, q2, q3, q4, q5, q6, q7, q8⟩ := all_run (Q := 193) (Nat.le_refl _) b.hT b.hN b.hL (dl := dl) (sq := sq) (lt := lt) k3.good (fun c x y => by rw [k3.key c x y]; exact b.lt c x y) L m1 0 0 0 [] [] (Nat.le_refl _) ⟨k3.len, k3.fit, fun _ _ _ _ => rfl, fun _ _ _ => rfl, fun _ _ => rfl⟩ (fun _ _ => .inl rfl)
  rw [List.nil_append, List.nil_append] at q2
  change steps _ _ j m1 (anew L 0 0) = _ at q2
  have hu2 := k3.sought b.hN b.r2 q3 q4 q5 q7 q8 (by omega)
  have hres : ∀ g : Nat, h ≤ g → g < L → resL T L N lt m1 g = resL T L N lt l g := fun g a c => (k3.res b.hN (lt := lt) a c).2
  have hbig : 193 * L ≤ 1544 := by have := b.hL; omega
  refine ⟨k + (1 + (j + 0)), m2, wy', (List.range L).map fun g => (resL T L N lt m1 g).1, (List.range L).map fun g => (resL T L N lt m1 g).2, by rw [Nat.mul_comm] at q1; omega, steps_then k _ _ m1 _ _ _ k2 (steps_then 1 (j + 0) _ m1 _ ⟨3, h, wy', some (anew L 0 0), ps, ss⟩ _ ?_ ?_), hu2, ⟨by simp, by simp, fun g a c => ?_⟩, fun g a c => ?_⟩
  · rw [steps_more (k := 0) liftA_3, nextD_3, foundD_yes (by simp)]
    simp only
    rw [Int.toNat_natCast, hsp, hss]
    change steps _ _ 0 (swapI m1 (nextI T L (idx (resL T L N lt l h).1) h) (resL T L N lt l h).2 r) (liftT L dl sq tall ⟨3, h, wy', none, ps, ss⟩ (wayI T L m1 (resL T L N lt l h).1 h)) = _
    rw [MM.swap_no hw1, liftT_3n (by rw [Int.toNat_natCast, hss]; exact hw1)]
    rfl
  · refine (steps_lead (lift_leads (r := r) (tall := tall) (lv := h) (wy := wy') (ps := ps) (ss := ss)) j 0 m1 m2 (anew L 0 0) _ (1, nextI T L (idx 0) (L - 1), 0, 0, 0) ?_ q2 seekA_0).trans ?_
    · unfold anew
      rw [desc_on (by omega), seekA_1]
    · show some (m2, reach tall h wy' _ _) = _
      simp [← List.map_reverse]
  · rw [map_getD c, map_getD c, hres g a c]
    exact ⟨rfl, rfl⟩
  · have h5 := ((q5 g c).finds b.hN).1
    rwa [hres g a c] at h5
theorem Knows.up {h h' : Nat} {ps ss : List Int} (hk : Knows T N L lt l h ps ss) (a : h ≤ h') : Knows T N L lt l h' ps ss := ⟨hk.1, hk.2.1, fun g c d => hk.2.2 g (by omega) d⟩
theorem Knows.begins {h : Nat} {ps ss : List Int} {wy : Int} (hk : Knows T N L lt l h ps ss) (a : (h : Int) < tall) (c : h < L) : reach tall (h : Int) wy ps ss = ⟨1, h, wy, none, ps, ss⟩ := reach_on (by rw [hk.1, hk.2.1]; omega)
theorem Knows.ends {h : Nat} {ps ss : List Int} {wy : Int} (hk : Knows T N L lt l h ps ss) (a : tall ≤ (h : Int)) : reach tall (h : Int) wy ps ss = ⟨0, h, wy, none, ps, ss⟩ := reach_end (by omega)
theorem clean_run (b : Base T N L l r dl sq tall lt) : ∀ (n h : Nat) (m ps ss : List Int) (wy : Int), ((h + n : Nat) : Int) = tall → 1 ≤ h → Up T N L tall l r h m → Knows T N L lt l h ps ss → (∀ g : Nat, h ≤ g → g < L → wayI T L m (resL T L N lt l g).1 g = (resL T L N lt l g).2) →
    ∃ k m' s, k ≤ 3 * n ∧ steps (liftA T L r) (liftT L dl sq tall) k m (reach tall h wy ps ss) = some (m', s) ∧ s.un = none ∧ s.st = 0 ∧ Up T N L tall l r (h + n) m'
  | 0, h, m, ps, ss, wy, hn, _, hu, hk, _ => ⟨0, m, _, Nat.le_refl _, rfl, by rw [hk.ends (by omega)], by rw [hk.ends (by omega)], hu⟩
  | n + 1, h, m, ps, ss, wy, hn, hp, hu, hk, hw => by
    have hh : h < L := by have := b.tL; omega
    obtain ⟨k, m1, wy', k1, k2, k3, k4⟩ := level_once b hp hh (by omega) (wy := wy) hu hk (hw h (Nat.le_refl _) hh)
    obtain ⟨j, m2, s, j1, j2, j3, j4, j5⟩ := clean_run b n (h + 1) m1 ps ss wy' (by omega) (by omega) k3 (hk.up (Nat.le_succ _)) fun g a c => by
      obtain ⟨-, -, s3, s4⟩ := b.res (show 1 ≤ g by omega) c
      rw [k4 _ g s3 (by omega) c s4]
      exact hw g (by omega) c
    refine ⟨k + j, m2, s, by omega, ?_, j3, j4, by rw [show h + (n + 1) = h + 1 + n by omega]; exact j5⟩
    rw [hk.begins (by omega) hh]
    exact steps_then k j _ _ _ _ _ k2 j2
theorem lift_run (b : Base T N L l r dl sq tall lt) : ∀ (n h : Nat) (m ps ss : List Int) (wy : Int), ((h + n : Nat) : Int) = tall → 1 ≤ h → Up T N L tall l r h m → Knows T N L lt l h ps ss →
    ∃ k m' s, k ≤ 1547 + 3 * n ∧ steps (liftA T L r) (liftT L dl sq tall) k m (reach tall h wy ps ss) = some (m', s) ∧ s.un = none ∧ s.st = 0 ∧ Up T N L tall l r (h + n) m'
  | 0, h, m, ps, ss, wy, hn, _, hu, hk => ⟨0, m, _, Nat.zero_le _, rfl, by rw [hk.ends (by omega)], by rw [hk.ends (by omega)], hu⟩
  | n + 1, h, m, ps, ss, wy, hn, hp, hu, hk => by
    have hh : h < L := by have := b.tL; omega
    by_cases hw : wayI T L m (resL T L N lt l h).1 h = (resL T L N lt l h).2
    · obtain ⟨k, m1, wy', k1, k2, k3, -⟩ := level_once b hp hh (by omega) (wy := wy) hu hk hw
      obtain ⟨j, m2, s, j1, j2, j3, j4, j5⟩ := lift_run b n (h + 1) m1 ps ss wy' (by omega) (by omega) k3 (hk.up (Nat.le_succ _))
      refine ⟨k + j, m2, s, by omega, ?_, j3, j4, by rw [show h + (n + 1) = h + 1 + n by omega]; exact j5⟩
      rw [hk.begins (by omega) hh]
      exact steps_then k j _ _ _ _ _ k2 j2
    · obtain ⟨k, m1, wy', ps', ss', k1, k2, k3, k4, k5⟩ := level_twice b hp hh (by omega) (wy := wy) hu hk hw
      obtain ⟨j, m2, s, j1, j2, j3, j4, j5⟩ := clean_run b (n + 1) h m1 ps' ss' wy' hn hp k3 k4 k5
      refine ⟨k + j, m2, s, by omega, ?_, j3, j4, j5⟩
      rw [hk.begins (by omega) hh]
      exact steps_then k j _ _ _ _ _ k2 j2
end
end Go.Proofs.YtlagghghbpbcbaaGreatDoor.RiM

/- Two settlers done alone, one behind the other, where all chains rise, whoever is in one without a mark is so in the one below, and the timer's ways on are marked, in plain lists: the timer is in no chain then. No program is named. -/
namespace Go.Proofs.YtlagghghbpbcbaaGreatDoor.StM
set_option maxRecDepth 20000
open DM PM CM BM OM KM Runs
open LiM (seek_isSome seekT_st at_in at_inj chains_on)
open Go.RowKit (wrap64)
set_option linter.unusedVariables false
set_option linter.unusedSimpArgs false

section
variable {T L r dl sq ep : Int} {wt : Bool}
end
section
variable {T N L : Nat} {l : List Int} {r v : Int}
end
end Go.Proofs.YtlagghghbpbcbaaGreatDoor.StM
