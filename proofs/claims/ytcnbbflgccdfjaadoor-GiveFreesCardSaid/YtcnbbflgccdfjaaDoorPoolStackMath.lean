/- The free slots as a stack, in plain lists: taken off, put back, told by Free. No program is named. -/
import Derived.Test.YtcnbbflgccdfjaaDoorPoolMath
import Derived.Test.YtcnbbflgccdfjaaDoorBlankMath
import Derived.Test.YtcnbbflgccdfjaaDoorDeedFits
namespace Go.Proofs.YtcnbbflgccdfjaaDoor.PoM
open DM PM CM BM Runs

theorem there_of_get {l : List Int} {i : Int} (h : getI l i ≠ 0) : there l i := by
  by_cases ht : there l i
  · exact ht
  · exact absurd (getI_out ht) h
theorem swap_is {l : List Int} (i b : Int) : swapI l i (getI l i) b = setI l i b := if_pos rfl

/-! Done alone. -/
/-- Taking one where there is none. -/
theorem pop_none {T L : Int} {l : List Int} {b : Int} (k : Nat) (h : getI l 3 % 4294967296 = 0) : alone (popA T L) popT (k + 1) l ⟨1, 0, b⟩ = (l, ⟨0, getI l 3, b⟩) := by
  rw [alone_more (popA_1 T L 0 b), nextD_1, foundD_yes (by simp), popT_1n h]
  exact alone_done (popA_0 T L _ _)
/-- The words behind a slot's taking. -/
def popL (T L : Int) (l : List Int) : List Int := setI l 3 (turnI (getI l 3) (getI l (atI T L (getI l 3 % 4294967296) 5)))
theorem pop_some {T L : Int} {l : List Int} {b : Int} (k : Nat) (h : ¬ getI l 3 % 4294967296 = 0) :
    alone (popA T L) popT (k + 3) l ⟨1, 0, b⟩ = (popL T L l, ⟨0, getI l 3, getI l (atI T L (getI l 3 % 4294967296) 5)⟩) := by
  rw [alone_more (popA_1 T L 0 b), nextD_1, foundD_yes (by simp), popT_1 h, alone_more (popA_2 T L _ _), nextD_1, foundD_yes (by simp), popT_2, alone_more (popA_3 T L _ _), nextD_3, foundD_yes (by simp)]
  simp only
  rw [popT_3, swap_is]
  exact alone_done (popA_0 T L _ _)
/-- The words behind a giving back. -/
def pushL (T L i : Int) (l : List Int) : List Int := setI (setI l (atI T L i 5) (getI l 3 % 4294967296)) 3 (turnI (getI l 3) i)
theorem push_some {T L i : Int} {l : List Int} {b : Int} (k : Nat) (h : getI (setI l (atI T L i 5) (getI l 3 % 4294967296)) 3 = getI l 3) :
    alone (pushA T L i) pushT (k + 3) l ⟨1, 0, b⟩ = (pushL T L i l, ⟨0, getI l 3, b⟩) := by
  rw [alone_more (pushA_1 T L i 0 b), nextD_1, foundD_yes (by simp), pushT_1, alone_more (pushA_2 T L i _ _), nextD_2, foundD_yes (by simp), pushT_2, alone_more (pushA_3 T L i _ _), nextD_3, foundD_yes (by simp)]
  simp only
  rw [h, pushT_3]
  have e : swapI (setI l (atI T L i 5) (getI l 3 % 4294967296)) 3 (getI l 3) (turnI (getI l 3) i) = pushL T L i l := by
    unfold pushL
    conv => lhs; rw [← h]
    rw [h]
    unfold swapI
    rw [if_pos h]
  rw [e]
  exact alone_done (pushA_0 T L i _ _)
theorem popL_length (T L : Int) (l : List Int) : (popL T L l).length = l.length := setI_length _ _ _
theorem pushL_length (T L i : Int) (l : List Int) : (pushL T L i l).length = l.length := by unfold pushL; rw [setI_length, setI_length]
theorem fits_popL {T L : Int} {l : List Int} (h : Fits l) : Fits (popL T L l) := fits_set h _ (turn_lo _ _)
theorem fits_pushL {T L i : Int} {l : List Int} (h : Fits l) : Fits (pushL T L i l) := by
  have := fits_get h 3
  exact fits_set (fits_set h _ (by omega)) _ (turn_lo _ _)

/-! The stack. -/
/-- From b on the words lead through just these. -/
def Chain (nx : Int → Int) : Int → List Int → Prop
  | b, [] => b = 0
  | b, x :: r => b = x ∧ Chain nx (nx x) r
theorem chain_congr {nx nx' : Int → Int} : ∀ {b : Int} {r : List Int}, (∀ x ∈ r, nx' x = nx x) → Chain nx b r → Chain nx' b r
  | _, [], _, h => h
  | _, x :: r, hn, h => ⟨h.1, by rw [hn x List.mem_cons_self]; exact chain_congr (fun y hy => hn y (List.mem_cons_of_mem _ hy)) h.2⟩
theorem go_chain {S : Nat} {nx : Int → Int} : ∀ (r out : List Int) (b : Int) (f : Nat), Chain nx b r → Good S (out ++ r) → r.length ≤ f → goF (S : Int) nx f out b = out ++ r
  | [], out, b, f, hc, _, _ => by
    have h : b = 0 := hc
    rw [go_stop (by omega), List.append_nil]
  | x :: r, out, b, 0, _, _, hl => by simp at hl
  | x :: r, out, b, f + 1, hc, hg, hl => by
    obtain ⟨h1, h2⟩ := hc
    subst h1
    have hx := hg.2 b (by simp)
    have hn : b ∉ out := by
      have h3 := (List.nodup_append.1 hg.1).2.2
      intro hm
      exact h3 b hm b List.mem_cons_self rfl
    have e : out ++ b :: r = out ++ [b] ++ r := by rw [List.append_assoc]; rfl
    rw [go_step ⟨hx.1, hx.2, hn⟩, e]
    exact go_chain r (out ++ [b]) (nx b) f h2 (by rw [← e]; exact hg) (by simp at hl; omega)
/-- The words lead from the head through just these slots. -/
def Stack (T L : Int) (l : List Int) (r : List Int) : Prop := Chain (fun i => getI l (atI T L i 5)) (getI l 3 % 4294967296) r
theorem stack_free {T L : Int} {S : Nat} {l r : List Int} (h : Stack T L l r) (hg : Good S r) : freeL T S L l = r := by
  have := go_chain r [] _ S h (by simpa using hg) (good_len S r hg)
  simpa [freeL] using this
theorem chain_first {S : Nat} {nx : Int → Int} (hn : ∀ i : Nat, 1 ≤ i → i ≤ S → nx (i : Int) = belowI (S : Int) (i : Int)) : ∀ (f k : Nat), k + f = S → Chain nx (if k < S then (k : Int) + 1 else 0) ((List.range f).map fun i : Nat => (k : Int) + 1 + (i : Int))
  | 0, k, h => by
    rw [if_neg (by omega)]
    rfl
  | f + 1, k, h => by
    rw [if_pos (by omega), List.range_succ_eq_map, List.map_cons]
    refine ⟨by simp, ?_⟩
    have h1 := hn (k + 1) (by omega) (by omega)
    have ih := chain_first hn f (k + 1) (by omega)
    rw [Int.natCast_add, Int.natCast_one] at h1
    simp only [Int.natCast_zero, Int.add_zero, h1]
    have e : (List.map (fun i : Nat => (k : Int) + 1 + (i : Int)) (List.map Nat.succ (List.range f))) = (List.range f).map fun i : Nat => ((k + 1 : Nat) : Int) + 1 + (i : Int) := by
      rw [List.map_map]
      apply List.map_congr_left
      intro a _
      simp only [Function.comp]
      omega
    rw [e]
    by_cases h2 : k + 1 < S
    · rw [below_some (by omega)]
      rw [if_pos h2] at ih
      simpa using ih
    · rw [below_none (by omega)]
      rwa [if_neg h2] at ih
theorem stack_first {T S L : Nat} (g : Int) (hT : T ≤ 8) (hS1 : 1 ≤ S) (hS : S ≤ 64) (hL : L ≤ 8) : Stack (T : Int) (L : Int) (layL (wordsN T S L) T S L g S) (firstL S) := by
  have h := chain_first (S := S) (nx := fun i => getI (layL (wordsN T S L) T S L g S) (atI T L i 5)) (fun i h1 h2 => by
    show getI _ (atI T L (i : Int) 5) = _
    rw [lay_get g hT hS hL h1 h2 S (Nat.le_refl _), if_pos h2]) S 0 (by omega)
  rw [if_pos (by omega)] at h
  unfold Stack
  rw [lay_head g hT hS hL S (Nat.le_refl _)]
  have e : firstL S = (List.range S).map fun i : Nat => ((0 : Nat) : Int) + 1 + (i : Int) := by
    unfold firstL
    apply List.map_congr_left
    intro a _
    omega
  rw [e]
  exact h
theorem good_first (S : Nat) : Good S (firstL S) := by
  refine ⟨?_, fun x hx => ?_⟩
  · unfold firstL List.Nodup
    rw [List.pairwise_map]
    exact List.nodup_range.imp fun {a b} h e => h (by omega)
  · simp only [firstL, List.mem_map, List.mem_range] at hx
    obtain ⟨i, hi, e⟩ := hx
    omega

/-- Where the words of slots that there are stand. -/
theorem slot_at {T S L : Nat} (hT : T ≤ 8) (hS : S ≤ 64) (hL : L ≤ 8) {i : Int} (h1 : 1 ≤ i) (h2 : i ≤ S) : 4 ≤ atI T L i 5 ∧ atI T L i 5 < wordsN T S L ∧ ∀ j : Int, 1 ≤ j → j ≤ S → i ≠ j → atI T L i 5 ≠ atI T L j 5 := by
  obtain ⟨i, rfl⟩ := Int.eq_ofNat_of_zero_le (show 0 ≤ i by omega)
  obtain ⟨a, ha, ea, ha4, hal⟩ := at_nat (T := T) (S := S) (L := L) (a := 5) hT hS hL (show 1 ≤ i by omega) (by omega) (by omega)
  change atI (T : Int) (L : Int) (i : Int) 5 = _ at ha
  refine ⟨by rw [ha]; omega, by rw [ha]; omega, fun j hj1 hj2 hne => ?_⟩
  obtain ⟨j, rfl⟩ := Int.eq_ofNat_of_zero_le (show 0 ≤ j by omega)
  obtain ⟨b, hb, eb, hb4, hbl⟩ := at_nat (T := T) (S := S) (L := L) (a := 5) hT hS hL (show 1 ≤ j by omega) (by omega) (by omega)
  change atI (T : Int) (L : Int) (j : Int) 5 = _ at hb
  rw [ha, hb]
  have := at_apart (T := T) (L := L) (i := i) (j := j) (a := 5) (b := 5) (by omega) (by omega) (by omega) (by omega) (by omega)
  omega

/-- The top one is taken. -/
theorem stack_pop {T S L : Nat} (hT : T ≤ 8) (hS : S ≤ 64) (hL : L ≤ 8) {l : List Int} {x : Int} {r : List Int} (h : Stack T L l (x :: r)) (hg : Good S (x :: r)) (h3 : there l 3) :
    getI l 3 % 4294967296 = x ∧ Stack T L (popL T L l) r := by
  obtain ⟨h1, h2⟩ := h
  refine ⟨h1, ?_⟩
  unfold Stack popL
  rw [get_set h3, turn_low, h1]
  have e : getI l (atI T L x 5) % 4294967296 = getI l (atI T L x 5) := by
    cases r with
    | nil => have : getI l (atI T L x 5) = 0 := h2; rw [this]; rfl
    | cons y r =>
      have e1 : getI l (atI T L x 5) = y := h2.1
      have := hg.2 y (by simp)
      omega
  rw [e]
  refine chain_congr (fun y hy => ?_) h2
  have hy1 := hg.2 y (List.mem_cons_of_mem _ hy)
  have := (slot_at (T := T) (S := S) (L := L) hT hS hL hy1.1 hy1.2).1
  exact get_other (by omega)
/-- One is put on top. -/
theorem stack_push {T S L : Nat} (hT : T ≤ 8) (hS : S ≤ 64) (hL : L ≤ 8) {l : List Int} {i : Int} {r : List Int} (h : Stack T L l r) (hg : Good S (i :: r)) (hn : l.length = wordsN T S L) :
    getI (setI l (atI T L i 5) (getI l 3 % 4294967296)) 3 = getI l 3 ∧ Stack T L (pushL T L i l) (i :: r) := by
  have hi := hg.2 i List.mem_cons_self
  obtain ⟨a4, al, an⟩ := slot_at (T := T) (S := S) (L := L) hT hS hL hi.1 hi.2
  have h0 : getI (setI l (atI T L i 5) (getI l 3 % 4294967296)) 3 = getI l 3 := get_other (by omega)
  refine ⟨h0, ?_⟩
  have hw : 4 ≤ wordsN T S L := by omega
  have h3 : there (setI l (atI T L i 5) (getI l 3 % 4294967296)) 3 := by
    unfold there
    rw [setI_length]
    omega
  have hth : there l (atI T L i 5) := by
    unfold there
    omega
  unfold Stack pushL
  rw [get_set h3, turn_low]
  refine ⟨by omega, ?_⟩
  show Chain (fun j => getI (setI (setI l (atI T L i 5) (getI l 3 % 4294967296)) 3 (turnI (getI l 3) i)) (atI T L j 5)) (getI (setI (setI l (atI T L i 5) (getI l 3 % 4294967296)) 3 (turnI (getI l 3) i)) (atI T L i 5)) r
  rw [get_other (show (3 : Int) ≠ atI T L i 5 by omega), get_set hth]
  refine chain_congr (fun y hy => ?_) h
  have hy1 := hg.2 y (List.mem_cons_of_mem _ hy)
  have hy4 := (slot_at (T := T) (S := S) (L := L) hT hS hL hy1.1 hy1.2).1
  have hne : i ≠ y := fun e => by
    subst e
    exact (List.nodup_cons.1 hg.1).1 hy
  show getI (setI (setI l (atI T L i 5) (getI l 3 % 4294967296)) 3 (turnI (getI l 3) i)) (atI T L y 5) = getI l (atI T L y 5)
  rw [get_other (by omega), get_other (an y hy1.1 hy1.2 hne)]
theorem stack_none {T L : Int} {l : List Int} (h : Stack T L l []) : getI l 3 % 4294967296 = 0 := h

/-! Deeds whose numbers are such as there can be. -/
theorem fits_next {l : List Int} {d : D} (h : BM.Fits l) (hd : DM.Fits d) : BM.Fits (nextD l d) := by
  obtain ⟨kd, i, a, b, y⟩ := d
  obtain ⟨h1, h2, h3, h4⟩ := hd
  simp only at h2 h3
  by_cases e1 : kd = 1
  · subst e1; rw [nextD_1]; exact h
  by_cases e2 : kd = 2
  · subst e2; rw [nextD_2]; exact fits_set h _ h2
  by_cases e3 : kd = 3
  · subst e3; rw [nextD_3]; unfold swapI; split
    · exact fits_set h _ h3
    · exact h
  by_cases e4 : kd = 4
  · subst e4; rw [nextD_4]; unfold addI; exact fits_set h _ (by omega)
  rw [nextD_no (by simp only; omega)]
  exact h
theorem fits_found {l : List Int} (h : BM.Fits l) (d : D) : 0 ≤ foundD l d ∧ foundD l d < 18446744073709551616 := by
  unfold foundD
  split
  · exact fits_get h _
  · omega
theorem at_fits (T L s k : Int) : -9223372036854775808 ≤ atI T L s k ∧ atI T L s k ≤ 9223372036854775807 := by unfold atI; generalize 4 + 3 * T + L + (s - 1) * (6 + L) + k = z; unfold Go.RowKit.wrap64; omega
theorem popA_fits {T L : Int} {s : St} {d : D} (hs : Ok s) (h : popA T L s = some d) : DM.Fits d := by
  obtain ⟨st, wa, lo⟩ := s
  obtain ⟨h1, h2, h3⟩ := hs
  simp only at h1 h2 h3
  have := turn_lo wa lo
  have ha := at_fits T L (wa % 4294967296) 5
  rcases h1 with rfl | rfl | rfl | rfl
  · rw [popA_0] at h; cases h
  · rw [popA_1] at h; cases h; unfold DM.Fits; simp only; omega
  · rw [popA_2] at h; cases h; unfold DM.Fits; simp only; omega
  · rw [popA_3] at h; cases h; unfold DM.Fits; simp only; omega
theorem pushA_fits {T L i : Int} {s : St} {d : D} (hs : Ok s) (h : pushA T L i s = some d) : DM.Fits d := by
  obtain ⟨st, wa, lo⟩ := s
  obtain ⟨h1, h2, h3⟩ := hs
  simp only at h1 h2 h3
  have := turn_lo wa i
  have ha := at_fits T L i 5
  rcases h1 with rfl | rfl | rfl | rfl
  · rw [pushA_0] at h; cases h
  · rw [pushA_1] at h; cases h; unfold DM.Fits; simp only; omega
  · rw [pushA_2] at h; cases h; unfold DM.Fits; simp only; omega
  · rw [pushA_3] at h; cases h; unfold DM.Fits; simp only; omega

/-! Free ones and held ones. -/
theorem good_perm {S : Nat} {l l' : List Int} (h : Good S l) (hp : l'.Perm l) : Good S l' := ⟨(hp.nodup_iff).2 h.1, fun x hx => h.2 x (hp.mem_iff.1 hx)⟩
theorem good_take {S : Nat} {x : Int} {r hl : List Int} (h : Good S (x :: r ++ hl)) : Good S (r ++ (hl ++ [x])) :=
  good_perm h (by rw [← List.append_assoc]; exact List.perm_append_singleton x (r ++ hl))
theorem good_give {S : Nat} {i : Int} {r hl : List Int} (h : Good S (r ++ i :: hl)) : Good S (i :: r ++ hl) := good_perm h (List.perm_middle (l₁ := r) (a := i) (l₂ := hl)).symm
theorem good_left {S : Nat} {r hl : List Int} (h : Good S (r ++ hl)) : Good S r := ⟨(List.nodup_append.1 h.1).1, fun x hx => h.2 x (List.mem_append_left _ hx)⟩
/-- The free ones, the last one first, as far as they are listed. -/
def downL (S k : Nat) : List Int := ((firstL S).drop k).reverse
theorem down_all (S : Nat) : downL S S = [] := by unfold downL; rw [List.drop_eq_nil_of_le (by rw [first_length]; exact Nat.le_refl _)]; rfl
theorem down_none (S : Nat) : downL S 0 = (firstL S).reverse := rfl
theorem down_length (S k : Nat) : (downL S k).length = S - k := by unfold downL; rw [List.length_reverse, List.length_drop, first_length]
theorem down_step {S k : Nat} (h : k < S) : downL S k = downL S (k + 1) ++ [(k : Int) + 1] := by
  unfold downL
  rw [List.drop_eq_getElem_cons (by rw [first_length]; exact h), List.reverse_cons]
  congr 2
  have := first_get h
  rw [List.getElem?_eq_getElem (by rw [first_length]; exact h)] at this
  exact Option.some.inj this
end Go.Proofs.YtcnbbflgccdfjaaDoor.PoM
