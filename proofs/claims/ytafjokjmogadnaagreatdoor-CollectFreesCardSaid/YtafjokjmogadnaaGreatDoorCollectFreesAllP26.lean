import Derived.Test.YtafjokjmogadnaaGreatDoorCollectFreesAllP13
import Derived.Test.YtafjokjmogadnaaGreatDoorCollectFreesAllP1
import Derived.Test.YtafjokjmogadnaaGreatDoorCollectFreesAllP25
import Derived.Test.YtafjokjmogadnaaGreatDoorCollectFreesAllP18
/- What is ripe is handed back alone, in plain lists: which slots are free behind it. No program is named. -/
namespace Go.Proofs.YtafjokjmogadnaaGreatDoor.CoM
open DM PM CM BM Runs SM GiM LM CoFill
open PoM (pushL Stack stack_push stack_free slot_at chain_congr pushA_0 pushA_1 pushA_2 pushA_3 pushT_1 pushT_2 pushT_3 pushL_length)
set_option linter.unusedVariables false
set_option linter.unusedSimpArgs false

theorem giveA_p {T L i x : Int} {q : PoM.St} {d : D} (h : PoM.pushA T L i q = some d) : giveA T L i x ⟨false, some q⟩ = some d := by rw [giveA_s, h]
/-- Four steps of a giver. -/
theorem give_steps {T L i x : Int} {l : List Int} (h : getI (setI (setI l (atI T L i 0) x) (atI T L i 5) (getI (setI l (atI T L i 0) x) 3 % 4294967296)) 3 = getI (setI l (atI T L i 0) x) 3) :
    steps (giveA T L i x) giveT 4 l ⟨true, some ⟨1, 0, 0⟩⟩ = some (giveL T L i x l, ⟨false, some ⟨0, getI (setI l (atI T L i 0) x) 3, 0⟩⟩) := by
  rw [steps_more (giveA_1 T L i x _), nextD_2, giveT_1]
  unfold giveL
  generalize setI l (atI T L i 0) x = l1 at h ⊢
  rw [steps_more (giveA_p (pushA_1 T L i 0 0)), nextD_1, foundD_yes (by simp), giveT_s, pushT_1, steps_more (giveA_p (pushA_2 T L i _ _)), nextD_2, foundD_yes (by simp), giveT_s, pushT_2, steps_more (giveA_p (pushA_3 T L i _ _)), nextD_3, foundD_yes (by simp), giveT_s]
  simp only
  rw [h, pushT_3]
  have e : swapI (setI l1 (atI T L i 5) (getI l1 3 % 4294967296)) 3 (getI l1 3) (PoM.turnI (getI l1 3) i) = pushL T L i l1 := by
    unfold pushL
    conv => lhs; rw [← h]
    rw [h]
    unfold swapI
    rw [if_pos h]
  rw [e]
  rfl
/-- A slot's state turns: the stack stays. -/
theorem stack_state {T S L : Nat} (hT : T ≤ 8) (hS : S ≤ 64) (hL : L ≤ 8) {l F : List Int} {i : Int} (x : Int) (h : Stack (T : Int) (L : Int) l F) (hg : BM.Good S F) (h1 : 1 ≤ i) (h2 : i ≤ (S : Int)) : Stack (T : Int) (L : Int) (setI l (atI (T : Int) (L : Int) i 0) x) F := by
  obtain ⟨i, rfl⟩ := Int.eq_ofNat_of_zero_le (show 0 ≤ i by omega)
  obtain ⟨a, ha, ea, ha4, hal⟩ := at_nat (T := T) (S := S) (L := L) (a := 0) hT hS hL (show 1 ≤ i by omega) (by omega) (by omega)
  change atI (T : Int) (L : Int) (i : Int) 0 = _ at ha
  unfold Stack at h ⊢
  rw [ha, get_other (show (a : Int) ≠ 3 by omega)]
  refine chain_congr (fun y hy => ?_) h
  have hy2 := hg.2 y hy
  obtain ⟨y, rfl⟩ := Int.eq_ofNat_of_zero_le (show 0 ≤ y by omega)
  obtain ⟨b, hb, eb, hb4, hbl⟩ := at_nat (T := T) (S := S) (L := L) (a := 5) hT hS hL (show 1 ≤ y by omega) (by omega) (by omega)
  change atI (T : Int) (L : Int) (y : Int) 5 = _ at hb
  rw [hb]
  have hab : a ≠ b := by
    rw [ea, eb]
    exact at_apart (by omega) (by omega) (by omega) (by omega) (by omega)
  exact get_other (by omega)
theorem good_right {S : Nat} {a b : List Int} (h : BM.Good S (a ++ b)) : BM.Good S b := ⟨(List.nodup_append.1 h.1).2.1, fun x hx => h.2 x (List.mem_append_right _ hx)⟩
/-- All that is ripe is given, one by one. -/
theorem col_steps {T S L : Nat} (hT : T ≤ 8) (hS : S ≤ 64) (hL : L ≤ 8) (LL : Ls) (c : Int) : ∀ (rs : List Int) (l F : List Int), (∀ r ∈ rs, genR r < 4294967295) → Stack (T : Int) (L : Int) l F → BM.Good S ((rs.map slotR).reverse ++ F) → l.length = wordsN T S L →
    ∃ lf, (∀ k, steps (colA T L) (colT T L LL) (4 * rs.length + k) l (.at c (nxt rs)) = steps (colA T L) (colT T L LL) k lf (.at c none)) ∧ Stack (T : Int) (L : Int) lf ((rs.map slotR).reverse ++ F) ∧ lf.length = wordsN T S L
  | [], l, F, _, hs, _, hn => ⟨l, fun k => by simp [nxt], by simpa using hs, hn⟩
  | r :: rs, l, F, hr, hs, hg, hn => by
    have e : ((r :: rs).map slotR).reverse ++ F = (rs.map slotR).reverse ++ (slotR r :: F) := by simp
    rw [e] at hg ⊢
    have hg1 := good_right hg
    have hi := hg1.2 (slotR r) List.mem_cons_self
    have hgF : BM.Good S F := good_right (a := [slotR r]) hg1
    have hs1 := stack_state hT hS hL (wordI (genR r)) hs hgF hi.1 hi.2
    obtain ⟨q1, q2⟩ := stack_push hT hS hL hs1 hg1 (by rw [setI_length]; exact hn)
    obtain ⟨lf, h1, h2, h3⟩ := col_steps hT hS hL LL c rs (giveL (T : Int) (L : Int) (slotR r) (wordI (genR r)) l) (slotR r :: F) (fun y hy => hr y (List.mem_cons_of_mem _ hy)) q2 hg (by rw [give_length]; exact hn)
    refine ⟨lf, fun k => ?_, h2, h3⟩
    have hr1 := hr r List.mem_cons_self
    have hp := steps_pass (passes (T : Int) (L : Int) LL c r rs) 4 (4 * rs.length + k) l _ ⟨true, some ⟨1, 0, 0⟩⟩ _ _ (giveA_1 _ _ _ _ _) (give_steps q1) (by show giveA _ _ _ _ _ = none; rw [giveA_s, pushA_0])
    rw [show nxt (r :: rs) = some (r, ⟨true, some ⟨1, 0, 0⟩⟩, rs) by show some (r, GiM.init (genR r), rs) = _; rw [init_some (by omega)], List.length_cons, show 4 * (rs.length + 1) + k = 4 + (4 * rs.length + k) by omega, hp]
    exact h1 k
/-- The whole. -/
theorem all_steps {T S L : Nat} (hT : T ≤ 8) (hS : S ≤ 64) (hL : L ≤ 8) (LL : Ls) (c : Int) (l F : List Int) (h0 : getI l 0 = c) (hr : ∀ r ∈ ripes LL c, genR r < 4294967295) (hs : Stack (T : Int) (L : Int) l F) (hg : BM.Good S (((ripes LL c).map slotR).reverse ++ F)) (hn : l.length = wordsN T S L) :
    ∃ lf, steps (colA T L) (colT T L LL) (4 * (ripes LL c).length + 1) l .look = some (lf, .at c none) ∧ freeL T S L lf = ((ripes LL c).map slotR).reverse ++ F := by
  obtain ⟨lf, h1, h2, h3⟩ := col_steps hT hS hL LL c (ripes LL c) l F hr hs hg hn
  refine ⟨lf, ?_, stack_free h2 hg⟩
  have h := h1 0
  rw [steps_more (ask := colA (T : Int) (L : Int)) (d := (1, 0, 0, 0, 0)) rfl, nextD_1, foundD_yes (by simp)]
  show steps _ _ _ l (CoM.St.at (getI l 0) (nxt (ripes LL (getI l 0)))) = _
  rw [h0]
  exact h

/-! The limbo of the slots 1 to k, retired in the epochs X 0, X 1 and so on. -/
section
variable (G now : Int) (X : Nat → Int)
def lst (k : Nat) : List R2 := (List.range k).map fun j : Nat => (RM.ofI G ((j : Int) + 1), X j)
def ago (j : Nat) : Bool := decide (X j + 2 ≤ now)
def want (k : Nat) : Nat := ((List.range k).filter (ago now X)).length
def freeR (k : Nat) : List Int := ((ripes (fillL (lst G X k)) now).map slotR).reverse
theorem lst_succ (k : Nat) : fillL (lst G X (k + 1)) = addL (fillL (lst G X k)) (RM.ofI G ((k : Int) + 1), X k) := by
  unfold lst fillL
  rw [List.range_succ, List.map_append, List.foldl_append]
  rfl
theorem lst_length (k : Nat) : (lst G X k).length = k := by simp [lst]
theorem want_yes {k : Nat} (h : X k + 2 ≤ now) : want now X (k + 1) = want now X k + 1 := by
  unfold want
  rw [List.range_succ, List.filter_append, List.length_append]
  simp [ago, h]
theorem want_no {k : Nat} (h : ¬ X k + 2 ≤ now) : want now X (k + 1) = want now X k := by
  unfold want
  rw [List.range_succ, List.filter_append, List.length_append]
  simp [ago, h]
theorem want_le (k : Nat) : want now X k ≤ k := Nat.le_trans (List.length_filter_le _ _) (by simp)
end
theorem add_perm (L : Ls) (x : R2) : (allL (addL L x)).Perm (allL L ++ [x]) := by
  obtain ⟨k, hk, ek⟩ := rest_of x.2
  rw [addL_is L ek]
  match k, hk with
  | 0, _ =>
    rw [show allL (putL L 0 (L 0 ++ [x])) = L 0 ++ ([x] ++ (L 1 ++ L 2)) by simp [allL, putL], show allL L ++ [x] = L 0 ++ ((L 1 ++ L 2) ++ [x]) by simp [allL]]
    exact (List.perm_append_comm (l₁ := [x]) (l₂ := L 1 ++ L 2)).append_left (L 0)
  | 1, _ =>
    rw [show allL (putL L 1 (L 1 ++ [x])) = L 0 ++ (L 1 ++ ([x] ++ L 2)) by simp [allL, putL], show allL L ++ [x] = L 0 ++ (L 1 ++ (L 2 ++ [x])) by simp [allL]]
    exact ((List.perm_append_comm (l₁ := [x]) (l₂ := L 2)).append_left (L 1)).append_left (L 0)
  | 2, _ =>
    rw [show allL (putL L 2 (L 2 ++ [x])) = allL L ++ [x] by simp [allL, putL]]
theorem fold_perm : ∀ (l : List R2) (L : Ls), (allL (l.foldl addL L)).Perm (allL L ++ l)
  | [], L => by simp
  | x :: l, L => by
    rw [List.foldl_cons]
    refine (fold_perm l _).trans (((add_perm L x).append_right l).trans ?_)
    simp
theorem nodup_map : ∀ {l : List Nat}, l.Nodup → (l.map fun j : Nat => (j : Int) + 1).Nodup
  | [], _ => List.nodup_nil
  | a :: l, h => by
    obtain ⟨h1, h2⟩ := List.nodup_cons.1 h
    rw [List.map_cons, List.nodup_cons]
    refine ⟨fun z => ?_, nodup_map h2⟩
    obtain ⟨b, hb, e⟩ := List.mem_map.1 z
    have : b = a := by omega
    exact h1 (this ▸ hb)
theorem fill_perm (l : List R2) : (allL (fillL l)).Perm l := by
  have h := fold_perm l noL
  rw [show allL noL ++ l = l by simp [allL, noL]] at h
  exact h
section
variable {G now : Int} {X : Nat → Int} {S : Nat} (hG : 0 ≤ G ∧ G < 4294967295) (hS : S ≤ 64) (hX : ∀ j, 0 ≤ X j)
include hX in
theorem ripe_ago (j : Nat) (r : Int) : ripeB now (r, X j) = ago now X j := by
  have h := hX j
  unfold ripeB ago
  by_cases h1 : X j + 2 ≤ now
  · simp only [h1, decide_true, show (2 ≤ now) = True by simp; omega, show (X j ≤ now - 2) = True by simp; omega, Bool.and_self]
  · simp only [h1, decide_false, show (X j ≤ now - 2) = False by simp; omega, Bool.and_false]
include hX in
theorem filter_lst (k : Nat) : (lst G X k).filter (ripeB now) = ((List.range k).filter (ago now X)).map fun j : Nat => (RM.ofI G ((j : Int) + 1), X j) := by
  unfold lst
  rw [List.filter_map]
  congr 1
  exact List.filter_congr fun j _ => ripe_ago hX j _
include hG hS in
theorem ofI_parts {j : Nat} (hj : j < S) : slotR (RM.ofI G ((j : Int) + 1)) = (j : Int) + 1 ∧ genR (RM.ofI G ((j : Int) + 1)) = G ∧ 0 ≤ RM.ofI G ((j : Int) + 1) ∧ RM.ofI G ((j : Int) + 1) < 18446744073709551616 := by
  rw [RM.ofI_yes ⟨by omega, by omega, by omega⟩]
  unfold slotR genR
  omega
include hX in
theorem ripes_perm (k : Nat) : (ripes (fillL (lst G X k)) now).Perm (((List.range k).filter (ago now X)).map fun j : Nat => RM.ofI G ((j : Int) + 1)) := by
  unfold ripes
  have h := ((fill_perm (lst G X k)).filter (ripeB now)).map Prod.fst
  rw [filter_lst hX, List.map_map] at h
  exact h
include hX in
theorem ripes_length (k : Nat) : (ripes (fillL (lst G X k)) now).length = want now X k := by
  rw [(ripes_perm hX k).length_eq, List.length_map]
  rfl
include hX in
theorem cnt_is (k : Nat) (z : Option (Int × GiM.St × List Int)) : cntS (fillL (lst G X k)) (.at now z) = want now X k := by
  rw [← ripes_length hX k (G := G)]
  unfold cntS ripes
  rw [List.length_map]
include hX in
theorem left_is (k : Nat) (z : Option (Int × GiM.St × List Int)) : lenL (leftS (fillL (lst G X k)) (.at now z)) = k - want now X k := by
  show lenL (amidL (fillL (lst G X k)) now 3) = _
  rw [← lenL_all, amidL_all]
  have h1 := (fill_perm (lst G X k)).length_eq
  have h2 := cnt_is (G := G) (now := now) hX k none
  unfold cntS at h2
  have h3 : ∀ (p : R2 → Bool) (l : List R2), (l.filter p).length + (l.filter fun x => !p x).length = l.length := fun p l => by
    induction l with
    | nil => rfl
    | cons a l ih =>
      cases hp : p a <;> simp [List.filter_cons, hp] <;> omega
  have h4 := h3 (ripeB now) (allL (fillL (lst G X k)))
  rw [lst_length] at h1
  simp only at h2
  omega
include hG hS hX in
theorem free_all : (freeR G now X S).length = want now X S ∧ (∀ y ∈ freeR G now X S, ∃ j : Nat, j < S ∧ y = (j : Int) + 1 ∧ X j + 2 ≤ now) ∧ BM.Good S (freeR G now X S) ∧ ∀ r ∈ ripes (fillL (lst G X S)) now, genR r < 4294967295 := by
  have hp := ripes_perm (G := G) (now := now) hX S
  have hm : ((ripes (fillL (lst G X S)) now).map slotR).Perm (((List.range S).filter (ago now X)).map fun j : Nat => (j : Int) + 1) := by
    have h := hp.map slotR
    rw [List.map_map] at h
    rw [show ((List.range S).filter (ago now X)).map (slotR ∘ fun j : Nat => RM.ofI G ((j : Int) + 1)) = ((List.range S).filter (ago now X)).map fun j : Nat => (j : Int) + 1 from List.map_congr_left fun j hj => (ofI_parts hG hS (List.mem_range.1 (List.mem_filter.1 hj).1)).1] at h
    exact h
  have hmem : ∀ y ∈ freeR G now X S, ∃ j : Nat, j < S ∧ y = (j : Int) + 1 ∧ X j + 2 ≤ now := fun y hy => by
    unfold freeR at hy
    rw [List.mem_reverse, hm.mem_iff] at hy
    obtain ⟨j, hj, rfl⟩ := List.mem_map.1 hy
    obtain ⟨h1, h2⟩ := List.mem_filter.1 hj
    exact ⟨j, List.mem_range.1 h1, rfl, by simpa [ago] using h2⟩
  refine ⟨by unfold freeR; rw [List.length_reverse, List.length_map, ripes_length hX], hmem, ⟨?_, fun y hy => ?_⟩, fun r hr => ?_⟩
  · unfold freeR
    rw [(List.reverse_perm _).nodup_iff, hm.nodup_iff]
    exact nodup_map (List.nodup_range.filter _)
  · obtain ⟨j, h1, rfl, _⟩ := hmem y hy
    omega
  · rw [hp.mem_iff] at hr
    obtain ⟨j, hj, rfl⟩ := List.mem_map.1 hr
    rw [(ofI_parts hG hS (List.mem_range.1 (List.mem_filter.1 hj).1)).2.1]
    exact hG.2
end
end Go.Proofs.YtafjokjmogadnaaGreatDoor.CoM
