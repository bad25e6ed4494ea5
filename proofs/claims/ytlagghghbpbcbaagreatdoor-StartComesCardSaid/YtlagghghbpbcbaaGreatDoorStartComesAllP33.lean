import Derived.Test.YtlagghghbpbcbaaGreatDoorRows
import Derived.Test.YtlagghghbpbcbaaGreatDoorStartComesAllP8
import Derived.Test.YtlagghghbpbcbaaGreatDoorStartComesAllP7
import Derived.Test.YtlagghghbpbcbaaGreatDoorStartComesAllP3
import Derived.Deep.AppendLies
import Derived.Deep.RegionLaw
import Derived.Lib.SliceRun
import Derived.Deep.RegionHeld3
/- Package limbo (layer 15), held to plain lists: three rows of slots in a block; what each call returns, what it leaves, and that all else in memory stays as it was. -/
namespace Go.Proofs.YtlagghghbpbcbaaGreatDoor.Limbo
set_option maxRecDepth 20000
open Go.ChangeShapes Go.WideShapes Go.RowKit LM Lay
set_option linter.unusedVariables false
set_option linter.unusedSimpArgs false

theorem mixed : Tryz.prog.follows .mixedOrders = true := by kernel_rfl
abbrev encR : R2 → List Value := Open.enc2 .u64 .u64
theorem encR_one (x : R2) : ∀ v ∈ encR x, v.oneCell' = true := Open.enc2_one .u64 .u64 x
theorem info_R : (Tryz.prog.info? 208).map (fun i => (i.zero, i.size, i.bytes)) = some (some (.agg #[.int .u64 0, .int .u64 0]), 2, 16) := by kernel_rfl
theorem own_block {F : Option Addr} {a fc k : Nat} (h : (Value.slice F a fc).ownBlock = some k) : ∃ x, F = some x ∧ x.block = k := by
  cases F with
  | none => cases h
  | some x => exact ⟨x, rfl, by simpa [Value.ownBlock] using h⟩
/-- The rows of a limbo in block p: the i-th in the block of A i; S are all its blocks. -/
structure Parts (w : World) (p : Nat) (S : Nat → Prop) (L : Ls) (A : Nat → Option Addr) (c : Nat → Nat) : Prop where
  box : w.heap[p]? = some (.cells #[.slice (A 0) (L 0).length (c 0), .slice (A 1) (L 1).length (c 1), .slice (A 2) (L 2).length (c 2)] 99 (0, 0))
  own : ∀ i, i < 3 → w.ownsRow 0 208 2 (.slice (A i) (L i).length (c i)) (L i).length (flat encR (L i))
  at_ : ∀ i x, i < 3 → A i = some x → S x.block ∧ x.block ≠ p
  apart : ∀ i j x y, i < 3 → j < 3 → i ≠ j → A i = some x → A j = some y → x.block ≠ y.block
  mem : S p
  lt : ∀ k, S k → k < w.heap.size
def Lim (w : World) (p : Nat) (S : Nat → Prop) (L : Ls) : Prop := ∃ A c, Parts w p S L A c

section
variable {w w' : World} {p : Nat} {S R : Nat → Prop} {L : Ls} {A : Nat → Option Addr} {c : Nat → Nat}
theorem Parts.only (h : Parts w p S L A c) (ho : Only R w w') (hR : ∀ k, R k → ¬ S k) : Parts w' p S L A c :=
  ⟨ho.heap h.box (fun e => hR p e h.mem), fun i hi => ho.own (h.own i hi) (fun k hk e => by
    obtain ⟨x, hx, rfl⟩ := own_block hk
    exact hR _ e (h.at_ i x hi hx).1), h.at_, h.apart, h.mem, fun k hk => Nat.lt_of_lt_of_le (h.lt k hk) ho.size⟩
theorem Lim.only (h : Lim w p S L) (ho : Only R w w') (hR : ∀ k, R k → ¬ S k) : Lim w' p S L := by
  obtain ⟨A, c, h⟩ := h
  exact ⟨A, c, h.only ho hR⟩
theorem Lim.later (h : Lim w p S L) (hb : Below w.heap.size w w') : Lim w' p S L := h.only (only_below (fun _ => False) hb) (fun _ e => e.elim)
theorem Lim.lt (h : Lim w p S L) : ∀ k, S k → k < w.heap.size := by
  obtain ⟨A, c, h⟩ := h
  exact h.lt
theorem Lim.mem (h : Lim w p S L) : S p := by
  obtain ⟨A, c, h⟩ := h
  exact h.mem
theorem Parts.cell (h : Parts w p S L A c) {i : Nat} (hi : i < 3) : w.cell? ⟨p, i, none⟩ = some (.slice (A i) (L i).length (c i)) ∧ w.frozen? ⟨p, i, none⟩ = false := by
  obtain ⟨h1, h2⟩ := cell_heap h.box i
  refine ⟨?_, h2⟩
  rw [h1]
  match i, hi with
  | 0, _ => rfl
  | 1, _ => rfl
  | 2, _ => rfl
theorem Lim.congr {L' : Ls} (h : Lim w p S L) (hL : ∀ i, i < 3 → L i = L' i) : Lim w p S L' := by
  obtain ⟨A, c, h1, h2, h3, h4, h5, h6⟩ := h
  exact ⟨A, c, by rw [← hL 0 (by omega), ← hL 1 (by omega), ← hL 2 (by omega)]; exact h1, fun i hi => by rw [← hL i hi]; exact h2 i hi, h3, h4, h5, h6⟩
/-- One row is another one, of the old block, or of one that is none of the limbo's. -/
theorem Parts.put (h : Parts w p S L A c) {i : Nat} (hi : i < 3) {w3 : World} (ho : Only R w w3) (hR : ∀ k, R k → ¬ S k ∨ ∃ x, A i = some x ∧ x.block = k) {B : Option Addr} {cB : Nat} {l : List R2}
    (hown : w3.ownsRow 0 208 2 (.slice B l.length cB) l.length (flat encR l)) (hB : ∀ x, B = some x → x.block < w3.heap.size ∧ (¬ S x.block ∨ ∃ y, A i = some y ∧ y.block = x.block)) :
    Lim (w3.setCell ⟨p, i, none⟩ (.slice B l.length cB)) p (fun k => S k ∨ ∃ x, B = some x ∧ x.block = k) (putL L i l) := by
  have hp3 : ¬ R p := fun e => by
    rcases hR p e with h1 | ⟨x, hx, hxp⟩
    · exact h1 h.mem
    · exact (h.at_ i x hi hx).2 hxp
  have hbox := ho.heap h.box hp3
  have hBp : ∀ x, B = some x → x.block ≠ p := fun x hx e => by
    rcases (hB x hx).2 with h1 | ⟨y, hy, hyx⟩
    · exact h1 (e ▸ h.mem)
    · exact (h.at_ i y hi hy).2 (hyx.trans e)
  have hset := set_heap (j := i) hbox (.slice B l.length cB)
  have hSet : Only (fun k => k = p) w3 (w3.setCell ⟨p, i, none⟩ (.slice B l.length cB)) := only_setCell (R := fun k => k = p) w3 rfl _
  have hs := ho.size
  have hs2 := hSet.size
  refine ⟨fun j => if j = i then B else A j, fun j => if j = i then cB else c j, ?_, fun j hj => ?_, fun j x hj hx => ?_, fun j j' x y hj hj' hne hx hy => ?_, .inl h.mem, fun k hk => ?_⟩
  · rw [hset]
    match i, hi with
    | 0, _ => rfl
    | 1, _ => rfl
    | 2, _ => rfl
  · by_cases hji : j = i
    · subst hji
      simp only [if_pos, putL_same]
      exact hSet.own hown (fun k hk e => by
        obtain ⟨x, hx, rfl⟩ := own_block hk
        exact hBp x hx e)
    · simp only [if_neg hji, putL_other _ _ hji]
      refine hSet.own (ho.own (h.own j hj) (fun k hk e => ?_)) (fun k hk e => ?_)
      · obtain ⟨x, hx, rfl⟩ := own_block hk
        rcases hR _ e with h1 | ⟨y, hy, hyx⟩
        · exact h1 (h.at_ j x hj hx).1
        · exact h.apart j i x y hj hi hji hx hy hyx.symm
      · obtain ⟨x, hx, rfl⟩ := own_block hk
        exact (h.at_ j x hj hx).2 e
  · by_cases hji : j = i
    · subst hji
      simp only [if_pos] at hx
      exact ⟨.inr ⟨x, hx, rfl⟩, hBp x hx⟩
    · simp only [if_neg hji] at hx
      exact ⟨.inl (h.at_ j x hj hx).1, (h.at_ j x hj hx).2⟩
  · have hAB : ∀ j x y, j < 3 → j ≠ i → A j = some x → B = some y → x.block ≠ y.block := fun j x y hj hji hx hy e => by
      rcases (hB y hy).2 with h1 | ⟨z, hz, hzy⟩
      · exact h1 (e ▸ (h.at_ j x hj hx).1)
      · exact h.apart j i x z hj hi hji hx hz (e.trans hzy.symm)
    by_cases h1 : j = i <;> by_cases h2 : j' = i
    · omega
    · simp only [if_pos h1] at hx
      simp only [if_neg h2] at hy
      exact fun e => hAB j' y x hj' h2 hy hx e.symm
    · simp only [if_neg h1] at hx
      simp only [if_pos h2] at hy
      exact hAB j x y hj h1 hx hy
    · simp only [if_neg h1] at hx
      simp only [if_neg h2] at hy
      exact h.apart j j' x y hj hj' hne hx hy
  · rcases hk with hk | ⟨x, hx, rfl⟩
    · have := h.lt k hk
      omega
    · have := (hB x hx).1
      omega
end

/-- What New and Copy end in: another limbo, in new memory. -/
def Made (w : World) (L : Ls) (e : Ending) (w' : World) : Prop := ∃ q S, e = .returned (.pointer (some ⟨q, 0, none⟩)) ∧ Lim w' q S L ∧ (∀ k, S k → w.heap.size ≤ k) ∧ Below w.heap.size w w'
theorem New_any (w : World) : Calls Tryz.prog 11 #[] w (Made w noL) := by
  have HE := Lib.hid (show Made w noL (.returned (.pointer (some ⟨w.heap.size, 0, none⟩))) (w.alloc (.cells #[.slice none 0 0, .slice none 0 0, .slice none 0 0] 99)) from
    ⟨w.heap.size, fun k => k = w.heap.size, rfl, ⟨fun _ => none, fun _ => 0, new_heap w _, fun i _ => World.ownsRow_nil _ _ _ _, fun i x _ e => (by cases e), fun i j x y _ _ _ e => (by cases e), rfl, fun k e => by subst e; simp⟩, fun k e => by omega, (Below.refl _ _).alloc (Nat.le_refl _) _⟩)
  go_enter Tryz.func11, Tryz.ntmps11
  go_wp2
  go_ret
  exact HE.out

/-- A limbo that has turned: all its blocks are those that it had, or new ones. -/
def Turns (w : World) (p : Nat) (S : Nat → Prop) (L : Ls) (e : Ending) (w' : World) : Prop := ∃ S', e = .returned (.tuple #[]) ∧ Lim w' p S' L ∧ (∀ k, S' k → S k ∨ w.heap.size ≤ k) ∧ Only S w w'

/-- Behind the append: the cell. -/
theorem add_box {w W0 w3 : World} {p i : Nat} {S : Nat → Prop} {L : Ls} {A : Nat → Option Addr} {c : Nat → Nat} (h : Parts w p S L A c) (hi : i < 3) (hB : Below w.heap.size w W0) (hg : W0.grownBy w3 (Value.slice (A i) (L i).length (c i)).ownBlock) :
    w3.cell? ⟨p, i, none⟩ = some (.slice (A i) (L i).length (c i)) ∧ w3.frozen? ⟨p, i, none⟩ = false := by
  have hp : (Value.slice (A i) (L i).length (c i)).ownBlock ≠ some p := fun e => by
    obtain ⟨y, hy, hyp⟩ := own_block e
    exact (h.at_ i y hi hy).2 hyp
  have hb := (only_grown hg (R := fun k => (Value.slice (A i) (L i).length (c i)).ownBlock = some k) (fun k e => e)).heap ((only_below (fun _ => False) hB).heap h.box id) hp
  refine ⟨?_, (cell_heap hb i).2⟩
  rw [(cell_heap hb i).1, ← (cell_heap h.box i).1]
  exact (h.cell hi).1
/-- Behind the append: the struct. -/
theorem add_end {w W0 w3 : World} {p i cap g2 : Nat} {S : Nat → Prop} {L : Ls} {A : Nat → Option Addr} {c : Nat → Nat} {x : R2} (h : Parts w p S L A c) (hi : i < 3) (he : x.2 % 3 = (i : Int)) (hB : Below w.heap.size w W0) (hg : W0.grownBy w3 (Value.slice (A i) (L i).length (c i)).ownBlock)
    (ho : w3.ownsRow 0 208 2 (.slice (some ⟨g2, 0, none⟩) ((L i).length + 1) cap) ((L i).length + 1) (flat encR (L i) ++ encR x)) (hor : (Value.slice (A i) (L i).length (c i)).ownBlock = some g2 ∨ g2 = W0.heap.size) (hlt : g2 < w3.heap.size) :
    Turns w p S (addL L x) (.returned (.tuple #[])) (w3.setCell ⟨p, i, none⟩ (.slice (some ⟨g2, 0, none⟩) ((L i).length + 1) cap)) := by
  have hs := hB.size
  have hR : Only (fun k => (Value.slice (A i) (L i).length (c i)).ownBlock = some k) w w3 := (only_below _ hB).trans (only_grown hg (fun k e => e))
  have hl : (L i ++ [x]).length = (L i).length + 1 := by simp
  have hput := h.put (R := fun k => (Value.slice (A i) (L i).length (c i)).ownBlock = some k) hi (w3 := w3) (B := some ⟨g2, 0, none⟩) (cB := cap) (l := L i ++ [x]) hR (fun k e => .inr (own_block e))
    (by rw [hl, flat_append, flat_one]; exact ho) (fun y hy => by
      cases hy
      refine ⟨hlt, ?_⟩
      rcases hor with e | e
      · exact .inr (own_block e)
      · exact .inl fun e2 => by
          have h1 : g2 < w.heap.size := h.lt _ e2
          omega)
  rw [hl, ← addL_is L he] at hput
  refine ⟨_, rfl, hput, fun k hk => ?_, ?_⟩
  · rcases hk with hk | ⟨y, hy, rfl⟩
    · exact .inl hk
    · cases hy
      rcases hor with e | e
      · obtain ⟨y, hy, hyg⟩ := own_block e
        exact .inl (hyg ▸ (h.at_ i y hi hy).1)
      · exact .inr (by show w.heap.size ≤ g2; omega)
  · refine (hR.wide (R' := S) fun k e => ?_).setCell (.inl h.mem) _
    obtain ⟨y, hy, rfl⟩ := own_block e
    exact .inl (h.at_ i y hi hy).1
set_option maxHeartbeats 1000000 in
theorem Add_any {p : Nat} {S : Nat → Prop} {L : Ls} {w : World} (hL : Lim w p S L) (hm : lenL L ≤ 1000000) {r e : Int} (h0 : 0 ≤ e) : Calls Tryz.prog 164 #[.pointer (some ⟨p, 0, none⟩), .int .u64 r, .int .u64 e] w (Turns w p S (addL L (r, e))) := by
  obtain ⟨A, c, hP⟩ := hL
  obtain ⟨i, hi, he⟩ := rest_of e
  obtain ⟨n, hn⟩ : ∃ n, n = (L i).length := ⟨_, rfl⟩
  have hnm := lenL_le L hi
  rw [← hn] at hnm
  obtain ⟨ci, fi⟩ := hP.cell hi
  have ho := hP.own i hi
  rw [← hn] at ci ho
  have HEND := Lib.hid fun W0 w3 g2 cap => add_end (x := (r, e)) (W0 := W0) (w3 := w3) (g2 := g2) (cap := cap) hP hi he
  rw [← hn] at HEND
  have HC := Lib.hid fun W0 w3 => add_box (W0 := W0) (w3 := w3) hP hi
  rw [← hn] at HC
  have hi3 : (i : Int) < 3 := by omega
  have B1 := (Below.refl w.heap.size w).alloc (Nat.le_refl _) (.cells #[.int .u64 r, .int .u64 e] 208)
  have k1 := cell_later B1 ci
  have HF := Lib.hid ho
  have HE := Lib.hid he
  obtain ⟨i0, hi0, hz0, hz1, hz2⟩ := info_parts info_R
  clear hP ho hn he B1
  go_enter Tryz.func164, Tryz.ntmps164
  go_wp2
  rw [HE.out]
  go_region_law (refine step_append_lies _ rfl (.tmp 18) (.tmp 22) 27 rfl 0 208 i0 _ 2 16 Tryz.underlying27 hi0 hz0 hz1 hz2 rfl (by decide) _ n _ rfl (own_later HF.out (((Below.refl _ _).alloc (Nat.le_refl _) _).drew)) ⟨w.heap.size, 0, none⟩ 1 1 (encR (r, e)) rfl rfl (cells_new _ _ _) (encR_one _) (by decide) (by simp only [maxLen]; omega) (by omega) (Nat.zero_le _) _ rfl ?_; intro g2 cap w3 ho2 hg2 hor2 hlt2; have hb0 := (((Below.refl w.heap.size w).alloc (Nat.le_refl _) (.cells #[.int .u64 r, .int .u64 e] 208)).drew); obtain ⟨k2, k3⟩ := HC.out _ _ hb0 hg2; have HEN := Lib.hid (HEND.out _ _ _ _ hb0 hg2 ho2 hor2 hlt2); clear hb0 ho2 hg2 hor2)
  all_goals (refine bodyPost_end (results_none rfl _ _ _) rfl ?_; exact HEN.out)

/-- A list of slots in new memory. -/
def Listed (w : World) (l : List R2) (e : Ending) (w' : World) : Prop := ∃ (A' : Option Addr) (n c' : Nat), e = .returned (.slice A' n c') ∧ n = l.length ∧ n ≤ c' ∧ Row w' w'.heap.size A' (flat encR l) ∧ (∀ a, A' = some a → w.heap.size ≤ a.block ∧ a.block < w'.heap.size) ∧ Below w.heap.size w w'
theorem new_of_own {w w' : World} {e : TypeId} {size n c : Nat} {A : Option Addr} {xs : List Value} (h : w'.ownsRow w.heap.size e size (.slice A n c) n xs) : ∀ a, A = some a → w.heap.size ≤ a.block ∧ a.block < w'.heap.size := by
  intro a ha
  subst ha
  exact h.lt a.block rfl
end Go.Proofs.YtlagghghbpbcbaaGreatDoor.Limbo
