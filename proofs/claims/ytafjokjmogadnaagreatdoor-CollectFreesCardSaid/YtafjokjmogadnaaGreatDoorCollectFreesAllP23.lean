import Derived.Test.YtafjokjmogadnaaGreatDoorRows
import Derived.Test.YtafjokjmogadnaaGreatDoorCollectFreesAllP22
import Derived.Test.YtafjokjmogadnaaGreatDoorCollectFreesAllP8
import Derived.Test.YtafjokjmogadnaaGreatDoorCollectFreesAllP12
import Derived.Deep.AppendLies
import Derived.Deep.RegionLaw
import Derived.Lib.SliceRun
import Derived.Deep.RegionHeld3
/- Package limbo (layer 15), held to plain lists: three rows of slots in a block; what each call returns, what it leaves, and that all else in memory stays as it was. -/
namespace Go.Proofs.YtafjokjmogadnaaGreatDoor.Limbo
set_option maxRecDepth 20000
open Go.ChangeShapes Go.WideShapes Go.RowKit LM Lay
set_option linter.unusedVariables false
set_option linter.unusedSimpArgs false

theorem mixed : Tryz.prog.follows .mixedOrders = true := by kernel_rfl
abbrev encR : R2 → List Value := Open.enc2 .u64 .u64
theorem encR_length (x : R2) : (encR x).length = 2 := rfl
theorem encR_one (x : R2) : ∀ v ∈ encR x, v.oneCell' = true := Open.enc2_one .u64 .u64 x
theorem info_R : (Tryz.prog.info? 63).map (fun i => (i.zero, i.size, i.bytes)) = some (some (.agg #[.int .u64 0, .int .u64 0]), 2, 16) := by kernel_rfl
theorem own_block {F : Option Addr} {a fc k : Nat} (h : (Value.slice F a fc).ownBlock = some k) : ∃ x, F = some x ∧ x.block = k := by
  cases F with
  | none => cases h
  | some x => exact ⟨x, rfl, by simpa [Value.ownBlock] using h⟩
theorem own_base {w : World} {b b' : Nat} {e : TypeId} {size n : Nat} {v : Value} {xs : List Value} (h : w.ownsRow b e size v n xs) (hb : b' ≤ b) : w.ownsRow b' e size v n xs := by
  refine ⟨h.1, ?_⟩
  rcases h.2 with hn | ⟨g, cap, cur, rfl, hg, rest⟩
  · exact .inl hn
  · exact .inr ⟨g, cap, cur, rfl, by omega, rest⟩

/-- The rows of a limbo in block p: the i-th in the block of A i; S are all its blocks. -/
structure Parts (w : World) (p : Nat) (S : Nat → Prop) (L : Ls) (A : Nat → Option Addr) (c : Nat → Nat) : Prop where
  box : w.heap[p]? = some (.cells #[.slice (A 0) (L 0).length (c 0), .slice (A 1) (L 1).length (c 1), .slice (A 2) (L 2).length (c 2)] 78 (0, 0))
  own : ∀ i, i < 3 → w.ownsRow 0 63 2 (.slice (A i) (L i).length (c i)) (L i).length (flat encR (L i))
  at_ : ∀ i x, i < 3 → A i = some x → S x.block ∧ x.block ≠ p
  apart : ∀ i j x y, i < 3 → j < 3 → i ≠ j → A i = some x → A j = some y → x.block ≠ y.block
  mem : S p
  lt : ∀ k, S k → k < w.heap.size
def Lim (w : World) (p : Nat) (S : Nat → Prop) (L : Ls) : Prop := ∃ A c, Parts w p S L A c

section
variable {w w' : World} {p : Nat} {S R : Nat → Prop} {L : Ls} {A : Nat → Option Addr} {c : Nat → Nat}
theorem Parts.only (h : Parts w p S L A c) (ho : Only R w w') (hR : ∀ k, R k → ¬ S k) : Parts w' p S L A c :=
  ⟨ho.heap h.box (fun e => hR p e h.mem), fun i hi => ho.own (h.own i hi) (fun k hk e => by
    obtain ⟨x, hx, rfl⟩ := own_block hk
    exact hR _ e (h.at_ i x hi hx).1), h.at_, h.apart, h.mem, fun k hk => Nat.lt_of_lt_of_le (h.lt k hk) ho.size⟩
theorem Lim.only (h : Lim w p S L) (ho : Only R w w') (hR : ∀ k, R k → ¬ S k) : Lim w' p S L := by
  obtain ⟨A, c, h⟩ := h
  exact ⟨A, c, h.only ho hR⟩
theorem Lim.later (h : Lim w p S L) (hb : Below w.heap.size w w') : Lim w' p S L := h.only (only_below (fun _ => False) hb) (fun _ e => e.elim)
theorem Lim.lt (h : Lim w p S L) : ∀ k, S k → k < w.heap.size := by
  obtain ⟨A, c, h⟩ := h
  exact h.lt
theorem Lim.mem (h : Lim w p S L) : S p := by
  obtain ⟨A, c, h⟩ := h
  exact h.mem
theorem Parts.cell (h : Parts w p S L A c) {i : Nat} (hi : i < 3) : w.cell? ⟨p, i, none⟩ = some (.slice (A i) (L i).length (c i)) ∧ w.frozen? ⟨p, i, none⟩ = false := by
  obtain ⟨h1, h2⟩ := cell_heap h.box i
  refine ⟨?_, h2⟩
  rw [h1]
  match i, hi with
  | 0, _ => rfl
  | 1, _ => rfl
  | 2, _ => rfl
theorem Lim.congr {L' : Ls} (h : Lim w p S L) (hL : ∀ i, i < 3 → L i = L' i) : Lim w p S L' := by
  obtain ⟨A, c, h1, h2, h3, h4, h5, h6⟩ := h
  exact ⟨A, c, by rw [← hL 0 (by omega), ← hL 1 (by omega), ← hL 2 (by omega)]; exact h1, fun i hi => by rw [← hL i hi]; exact h2 i hi, h3, h4, h5, h6⟩
/-- One row is another one, of the old block, or of one that is none of the limbo's. -/
theorem Parts.put (h : Parts w p S L A c) {i : Nat} (hi : i < 3) {w3 : World} (ho : Only R w w3) (hR : ∀ k, R k → ¬ S k ∨ ∃ x, A i = some x ∧ x.block = k) {B : Option Addr} {cB : Nat} {l : List R2}
    (hown : w3.ownsRow 0 63 2 (.slice B l.length cB) l.length (flat encR l)) (hB : ∀ x, B = some x → x.block < w3.heap.size ∧ (¬ S x.block ∨ ∃ y, A i = some y ∧ y.block = x.block)) :
    Lim (w3.setCell ⟨p, i, none⟩ (.slice B l.length cB)) p (fun k => S k ∨ ∃ x, B = some x ∧ x.block = k) (putL L i l) := by
  have hp3 : ¬ R p := fun e => by
    rcases hR p e with h1 | ⟨x, hx, hxp⟩
    · exact h1 h.mem
    · exact (h.at_ i x hi hx).2 hxp
  have hbox := ho.heap h.box hp3
  have hBp : ∀ x, B = some x → x.block ≠ p := fun x hx e => by
    rcases (hB x hx).2 with h1 | ⟨y, hy, hyx⟩
    · exact h1 (e ▸ h.mem)
    · exact (h.at_ i y hi hy).2 (hyx.trans e)
  have hset := set_heap (j := i) hbox (.slice B l.length cB)
  have hSet : Only (fun k => k = p) w3 (w3.setCell ⟨p, i, none⟩ (.slice B l.length cB)) := only_setCell (R := fun k => k = p) w3 rfl _
  have hs := ho.size
  have hs2 := hSet.size
  refine ⟨fun j => if j = i then B else A j, fun j => if j = i then cB else c j, ?_, fun j hj => ?_, fun j x hj hx => ?_, fun j j' x y hj hj' hne hx hy => ?_, .inl h.mem, fun k hk => ?_⟩
  · rw [hset]
    match i, hi with
    | 0, _ => rfl
    | 1, _ => rfl
    | 2, _ => rfl
  · by_cases hji : j = i
    · subst hji
      simp only [if_pos, putL_same]
      exact hSet.own hown (fun k hk e => by
        obtain ⟨x, hx, rfl⟩ := own_block hk
        exact hBp x hx e)
    · simp only [if_neg hji, putL_other _ _ hji]
      refine hSet.own (ho.own (h.own j hj) (fun k hk e => ?_)) (fun k hk e => ?_)
      · obtain ⟨x, hx, rfl⟩ := own_block hk
        rcases hR _ e with h1 | ⟨y, hy, hyx⟩
        · exact h1 (h.at_ j x hj hx).1
        · exact h.apart j i x y hj hi hji hx hy hyx.symm
      · obtain ⟨x, hx, rfl⟩ := own_block hk
        exact (h.at_ j x hj hx).2 e
  · by_cases hji : j = i
    · subst hji
      simp only [if_pos] at hx
      exact ⟨.inr ⟨x, hx, rfl⟩, hBp x hx⟩
    · simp only [if_neg hji] at hx
      exact ⟨.inl (h.at_ j x hj hx).1, (h.at_ j x hj hx).2⟩
  · have hAB : ∀ j x y, j < 3 → j ≠ i → A j = some x → B = some y → x.block ≠ y.block := fun j x y hj hji hx hy e => by
      rcases (hB y hy).2 with h1 | ⟨z, hz, hzy⟩
      · exact h1 (e ▸ (h.at_ j x hj hx).1)
      · exact h.apart j i x z hj hi hji hx hz (e.trans hzy.symm)
    by_cases h1 : j = i <;> by_cases h2 : j' = i
    · omega
    · simp only [if_pos h1] at hx
      simp only [if_neg h2] at hy
      exact fun e => hAB j' y x hj' h2 hy hx e.symm
    · simp only [if_neg h1] at hx
      simp only [if_pos h2] at hy
      exact hAB j x y hj h1 hx hy
    · simp only [if_neg h1] at hx
      simp only [if_neg h2] at hy
      exact h.apart j j' x y hj hj' hne hx hy
  · rcases hk with hk | ⟨x, hx, rfl⟩
    · have := h.lt k hk
      omega
    · have := (hB x hx).1
      omega
end

/-- What New and Copy end in: another limbo, in new memory. -/
def Made (w : World) (L : Ls) (e : Ending) (w' : World) : Prop := ∃ q S, e = .returned (.pointer (some ⟨q, 0, none⟩)) ∧ Lim w' q S L ∧ (∀ k, S k → w.heap.size ≤ k) ∧ Below w.heap.size w w'
theorem New_any (w : World) : Calls Tryz.prog 18 #[] w (Made w noL) := by
  have HE := Lib.hid (show Made w noL (.returned (.pointer (some ⟨w.heap.size, 0, none⟩))) (w.alloc (.cells #[.slice none 0 0, .slice none 0 0, .slice none 0 0] 78)) from
    ⟨w.heap.size, fun k => k = w.heap.size, rfl, ⟨fun _ => none, fun _ => 0, new_heap w _, fun i _ => World.ownsRow_nil _ _ _ _, fun i x _ e => (by cases e), fun i j x y _ _ _ e => (by cases e), rfl, fun k e => by subst e; simp⟩, fun k e => by omega, (Below.refl _ _).alloc (Nat.le_refl _) _⟩)
  go_enter Tryz.func18, Tryz.ntmps18
  go_wp2
  go_ret
  exact HE.out
theorem ripe_is {x : R2} {c : Int} {v : Bool} (h0 : 0 ≤ c) (h1 : c < 18446744073709551616) (h : ripeB c x = v) (w : World) : Calls Tryz.prog 86 #[.agg #[.int .u64 x.1, .int .u64 x.2], .int .u64 c] w fun e w' => e = .returned (.bool v) ∧ Below w.heap.size w w' := by
  obtain ⟨r, e⟩ := x
  have hw : ∀ t, Below w.heap.size w (w.alloc (.cells #[.int .u64 r, .int .u64 e] t)) := fun t => (Below.refl _ _).alloc (Nat.le_refl _) _
  have HW := Lib.hid hw
  clear hw
  have HB := Lib.hid h1
  clear h1
  simp only
  by_cases h2 : 2 ≤ c
  · have hwr : IntKind.u64.wrap (c - 2) = c - 2 := IntWalk.u64_in _ ⟨by omega, by have := HB.out; omega⟩
    have hd : decide (2 ≤ c) = true := by simpa using h2
    by_cases h3 : e ≤ c - 2
    · obtain rfl : v = true := by rw [← h]; exact ripe_yes h2 h3
      clear h
      have hd3 : decide (e ≤ c - 2) = true := by simpa using h3
      go_enter Tryz.func86, Tryz.ntmps86
      go_wp2
      go_ret
      exact ⟨rfl, HW.out _⟩
    · obtain rfl : v = false := by rw [← h]; simp [ripeB, h3]
      clear h
      have hd3 : decide (e ≤ c - 2) = false := by simpa using h3
      go_enter Tryz.func86, Tryz.ntmps86
      go_wp2
      go_ret
      exact ⟨rfl, HW.out _⟩
  · obtain rfl : v = false := by rw [← h]; simp [ripeB, h2]
    clear h
    have hd : decide (2 ≤ c) = false := by simpa using h2
    go_enter Tryz.func86, Tryz.ntmps86
    go_wp2
    go_ret
    exact ⟨rfl, HW.out _⟩
theorem Ripe_is {x : R2} {c : Int} {v : Bool} (h0 : 0 ≤ c) (h1 : c < 18446744073709551616) (h : ripeB c x = v) (w : World) : Calls Tryz.prog 51 #[.agg #[.int .u64 x.1, .int .u64 x.2], .int .u64 c] w fun e w' => e = .returned (.bool v) ∧ Below w.heap.size w w' := by
  obtain ⟨r, e⟩ := x
  have hw : ∀ t, Below w.heap.size w (w.alloc (.cells #[.int .u64 r, .int .u64 e] t)) := fun t => (Below.refl _ _).alloc (Nat.le_refl _) _
  have HW := Lib.hid hw
  clear hw
  have HB := Lib.hid h1
  clear h1
  simp only
  by_cases h2 : 2 ≤ c
  · have hwr : IntKind.u64.wrap (c - 2) = c - 2 := IntWalk.u64_in _ ⟨by omega, by have := HB.out; omega⟩
    have hd : decide (2 ≤ c) = true := by simpa using h2
    by_cases h3 : e ≤ c - 2
    · obtain rfl : v = true := by rw [← h]; exact ripe_yes h2 h3
      clear h
      have hd3 : decide (e ≤ c - 2) = true := by simpa using h3
      go_enter Tryz.func51, Tryz.ntmps51
      go_wp2
      go_ret
      exact ⟨rfl, HW.out _⟩
    · obtain rfl : v = false := by rw [← h]; simp [ripeB, h3]
      clear h
      have hd3 : decide (e ≤ c - 2) = false := by simpa using h3
      go_enter Tryz.func51, Tryz.ntmps51
      go_wp2
      go_ret
      exact ⟨rfl, HW.out _⟩
  · obtain rfl : v = false := by rw [← h]; simp [ripeB, h2]
    clear h
    have hd : decide (2 ≤ c) = false := by simpa using h2
    go_enter Tryz.func51, Tryz.ntmps51
    go_wp2
    go_ret
    exact ⟨rfl, HW.out _⟩

/-- A limbo that has turned: all its blocks are those that it had, or new ones. -/
def Turns (w : World) (p : Nat) (S : Nat → Prop) (L : Ls) (e : Ending) (w' : World) : Prop := ∃ S', e = .returned (.tuple #[]) ∧ Lim w' p S' L ∧ (∀ k, S' k → S k ∨ w.heap.size ≤ k) ∧ Only S w w'

theorem Add_nil (r e : Int) (w : World) : Calls Tryz.prog 19 #[.pointer none, .int .u64 r, .int .u64 e] w fun e w' => e = .returned (.tuple #[]) ∧ w = w' := by
  go_enter Tryz.func19, Tryz.ntmps19
  go_wp2
  exact bodyPost_ret (v := .tuple #[]) (results_none rfl _ _ _) rfl ⟨rfl, rfl⟩
/-- Behind the append: the cell. -/
theorem add_box {w W0 w3 : World} {p i : Nat} {S : Nat → Prop} {L : Ls} {A : Nat → Option Addr} {c : Nat → Nat} (h : Parts w p S L A c) (hi : i < 3) (hB : Below w.heap.size w W0) (hg : W0.grownBy w3 (Value.slice (A i) (L i).length (c i)).ownBlock) :
    w3.cell? ⟨p, i, none⟩ = some (.slice (A i) (L i).length (c i)) ∧ w3.frozen? ⟨p, i, none⟩ = false := by
  have hp : (Value.slice (A i) (L i).length (c i)).ownBlock ≠ some p := fun e => by
    obtain ⟨y, hy, hyp⟩ := own_block e
    exact (h.at_ i y hi hy).2 hyp
  have hb := (only_grown hg (R := fun k => (Value.slice (A i) (L i).length (c i)).ownBlock = some k) (fun k e => e)).heap ((only_below (fun _ => False) hB).heap h.box id) hp
  refine ⟨?_, (cell_heap hb i).2⟩
  rw [(cell_heap hb i).1, ← (cell_heap h.box i).1]
  exact (h.cell hi).1
/-- Behind the append: the struct. -/
theorem add_end {w W0 w3 : World} {p i cap g2 : Nat} {S : Nat → Prop} {L : Ls} {A : Nat → Option Addr} {c : Nat → Nat} {x : R2} (h : Parts w p S L A c) (hi : i < 3) (he : x.2 % 3 = (i : Int)) (hB : Below w.heap.size w W0) (hg : W0.grownBy w3 (Value.slice (A i) (L i).length (c i)).ownBlock)
    (ho : w3.ownsRow 0 63 2 (.slice (some ⟨g2, 0, none⟩) ((L i).length + 1) cap) ((L i).length + 1) (flat encR (L i) ++ encR x)) (hor : (Value.slice (A i) (L i).length (c i)).ownBlock = some g2 ∨ g2 = W0.heap.size) (hlt : g2 < w3.heap.size) :
    Turns w p S (addL L x) (.returned (.tuple #[])) (w3.setCell ⟨p, i, none⟩ (.slice (some ⟨g2, 0, none⟩) ((L i).length + 1) cap)) := by
  have hs := hB.size
  have hR : Only (fun k => (Value.slice (A i) (L i).length (c i)).ownBlock = some k) w w3 := (only_below _ hB).trans (only_grown hg (fun k e => e))
  have hl : (L i ++ [x]).length = (L i).length + 1 := by simp
  have hput := h.put (R := fun k => (Value.slice (A i) (L i).length (c i)).ownBlock = some k) hi (w3 := w3) (B := some ⟨g2, 0, none⟩) (cB := cap) (l := L i ++ [x]) hR (fun k e => .inr (own_block e))
    (by rw [hl, flat_append, flat_one]; exact ho) (fun y hy => by
      cases hy
      refine ⟨hlt, ?_⟩
      rcases hor with e | e
      · exact .inr (own_block e)
      · exact .inl fun e2 => by
          have h1 : g2 < w.heap.size := h.lt _ e2
          omega)
  rw [hl, ← addL_is L he] at hput
  refine ⟨_, rfl, hput, fun k hk => ?_, ?_⟩
  · rcases hk with hk | ⟨y, hy, rfl⟩
    · exact .inl hk
    · cases hy
      rcases hor with e | e
      · obtain ⟨y, hy, hyg⟩ := own_block e
        exact .inl (hyg ▸ (h.at_ i y hi hy).1)
      · exact .inr (by show w.heap.size ≤ g2; omega)
  · refine (hR.wide (R' := S) fun k e => ?_).setCell (.inl h.mem) _
    obtain ⟨y, hy, rfl⟩ := own_block e
    exact .inl (h.at_ i y hi hy).1
set_option maxHeartbeats 1000000 in
theorem Add_any {p : Nat} {S : Nat → Prop} {L : Ls} {w : World} (hL : Lim w p S L) (hm : lenL L ≤ 1000000) {r e : Int} (h0 : 0 ≤ e) : Calls Tryz.prog 19 #[.pointer (some ⟨p, 0, none⟩), .int .u64 r, .int .u64 e] w (Turns w p S (addL L (r, e))) := by
  obtain ⟨A, c, hP⟩ := hL
  obtain ⟨i, hi, he⟩ := rest_of e
  obtain ⟨n, hn⟩ : ∃ n, n = (L i).length := ⟨_, rfl⟩
  have hnm := lenL_le L hi
  rw [← hn] at hnm
  obtain ⟨ci, fi⟩ := hP.cell hi
  have ho := hP.own i hi
  rw [← hn] at ci ho
  have HEND := Lib.hid fun W0 w3 g2 cap => add_end (x := (r, e)) (W0 := W0) (w3 := w3) (g2 := g2) (cap := cap) hP hi he
  rw [← hn] at HEND
  have HC := Lib.hid fun W0 w3 => add_box (W0 := W0) (w3 := w3) hP hi
  rw [← hn] at HC
  have hi3 : (i : Int) < 3 := by omega
  have B1 := (Below.refl w.heap.size w).alloc (Nat.le_refl _) (.cells #[.int .u64 r, .int .u64 e] 63)
  have k1 := cell_later B1 ci
  have HF := Lib.hid ho
  have HE := Lib.hid he
  obtain ⟨i0, hi0, hz0, hz1, hz2⟩ := info_parts info_R
  clear hP ho hn he B1
  go_enter Tryz.func19, Tryz.ntmps19
  go_wp2
  rw [HE.out]
  go_region_law (refine step_append_lies _ rfl (.tmp 18) (.tmp 22) 25 rfl 0 63 i0 _ 2 16 Tryz.underlying25 hi0 hz0 hz1 hz2 rfl (by decide) _ n _ rfl (own_later HF.out (((Below.refl _ _).alloc (Nat.le_refl _) _).drew)) ⟨w.heap.size, 0, none⟩ 1 1 (encR (r, e)) rfl rfl (cells_new _ _ _) (encR_one _) (by decide) (by simp only [maxLen]; omega) (by omega) (Nat.zero_le _) _ rfl ?_; intro g2 cap w3 ho2 hg2 hor2 hlt2; have hb0 := (((Below.refl w.heap.size w).alloc (Nat.le_refl _) (.cells #[.int .u64 r, .int .u64 e] 63)).drew); obtain ⟨k2, k3⟩ := HC.out _ _ hb0 hg2; have HEN := Lib.hid (HEND.out _ _ _ _ hb0 hg2 ho2 hor2 hlt2); clear hb0 ho2 hg2 hor2)
  all_goals (refine bodyPost_end (results_none rfl _ _ _) rfl ?_; exact HEN.out)

/-- The array of the three slices, loaded: its k-th one. -/
theorem idx3 (A : Nat → Option Addr) (n c : Nat → Nat) {k : Nat} (hk : k < 3) (W : World) : (Instr.index 76 (.agg #[.slice (A 0) (n 0) (c 0), .slice (A 1) (n 1) (c 1), .slice (A 2) (n 2) (c 2)]) (.int .i64 (k : Int))).run Tryz.prog W = .ok (.slice (A k) (n k) (c k)) W := by
  obtain rfl | rfl | rfl : k = 0 ∨ k = 1 ∨ k = 2 := by omega
  all_goals kernel_rfl
theorem Len_nil (w : World) : Calls Tryz.prog 23 #[.pointer none] w fun e w' => e = .returned (.int .i64 0) ∧ w = w' := by
  go_enter Tryz.func23, Tryz.ntmps23
  go_wp2
  go_ret
  exact ⟨rfl, rfl⟩
theorem Len_any {p m : Nat} {S : Nat → Prop} {L : Ls} {w : World} (hL : Lim w p S L) (hm : lenL L = m) (hmm : m ≤ 1000000) : Calls Tryz.prog 23 #[.pointer (some ⟨p, 0, none⟩)] w fun e w' => e = .returned (.int .i64 m) ∧ w = w' := by
  obtain ⟨A, c, hP⟩ := hL
  obtain ⟨N, hN⟩ : ∃ N : Nat → Nat, N = fun i => (L i).length := ⟨_, rfl⟩
  have c0 := (hP.cell (i := 0) (by omega)).1
  have c1 := (hP.cell (i := 1) (by omega)).1
  have c2 := (hP.cell (i := 2) (by omega)).1
  have e0 : (L 0).length = N 0 := by rw [hN]
  have e1 : (L 1).length = N 1 := by rw [hN]
  have e2 : (L 2).length = N 2 := by rw [hN]
  rw [e0] at c0
  rw [e1] at c1
  rw [e2] at c2
  have HI := Lib.hid fun k (hk : k < 3) => idx3 A N c hk
  have HU := Lib.hid (show ∀ k, (upL L (k + 1)).length = (upL L k).length + N k from fun k => by simp [upL, hN])
  have HL := Lib.hid fun k (hk : k ≤ 3) => upL_len L hk
  have H3 := Lib.hid (show (upL L 3).length = m by rw [upL_3, lenL_all, hm])
  have HM := Lib.hid hm
  clear hP hN e0 e1 e2 hm
  go_enter Tryz.func23, Tryz.ntmps23
  go_wp2
  go_loopw [3, 12] (fun v i wr => ∃ k : Nat, k ≤ 3 ∧ i = .int .i64 k ∧ v = .int .i64 ((upL L k).length : Nat) ∧ w = wr) (fun _ i _ => 3 - (intOf i).toNat)
  case atStart => exact ⟨0, Nat.zero_le _, rfl, rfl, rfl⟩
  case round =>
    obtain ⟨k, hk, rfl, rfl, rfl⟩ := hrel
    by_cases hlt : k < 3
    · have hix := HI.out k hlt
      have hu := HU.out k
      have hl := HL.out (k + 1) (by omega)
      obtain ⟨a, ha⟩ : ∃ a, (upL L k).length = a := ⟨_, rfl⟩
      have h1 : a + N k ≤ 1000000 := by have := HM.out; omega
      have HA := Lib.hid ha
      have HUU := Lib.hid hu
      rw [ha]
      clear hu hl ha
      go_wp2
      go_roundw
      case rel => exact ⟨k + 1, by omega, by go_num, by rw [HUU.out, HA.out]; go_num, trivial⟩
      case measure => simp [intOf]; omega
    · obtain rfl : k = 3 := by omega
      rw [H3.out]
      go_wp2
      go_ret
      exact ⟨rfl, rfl⟩

/-- A list of slots in new memory. -/
def Listed (w : World) (l : List R2) (e : Ending) (w' : World) : Prop := ∃ (A' : Option Addr) (n c' : Nat), e = .returned (.slice A' n c') ∧ n = l.length ∧ n ≤ c' ∧ Row w' w'.heap.size A' (flat encR l) ∧ (∀ a, A' = some a → w.heap.size ≤ a.block ∧ a.block < w'.heap.size) ∧ Below w.heap.size w w'
theorem cap_of_own {w : World} {base : Nat} {e : TypeId} {size n c : Nat} {A : Option Addr} {xs : List Value} (h : w.ownsRow base e size (.slice A n c) n xs) : n ≤ c := by
  obtain ⟨A', c', e, hc⟩ := slice_of_own h
  cases e
  exact hc
theorem new_of_own {w w' : World} {e : TypeId} {size n c : Nat} {A : Option Addr} {xs : List Value} (h : w'.ownsRow w.heap.size e size (.slice A n c) n xs) : ∀ a, A = some a → w.heap.size ≤ a.block ∧ a.block < w'.heap.size := by
  intro a ha
  subst ha
  exact h.lt a.block rfl
theorem listed_of {w w' : World} {n c : Nat} {A : Option Addr} {l : List R2} (h : w'.ownsRow w.heap.size 63 2 (.slice A n c) n (flat encR l)) (hb : Below w.heap.size w w') : Listed w l (.returned (.slice A n c)) w' :=
  ⟨A, n, c, rfl, by have := h.1; rw [flat_length encR_length] at this; omega, cap_of_own h, Row.of_own h, new_of_own h, hb⟩
theorem All_nil (w : World) : Calls Tryz.prog 15 #[.pointer none] w fun e w' => e = .returned (.slice none 0 0) ∧ w = w' := by
  go_enter Tryz.func15, Tryz.ntmps15
  go_wp2
  go_ret
  exact ⟨rfl, rfl⟩
set_option maxHeartbeats 1000000 in
theorem All_any {p : Nat} {S : Nat → Prop} {L : Ls} {w : World} (hL : Lim w p S L) (hm : lenL L ≤ 1000000) : Calls Tryz.prog 15 #[.pointer (some ⟨p, 0, none⟩)] w (Listed w (allL L)) := by
  obtain ⟨A, c, hP⟩ := hL
  obtain ⟨N, hN⟩ : ∃ N : Nat → Nat, N = fun i => (L i).length := ⟨_, rfl⟩
  have c0 := (hP.cell (i := 0) (by omega)).1
  have c1 := (hP.cell (i := 1) (by omega)).1
  have c2 := (hP.cell (i := 2) (by omega)).1
  have e0 : (L 0).length = N 0 := by rw [hN]
  have e1 : (L 1).length = N 1 := by rw [hN]
  have e2 : (L 2).length = N 2 := by rw [hN]
  rw [e0] at c0
  rw [e1] at c1
  rw [e2] at c2
  have HI := Lib.hid fun k (hk : k < 3) => idx3 A N c hk
  have HR := Lib.hid (show ∀ k, k < 3 → Row w w.heap.size (A k) (flat encR (L k)) from fun k hk => Row.of_own (hP.own k hk))
  have HU := Lib.hid (show ∀ k, (upL L (k + 1)).length = (upL L k).length + N k from fun k => by simp [upL, hN])
  have HN := Lib.hid (show ∀ k, (flat encR (L k)).length = N k * 2 from fun k => by rw [flat_length encR_length, hN])
  have HL := Lib.hid fun k (hk : k ≤ 3) => upL_len L hk
  have HM := Lib.hid hm
  obtain ⟨i0, hi0, hz0, hz1, hz2⟩ := info_parts info_R
  clear hP hN e0 e1 e2 hm
  go_enter Tryz.func15, Tryz.ntmps15
  go_wp2
  go_loopw [3, 12] (fun v i wr => ∃ (k a fc : Nat) (F : Option Addr), k ≤ 3 ∧ i = .int .i64 k ∧ v = .slice F a fc ∧ (upL L k).length = a ∧ wr.ownsRow w.heap.size 63 2 (.slice F a fc) a (flat encR (upL L k)) ∧ Below w.heap.size w wr) (fun _ i _ => 3 - (intOf i).toNat)
  case atStart => exact ⟨0, 0, 0, none, Nat.zero_le _, rfl, rfl, rfl, World.ownsRow_nil _ _ _ _, Below.refl _ _⟩
  case round =>
    obtain ⟨k, a, fc, F, hk, rfl, rfl, ha, ho, hb⟩ := hrel
    have HA := Lib.hid ha
    have HO := Lib.hid ho
    have HB := Lib.hid hb
    clear ha ho hb
    by_cases hlt : k < 3
    · have hix := HI.out k hlt
      have h1 : a + N k ≤ 1000000 := by
        have := HL.out (k + 1) (by omega)
        rw [HU.out k, HA.out] at this
        have := HM.out
        omega
      have HUP := Lib.hid (show flat encR (upL L (k + 1)) = flat encR (upL L k) ++ flat encR (L k) by rw [← flat_append]; rfl)
      have HLP := Lib.hid (show (upL L (k + 1)).length = a + N k by rw [HU.out, HA.out])
      go_wp2_with (at_builtin; refine wpList_append_row _ w rfl (.tmp 15) (.tmp 16) 25 rfl w.heap.size 63 i0 _ 2 16 Tryz.underlying25 hi0 hz0 hz1 hz2 rfl (by decide) _ a _ rfl HO.out (A k) (N k) (c k) w.heap.size (flat encR (L k)) rfl (HN.out k) ((HR.out k hlt).below HB.out) (flat_oneCell encR_one _) (by simp only [maxLen]; omega) (by omega) HB.out.size HB.out ?_; intro A1 c1 w1 hown1 hb1; have HO1 := Lib.hid hown1; have HB1 := Lib.hid hb1; clear hown1 hb1)
      go_roundw
      case rel => exact ⟨k + 1, a + N k, c1, A1, by omega, by go_num, rfl, HLP.out, by rw [HUP.out]; exact HO1.out, HB1.out⟩
      case measure => simp [intOf]; omega
    · obtain rfl : k = 3 := by omega
      have HE := Lib.hid (listed_of HO.out HB.out)
      rw [upL_3] at HE
      go_wp2
      go_ret
      exact HE.out


end Go.Proofs.YtafjokjmogadnaaGreatDoor.Limbo

/- Package limbo's Ripe (layer 15): what is ripe is told, in a new list; what stays, stays in order; all else in memory stays as it was. -/
namespace Go.Proofs.YtafjokjmogadnaaGreatDoor.Limbo
set_option maxRecDepth 20000
open Go.ChangeShapes Go.WideShapes Go.RowKit LM Lay
set_option linter.unusedVariables false
set_option linter.unusedSimpArgs false

theorem Ripe_nil (c : Int) (w : World) : Calls Tryz.prog 46 #[.pointer none, .int .u64 c] w fun e w' => e = .returned (.slice none 0 0) ∧ w = w' := by
  go_enter Tryz.func46, Tryz.ntmps46
  go_wp2
  go_ret
  exact ⟨rfl, rfl⟩
/-- What Ripe ends in: what is ripe, in a list in new memory; the limbo has the others. -/
def Ripens (w : World) (p : Nat) (S : Nat → Prop) (L : Ls) (c : Int) (e : Ending) (w' : World) : Prop :=
  ∃ (A' : Option Addr) (n c' : Nat) (S' : Nat → Prop), e = .returned (.slice A' n c') ∧ n = ((allL L).filter (ripeB c)).length ∧ Row w' w'.heap.size A' (flat encR ((allL L).filter (ripeB c))) ∧ (∀ a, A' = some a → w.heap.size ≤ a.block ∧ a.block < w'.heap.size) ∧
    Lim w' p S' (amidL L c 3) ∧ (∀ k, S' k → S k ∨ w.heap.size ≤ k) ∧ Only S w w'
/-- .. and more of that list: its room; it is none of the limbo's. -/
def Ripens2 (w : World) (p : Nat) (S : Nat → Prop) (L : Ls) (c : Int) (e : Ending) (w' : World) : Prop :=
  ∃ (A' : Option Addr) (n c' : Nat) (S' : Nat → Prop), e = .returned (.slice A' n c') ∧ n = ((allL L).filter (ripeB c)).length ∧ Row w' w'.heap.size A' (flat encR ((allL L).filter (ripeB c))) ∧ (∀ a, A' = some a → w.heap.size ≤ a.block ∧ a.block < w'.heap.size) ∧
    Lim w' p S' (amidL L c 3) ∧ (∀ k, S' k → S k ∨ w.heap.size ≤ k) ∧ Only S w w' ∧ n ≤ c' ∧ ∀ a, A' = some a → ¬ S' a.block
/-- Ripe under way: the limbo as it is, what is told, what stays of the list that is looked at. -/
structure Sorts (w : World) (p : Nat) (S : Nat → Prop) (L' : Ls) (F : Option Addr) (a fc : Nat) (out : List R2) (G : Option Addr) (b gc : Nat) (stay : List R2) (wr : World) : Prop where
  lim : ∃ S', Lim wr p S' L' ∧ (∀ k, S' k → S k ∨ w.heap.size ≤ k) ∧ (∀ x, F = some x → ¬ S' x.block) ∧ (∀ x, G = some x → ¬ S' x.block)
  out : wr.ownsRow w.heap.size 63 2 (.slice F a fc) a (flat encR out)
  stay : wr.ownsRow w.heap.size 63 2 (.slice G b gc) b (flat encR stay)
  apart : ∀ x y, F = some x → G = some y → x.block ≠ y.block
  only : Only S w wr
  row : Only (fun k => k = p) w wr
section
variable {w wr w1 : World} {p : Nat} {S : Nat → Prop} {L' : Ls} {F G : Option Addr} {a fc b gc : Nat} {out stay : List R2}
theorem Sorts.next (h : Sorts w p S L' F a fc out G b gc stay wr) (hb : Below wr.heap.size wr w1) : Sorts w p S L' F a fc out G b gc stay w1 := by
  obtain ⟨⟨S', h1, h2, h3, h4⟩, h5, h6, h7, h8, h9⟩ := h
  exact ⟨⟨S', h1.later hb, h2, h3, h4⟩, own_later h5 hb, own_later h6 hb, h7, h8.then_below hb, h9.then_below hb⟩
/-- One more is told. -/
theorem Sorts.tell (h : Sorts w p S L' F a fc out G b gc stay wr) {g2 cap : Nat} {x : R2} (ho : w1.ownsRow w.heap.size 63 2 (.slice (some ⟨g2, 0, none⟩) (a + 1) cap) (a + 1) (flat encR out ++ encR x))
    (hor : (Value.slice F a fc).ownBlock = some g2 ∨ g2 = wr.heap.size) (hon : Only (fun k => (Value.slice F a fc).ownBlock = some k) wr w1) : Sorts w p S L' (some ⟨g2, 0, none⟩) (a + 1) cap (out ++ [x]) G b gc stay w1 := by
  obtain ⟨⟨S', h1, h2, h3, h4⟩, h5, h6, h7, h8, h9⟩ := h
  have hs := h8.size
  have hF : ∀ k, (Value.slice F a fc).ownBlock = some k → ¬ S' k ∧ w.heap.size ≤ k ∧ (∀ y, G = some y → k ≠ y.block) := fun k hk => by
    have h10 := (h5.lt k hk).1
    obtain ⟨y, hy, rfl⟩ := own_block hk
    exact ⟨h3 y hy, h10, fun z hz => h7 y z hy hz⟩
  have hnew : ¬ S' g2 ∧ (∀ y, G = some y → g2 ≠ y.block) := by
    rcases hor with e | e
    · exact ⟨(hF _ e).1, (hF _ e).2.2⟩
    · refine ⟨fun e2 => by have := h1.lt _ e2; omega, fun y hy e2 => ?_⟩
      subst hy
      have := (h6.lt y.block rfl).2
      omega
  exact ⟨⟨S', h1.only hon (fun k hk => (hF k hk).1), h2, fun y hy => by cases hy; exact hnew.1, h4⟩, by rw [flat_append, flat_one]; exact ho, hon.own h6 (fun k hk e => by
    obtain ⟨y, hy, rfl⟩ := own_block hk
    exact (hF _ e).2.2 y hy rfl), fun y z hy hz => by cases hy; exact hnew.2 z hz, h8.more hon (fun i hi => .inr (hF i hi).2.1), h9.more hon (fun i hi => .inr (hF i hi).2.1)⟩
/-- One more stays. -/
theorem Sorts.keep (h : Sorts w p S L' F a fc out G b gc stay wr) {g2 cap : Nat} {x : R2} (ho : w1.ownsRow w.heap.size 63 2 (.slice (some ⟨g2, 0, none⟩) (b + 1) cap) (b + 1) (flat encR stay ++ encR x))
    (hor : (Value.slice G b gc).ownBlock = some g2 ∨ g2 = wr.heap.size) (hon : Only (fun k => (Value.slice G b gc).ownBlock = some k) wr w1) : Sorts w p S L' F a fc out (some ⟨g2, 0, none⟩) (b + 1) cap (stay ++ [x]) w1 := by
  obtain ⟨⟨S', h1, h2, h3, h4⟩, h5, h6, h7, h8, h9⟩ := h
  have hs := h8.size
  have hG : ∀ k, (Value.slice G b gc).ownBlock = some k → ¬ S' k ∧ w.heap.size ≤ k ∧ (∀ y, F = some y → y.block ≠ k) := fun k hk => by
    have h10 := (h6.lt k hk).1
    obtain ⟨y, hy, rfl⟩ := own_block hk
    exact ⟨h4 y hy, h10, fun z hz => h7 z y hz hy⟩
  have hnew : ¬ S' g2 ∧ (∀ y, F = some y → y.block ≠ g2) := by
    rcases hor with e | e
    · exact ⟨(hG _ e).1, (hG _ e).2.2⟩
    · refine ⟨fun e2 => by have := h1.lt _ e2; omega, fun y hy e2 => ?_⟩
      subst hy
      have := (h5.lt y.block rfl).2
      omega
  exact ⟨⟨S', h1.only hon (fun k hk => (hG k hk).1), h2, h3, fun y hy => by cases hy; exact hnew.1⟩, hon.own h5 (fun k hk e => by
    obtain ⟨y, hy, rfl⟩ := own_block hk
    exact (hG _ e).2.2 y hy rfl), by rw [flat_append, flat_one]; exact ho, fun y z hy hz => by cases hz; exact hnew.2 y hy, h8.more hon (fun i hi => .inr (hG i hi).2.1), h9.more hon (fun i hi => .inr (hG i hi).2.1)⟩
/-- What stays is the limbo's k-th row now; the next list begins with none. -/
theorem Sorts.store {k : Nat} (h : Sorts w p S L' F a fc out G b gc stay wr) (hk : k < 3) (hb : b = stay.length) (hp : w.heap.size ≤ p → False) : Sorts w p S (putL L' k stay) F a fc out none 0 0 [] (wr.setCell ⟨p, k, none⟩ (.slice G b gc)) := by
  obtain ⟨⟨S', ⟨A, c, h1⟩, h2, h3, h4⟩, h5, h6, h7, h8, h9⟩ := h
  subst hb
  have hs := h8.size
  have hput := h1.put (R := fun _ => False) hk (Only.refl _ wr) (fun k e => e.elim) (own_base h6 (Nat.zero_le _)) (fun x hx => ⟨by subst hx; exact (h6.lt x.block rfl).2, .inl (h4 x hx)⟩)
  have hSp : S p := (h2 p h1.mem).elim id (fun e => (hp e).elim)
  refine ⟨⟨_, hput, fun i hi => ?_, fun x hx hi => ?_, fun x hx => by cases hx⟩, (only_setCell (R := fun k => k = p) wr rfl _).own h5 (fun k hk e => ?_), World.ownsRow_nil _ _ _ _, (fun x y _ hy => by cases hy), h8.setCell (.inl hSp) _, h9.setCell (.inl rfl) _⟩
  · rcases hi with hi | ⟨x, hx, rfl⟩
    · exact h2 i hi
    · subst hx
      exact .inr (h6.lt x.block rfl).1
  · rcases hi with hi | ⟨y, hy, hyx⟩
    · exact h3 x hx hi
    · exact h7 x y hx hy hyx.symm
  · obtain ⟨y, hy, rfl⟩ := own_block hk
    exact h3 y hy (e ▸ h1.mem)
theorem Sorts.cell {k : Nat} (h : Sorts w p S L' F a fc out G b gc stay wr) (hk : k < 3) : (∃ v, wr.cell? ⟨p, k, none⟩ = some v) ∧ wr.frozen? ⟨p, k, none⟩ = false := by
  obtain ⟨⟨S', ⟨A, c, h1⟩, h2, h3, h4⟩, h5, h6, h7, h8, h9⟩ := h
  exact ⟨⟨_, (h1.cell hk).1⟩, (h1.cell hk).2⟩
end
set_option maxHeartbeats 2000000 in
theorem Ripe_more {p : Nat} {S : Nat → Prop} {L : Ls} {w : World} (hL : Lim w p S L) (hm : lenL L ≤ 1000000) {c : Int} (h0 : 0 ≤ c) (h1 : c < 18446744073709551616) : Calls Tryz.prog 46 #[.pointer (some ⟨p, 0, none⟩), .int .u64 c] w (Ripens2 w p S L c) := by
  have HS0 := Lib.hid (show Sorts w p S L none 0 0 [] none 0 0 [] w from ⟨⟨S, hL, fun k e => .inl e, (fun x e => by cases e), (fun x e => by cases e)⟩, World.ownsRow_nil _ _ _ _, World.ownsRow_nil _ _ _ _, (fun x y e => by cases e), Only.refl _ _, Only.refl _ _⟩)
  have HP := Lib.hid (show w.heap.size ≤ p → False from fun e => by have := hL.lt _ hL.mem; omega)
  obtain ⟨A, cc, hP⟩ := hL
  obtain ⟨N, hN⟩ : ∃ N : Nat → Nat, N = fun i => (L i).length := ⟨_, rfl⟩
  have c0 := (hP.cell (i := 0) (by omega)).1
  have c1 := (hP.cell (i := 1) (by omega)).1
  have c2 := (hP.cell (i := 2) (by omega)).1
  have e0 : (L 0).length = N 0 := by rw [hN]
  have e1 : (L 1).length = N 1 := by rw [hN]
  have e2 : (L 2).length = N 2 := by rw [hN]
  rw [e0] at c0
  rw [e1] at c1
  rw [e2] at c2
  have HI := Lib.hid fun k (hk : k < 3) => idx3 A N cc hk
  have HR := Lib.hid (show ∀ k, k < 3 → Row w w.heap.size (A k) (flat encR (L k)) ∧ ∀ x, A k = some x → ¬ x.block = p from fun k hk => ⟨Row.of_own (hP.own k hk), fun x hx => (hP.at_ k x hk hx).2⟩)
  have HN := Lib.hid (show ∀ k, N k = (L k).length from fun k => by rw [hN])
  have HL := Lib.hid (show ∀ k, k < 3 → (upL L k).length + N k ≤ 1000000 from fun k hk => by
    have := upL_len L (k := k + 1) (by omega)
    simp [upL] at this
    rw [hN]
    show _ + (L k).length ≤ _
    omega)
  have HC0 := Lib.hid h0
  have HC1 := Lib.hid h1
  obtain ⟨i0, hi0, hz0, hz1, hz2⟩ := info_parts info_R
  clear hP hN e0 e1 e2 hm h0 h1
  go_enter Tryz.func46, Tryz.ntmps46
  go_wp2
  go_loopw [5, 17] (fun v i wr => ∃ (k a fc : Nat) (F : Option Addr), k ≤ 3 ∧ i = .int .i64 k ∧ v = .slice F a fc ∧ a ≤ (upL L k).length ∧ Sorts w p S (amidL L c k) F a fc (outL L c k) none 0 0 [] wr) (fun _ i _ => 3 - (intOf i).toNat)
  case atStart => exact ⟨0, 0, 0, none, Nat.zero_le _, rfl, rfl, Nat.zero_le _, by rw [amidL_0]; exact HS0.out⟩
  case round =>
    obtain ⟨k, a, fc, F, hk, rfl, rfl, ha, hs⟩ := hrel
    have HS := Lib.hid hs
    clear hs
    by_cases hlt : k < 3
    · have hix := HI.out k hlt
      have hnk := HL.out k hlt
      have hk0 : (0 : Int) ≤ (k : Int) := by omega
      have hk3 : (k : Int) < 3 := by omega
      obtain ⟨m, hmk⟩ : ∃ m, N k = m := ⟨_, rfl⟩
      have HMK := Lib.hid hmk
      rw [hmk] at hix hnk
      clear hmk
      go_wp2
      go_loopw [5, 8, 23] (fun v s j wi => ∃ (i a2 f2 b g : Nat) (F2 G : Option Addr), i ≤ m ∧ j = .int .i64 i ∧ v = .slice F2 a2 f2 ∧ s = .slice G b g ∧ a2 ≤ a + i ∧ b ≤ i ∧ b = (((L k).take i).filter (fun x => !ripeB c x)).length ∧ Sorts w p S (amidL L c k) F2 a2 f2 (outL L c k ++ ((L k).take i).filter (ripeB c)) G b g (((L k).take i).filter (fun x => !ripeB c x)) wi) (fun _ _ j _ => m - (intOf j).toNat)
      case atStart => exact ⟨0, a, fc, 0, 0, F, none, Nat.zero_le _, rfl, rfl, rfl, Nat.le_refl _, Nat.le_refl _, rfl, by simpa using HS.out⟩
      case round =>
        obtain ⟨i, a2, f2, b, g, F2, G, hi, rfl, rfl, rfl, ha2, hb2, hbl, hs2⟩ := hrel
        have HS2 := Lib.hid hs2
        have HBL := Lib.hid hbl
        clear hs2 hbl
        by_cases hil : i < m
        · obtain ⟨x, hx⟩ : ∃ x, (L k)[i]? = some x := ⟨_, List.getElem?_eq_getElem (by rw [← HN.out, HMK.out]; exact hil)⟩
          obtain ⟨b1, o1, hA1, hlt1, hc1⟩ := Open.two_at (HS2.out.row.row (HR.out k hlt).1 (fun _ => (HR.out k hlt).2)) (i := i) (by rw [← HN.out, HMK.out]; exact hil)
          obtain ⟨d0, d1⟩ := hc1 i x hx
          obtain ⟨r, e⟩ := x
          simp only at d0 d1
          rw [hA1] at hix ⊢
          have HX := Lib.hid hx
          have HA1 := Lib.hid hA1
          clear hc1 hx hix hA1
          have HB0 := Lib.hid ((Below.refl wr.heap.size wr).alloc (Nat.le_refl _) (.cells #[.int .u64 r, .int .u64 e] 63))
          rcases Bool.eq_false_or_eq_true (ripeB c (r, e)) with hr | hr
          · -- ripe
            have HRI := Lib.hid hr
            have HNR := Lib.hid (show (fun x => !ripeB c x) (r, e) = false by simp [hr])
            clear hr
            go_wp2_with fail
            refine (ripe_is HC0.out HC1.out HRI.out _).mono ?_
            rintro e1 w2 ⟨rfl, hb⟩
            have hbx := (hb.block wr.heap.size (by simp)).trans (new_heap wr _)
            have q0 := (cell_heap hbx 0).1
            have q1 := (cell_heap hbx 1).1
            simp at q0 q1
            have HS4 := Lib.hid ((HS2.out.next (HB0.out.trans (hb.mono HB0.out.size))).next ((Below.refl w2.heap.size w2).alloc (Nat.le_refl _) (.cells #[.int .u64 r, .int .u64 e] 63)))
            clear hb hbx
            go_wp2_with (at_builtin; refine wpList_append_only _ rfl (.tmp 30) (.tmp 32) 25 rfl w.heap.size 63 i0 _ 2 16 Tryz.underlying25 hi0 hz0 hz1 hz2 rfl (by decide) _ a2 _ rfl HS4.out.out ⟨w2.heap.size, 0, none⟩ 1 1 (encR (r, e)) rfl (by decide) rfl (cells_new _ _ _) (encR_one _) (by simp only [maxLen]; omega) (by omega) (by have := HS4.out.only.size; omega) ?_; intro g2 cap w4 ho4 hg4 hlt4 hor4 hon4; have HS5 := Lib.hid (HS4.out.tell ho4 hor4 hon4); clear ho4 hor4 hon4)
            go_roundw
            case rel => exact ⟨i + 1, a2 + 1, cap, b, g, some ⟨g2, 0, none⟩, G, by omega, by go_num, rfl, rfl, by omega, by omega, by rw [filter_no (p := fun x => !ripeB c x) HX.out HNR.out]; exact HBL.out, by rw [filter_no (p := fun x => !ripeB c x) HX.out HNR.out, filter_yes HX.out HRI.out, ← List.append_assoc]; exact HS5.out⟩
            case measure => simp [intOf]; omega
          · -- not yet
            have HRI := Lib.hid hr
            have HNR := Lib.hid (show (fun x => !ripeB c x) (r, e) = true by simp [hr])
            clear hr
            go_wp2_with fail
            refine (ripe_is HC0.out HC1.out HRI.out _).mono ?_
            rintro e1 w2 ⟨rfl, hb⟩
            have hbx := (hb.block wr.heap.size (by simp)).trans (new_heap wr _)
            have q0 := (cell_heap hbx 0).1
            have q1 := (cell_heap hbx 1).1
            simp at q0 q1
            have HS4 := Lib.hid ((HS2.out.next (HB0.out.trans (hb.mono HB0.out.size))).next ((Below.refl w2.heap.size w2).alloc (Nat.le_refl _) (.cells #[.int .u64 r, .int .u64 e] 63)))
            clear hb hbx
            go_wp2_with (at_builtin; refine wpList_append_only _ rfl (.tmp 34) (.tmp 36) 25 rfl w.heap.size 63 i0 _ 2 16 Tryz.underlying25 hi0 hz0 hz1 hz2 rfl (by decide) _ b _ rfl HS4.out.stay ⟨w2.heap.size, 0, none⟩ 1 1 (encR (r, e)) rfl (by decide) rfl (cells_new _ _ _) (encR_one _) (by simp only [maxLen]; omega) (by omega) (by have := HS4.out.only.size; omega) ?_; intro g2 cap w4 ho4 hg4 hlt4 hor4 hon4; have HS5 := Lib.hid (HS4.out.keep ho4 hor4 hon4); clear ho4 hor4 hon4)
            go_roundw
            case rel => exact ⟨i + 1, a2, f2, b + 1, cap, F2, some ⟨g2, 0, none⟩, by omega, by go_num, rfl, rfl, by omega, by omega, by rw [filter_yes (p := fun x => !ripeB c x) HX.out HNR.out, List.length_append, ← HBL.out]; rfl, by rw [filter_yes (p := fun x => !ripeB c x) HX.out HNR.out, filter_no HX.out HRI.out]; exact HS5.out⟩
            case measure => simp [intOf]; omega
        · obtain rfl : i = m := by omega
          have HE := Lib.hid (show Sorts w p S (amidL L c (k + 1)) F2 a2 f2 (outL L c (k + 1)) none 0 0 [] (wr.setCell ⟨p, k, none⟩ (.slice G b g)) from by
            have h := HS2.out.store hlt HBL.out HP.out
            rw [List.take_of_length_le (by rw [← HN.out, HMK.out]; exact Nat.le_refl _)] at h
            rw [amidL_succ, ← outL_succ] at h
            exact h)
          obtain ⟨⟨v0, g0⟩, g1⟩ := HS2.out.cell hlt
          have HUP := Lib.hid (show a2 ≤ (upL L (k + 1)).length by simp only [upL, List.length_append]; rw [← HN.out k, HMK.out]; omega)
          go_wp2
          go_roundw
          case rel => exact ⟨k + 1, a2, f2, F2, by omega, by go_num, rfl, HUP.out, HE.out⟩
          case measure => simp [intOf]; omega
    · obtain rfl : k = 3 := by omega
      have HE := Lib.hid (show Ripens2 w p S L c (.returned (.slice F a fc)) wr from by
        have h := HS.out
        rw [outL_3] at h
        obtain ⟨⟨S', h1, h2, h3, h4⟩, h5, h6, h7, h8, h9⟩ := h
        exact ⟨F, a, fc, S', rfl, by have := h5.1; rw [flat_length encR_length] at this; omega, Row.of_own h5, new_of_own h5, h1, h2, h8, cap_of_own h5, h3⟩)
      go_wp2
      go_ret
      exact HE.out
theorem Ripe_any {p : Nat} {S : Nat → Prop} {L : Ls} {w : World} (hL : Lim w p S L) (hm : lenL L ≤ 1000000) {c : Int} (h0 : 0 ≤ c) (h1 : c < 18446744073709551616) : Calls Tryz.prog 46 #[.pointer (some ⟨p, 0, none⟩), .int .u64 c] w (Ripens w p S L c) := by
  refine (Ripe_more hL hm h0 h1).mono ?_
  rintro e w' ⟨A, n, c', S', q1, q2, q3, q4, q5, q6, q7, -, -⟩
  exact ⟨A, n, c', S', q1, q2, q3, q4, q5, q6, q7⟩
end Go.Proofs.YtafjokjmogadnaaGreatDoor.Limbo
