/- Package limbo (layer 15), held to plain lists: three rows of slots in a block; what each call returns, what it leaves, and that all else in memory stays as it was. -/
import Derived.Test.YtlgoldakbnbbbaaRows
import Derived.Test.YtlgoldakbnbbbaaTwo
import Derived.Test.YtlgoldakbnbbbaaOnly
import Derived.Test.YtlgoldakbnbbbaaLimboMath
import Derived.Deep.AppendLies
import Derived.Deep.RegionLaw
import Derived.Lib.SliceRun
import Derived.Deep.RegionHeld3
namespace Go.Proofs.Ytlgoldakbnbbbaa.Limbo
set_option maxRecDepth 20000
open Go.ChangeShapes Go.WideShapes Go.RowKit LM Lay
set_option linter.unusedVariables false
set_option linter.unusedSimpArgs false

theorem mixed : Try.prog.follows .mixedOrders = true := by kernel_rfl
abbrev encR : R2 → List Value := Open.enc2 .u64 .u64
theorem encR_length (x : R2) : (encR x).length = 2 := rfl
theorem encR_one (x : R2) : ∀ v ∈ encR x, v.oneCell' = true := Open.enc2_one .u64 .u64 x
theorem info_R : (Try.prog.info? 29).map (fun i => (i.zero, i.size, i.bytes)) = some (some (.agg #[.int .u64 0, .int .u64 0]), 2, 16) := by kernel_rfl
theorem own_block {F : Option Addr} {a fc k : Nat} (h : (Value.slice F a fc).ownBlock = some k) : ∃ x, F = some x ∧ x.block = k := by
  cases F with
  | none => cases h
  | some x => exact ⟨x, rfl, by simpa [Value.ownBlock] using h⟩
theorem own_base {w : World} {b b' : Nat} {e : TypeId} {size n : Nat} {v : Value} {xs : List Value} (h : w.ownsRow b e size v n xs) (hb : b' ≤ b) : w.ownsRow b' e size v n xs := by
  refine ⟨h.1, ?_⟩
  rcases h.2 with hn | ⟨g, cap, cur, rfl, hg, rest⟩
  · exact .inl hn
  · exact .inr ⟨g, cap, cur, rfl, by omega, rest⟩

/-- The rows of a limbo in block p: the i-th in the block of A i; S are all its blocks. -/
structure Parts (w : World) (p : Nat) (S : Nat → Prop) (L : Ls) (A : Nat → Option Addr) (c : Nat → Nat) : Prop where
  box : w.heap[p]? = some (.cells #[.slice (A 0) (L 0).length (c 0), .slice (A 1) (L 1).length (c 1), .slice (A 2) (L 2).length (c 2)] 46 (0, 0))
  own : ∀ i, i < 3 → w.ownsRow 0 29 2 (.slice (A i) (L i).length (c i)) (L i).length (flat encR (L i))
  at_ : ∀ i x, i < 3 → A i = some x → S x.block ∧ x.block ≠ p
  apart : ∀ i j x y, i < 3 → j < 3 → i ≠ j → A i = some x → A j = some y → x.block ≠ y.block
  mem : S p
  lt : ∀ k, S k → k < w.heap.size
def Lim (w : World) (p : Nat) (S : Nat → Prop) (L : Ls) : Prop := ∃ A c, Parts w p S L A c

section
variable {w w' : World} {p : Nat} {S R : Nat → Prop} {L : Ls} {A : Nat → Option Addr} {c : Nat → Nat}
theorem Parts.only (h : Parts w p S L A c) (ho : Only R w w') (hR : ∀ k, R k → ¬ S k) : Parts w' p S L A c :=
  ⟨ho.heap h.box (fun e => hR p e h.mem), fun i hi => ho.own (h.own i hi) (fun k hk e => by
    obtain ⟨x, hx, rfl⟩ := own_block hk
    exact hR _ e (h.at_ i x hi hx).1), h.at_, h.apart, h.mem, fun k hk => Nat.lt_of_lt_of_le (h.lt k hk) ho.size⟩
theorem Lim.only (h : Lim w p S L) (ho : Only R w w') (hR : ∀ k, R k → ¬ S k) : Lim w' p S L := by
  obtain ⟨A, c, h⟩ := h
  exact ⟨A, c, h.only ho hR⟩
theorem Lim.later (h : Lim w p S L) (hb : Below w.heap.size w w') : Lim w' p S L := h.only (only_below (fun _ => False) hb) (fun _ e => e.elim)
theorem Lim.lt (h : Lim w p S L) : ∀ k, S k → k < w.heap.size := by
  obtain ⟨A, c, h⟩ := h
  exact h.lt
theorem Lim.mem (h : Lim w p S L) : S p := by
  obtain ⟨A, c, h⟩ := h
  exact h.mem
theorem Parts.cell (h : Parts w p S L A c) {i : Nat} (hi : i < 3) : w.cell? ⟨p, i, none⟩ = some (.slice (A i) (L i).length (c i)) ∧ w.frozen? ⟨p, i, none⟩ = false := by
  obtain ⟨h1, h2⟩ := cell_heap h.box i
  refine ⟨?_, h2⟩
  rw [h1]
  match i, hi with
  | 0, _ => rfl
  | 1, _ => rfl
  | 2, _ => rfl
theorem Lim.congr {L' : Ls} (h : Lim w p S L) (hL : ∀ i, i < 3 → L i = L' i) : Lim w p S L' := by
  obtain ⟨A, c, h1, h2, h3, h4, h5, h6⟩ := h
  exact ⟨A, c, by rw [← hL 0 (by omega), ← hL 1 (by omega), ← hL 2 (by omega)]; exact h1, fun i hi => by rw [← hL i hi]; exact h2 i hi, h3, h4, h5, h6⟩
/-- One row is another one, of the old block, or of one that is none of the limbo's. -/
theorem Parts.put (h : Parts w p S L A c) {i : Nat} (hi : i < 3) {w3 : World} (ho : Only R w w3) (hR : ∀ k, R k → ¬ S k ∨ ∃ x, A i = some x ∧ x.block = k) {B : Option Addr} {cB : Nat} {l : List R2}
    (hown : w3.ownsRow 0 29 2 (.slice B l.length cB) l.length (flat encR l)) (hB : ∀ x, B = some x → x.block < w3.heap.size ∧ (¬ S x.block ∨ ∃ y, A i = some y ∧ y.block = x.block)) :
    Lim (w3.setCell ⟨p, i, none⟩ (.slice B l.length cB)) p (fun k => S k ∨ ∃ x, B = some x ∧ x.block = k) (putL L i l) := by
  have hp3 : ¬ R p := fun e => by
    rcases hR p e with h1 | ⟨x, hx, hxp⟩
    · exact h1 h.mem
    · exact (h.at_ i x hi hx).2 hxp
  have hbox := ho.heap h.box hp3
  have hBp : ∀ x, B = some x → x.block ≠ p := fun x hx e => by
    rcases (hB x hx).2 with h1 | ⟨y, hy, hyx⟩
    · exact h1 (e ▸ h.mem)
    · exact (h.at_ i y hi hy).2 (hyx.trans e)
  have hset := set_heap (j := i) hbox (.slice B l.length cB)
  have hSet : Only (fun k => k = p) w3 (w3.setCell ⟨p, i, none⟩ (.slice B l.length cB)) := only_setCell (R := fun k => k = p) w3 rfl _
  have hs := ho.size
  have hs2 := hSet.size
  refine ⟨fun j => if j = i then B else A j, fun j => if j = i then cB else c j, ?_, fun j hj => ?_, fun j x hj hx => ?_, fun j j' x y hj hj' hne hx hy => ?_, .inl h.mem, fun k hk => ?_⟩
  · rw [hset]
    match i, hi with
    | 0, _ => rfl
    | 1, _ => rfl
    | 2, _ => rfl
  · by_cases hji : j = i
    · subst hji
      simp only [if_pos, putL_same]
      exact hSet.own hown (fun k hk e => by
        obtain ⟨x, hx, rfl⟩ := own_block hk
        exact hBp x hx e)
    · simp only [if_neg hji, putL_other _ _ hji]
      refine hSet.own (ho.own (h.own j hj) (fun k hk e => ?_)) (fun k hk e => ?_)
      · obtain ⟨x, hx, rfl⟩ := own_block hk
        rcases hR _ e with h1 | ⟨y, hy, hyx⟩
        · exact h1 (h.at_ j x hj hx).1
        · exact h.apart j i x y hj hi hji hx hy hyx.symm
      · obtain ⟨x, hx, rfl⟩ := own_block hk
        exact (h.at_ j x hj hx).2 e
  · by_cases hji : j = i
    · subst hji
      simp only [if_pos] at hx
      exact ⟨.inr ⟨x, hx, rfl⟩, hBp x hx⟩
    · simp only [if_neg hji] at hx
      exact ⟨.inl (h.at_ j x hj hx).1, (h.at_ j x hj hx).2⟩
  · have hAB : ∀ j x y, j < 3 → j ≠ i → A j = some x → B = some y → x.block ≠ y.block := fun j x y hj hji hx hy e => by
      rcases (hB y hy).2 with h1 | ⟨z, hz, hzy⟩
      · exact h1 (e ▸ (h.at_ j x hj hx).1)
      · exact h.apart j i x z hj hi hji hx hz (e.trans hzy.symm)
    by_cases h1 : j = i <;> by_cases h2 : j' = i
    · omega
    · simp only [if_pos h1] at hx
      simp only [if_neg h2] at hy
      exact fun e => hAB j' y x hj' h2 hy hx e.symm
    · simp only [if_neg h1] at hx
      simp only [if_pos h2] at hy
      exact hAB j x y hj h1 hx hy
    · simp only [if_neg h1] at hx
      simp only [if_neg h2] at hy
      exact h.apart j j' x y hj hj' hne hx hy
  · rcases hk with hk | ⟨x, hx, rfl⟩
    · have := h.lt k hk
      omega
    · have := (hB x hx).1
      omega
end

/-- What New and Copy end in: another limbo, in new memory. -/
def Made (w : World) (L : Ls) (e : Ending) (w' : World) : Prop := ∃ q S, e = .returned (.pointer (some ⟨q, 0, none⟩)) ∧ Lim w' q S L ∧ (∀ k, S k → w.heap.size ≤ k) ∧ Below w.heap.size w w'
theorem New_any (w : World) : Calls Try.prog 6 #[] w (Made w noL) := by
  have HE := Lib.hid (show Made w noL (.returned (.pointer (some ⟨w.heap.size, 0, none⟩))) (w.alloc (.cells #[.slice none 0 0, .slice none 0 0, .slice none 0 0] 46)) from
    ⟨w.heap.size, fun k => k = w.heap.size, rfl, ⟨fun _ => none, fun _ => 0, new_heap w _, fun i _ => World.ownsRow_nil _ _ _ _, fun i x _ e => (by cases e), fun i j x y _ _ _ e => (by cases e), rfl, fun k e => by subst e; simp⟩, fun k e => by omega, (Below.refl _ _).alloc (Nat.le_refl _) _⟩)
  go_enter Try.func6, Try.ntmps6
  go_wp2
  go_ret
  exact HE.out
theorem ripe_is {x : R2} {c : Int} {v : Bool} (h0 : 0 ≤ c) (h1 : c < 18446744073709551616) (h : ripeB c x = v) (w : World) : Calls Try.prog 16 #[.agg #[.int .u64 x.1, .int .u64 x.2], .int .u64 c] w fun e w' => e = .returned (.bool v) ∧ Below w.heap.size w w' := by
  obtain ⟨r, e⟩ := x
  have hw : ∀ t, Below w.heap.size w (w.alloc (.cells #[.int .u64 r, .int .u64 e] t)) := fun t => (Below.refl _ _).alloc (Nat.le_refl _) _
  have HW := Lib.hid hw
  clear hw
  have HB := Lib.hid h1
  clear h1
  simp only
  by_cases h2 : 2 ≤ c
  · have hwr : IntKind.u64.wrap (c - 2) = c - 2 := IntWalk.u64_in _ ⟨by omega, by have := HB.out; omega⟩
    have hd : decide (2 ≤ c) = true := by simpa using h2
    by_cases h3 : e ≤ c - 2
    · obtain rfl : v = true := by rw [← h]; exact ripe_yes h2 h3
      clear h
      have hd3 : decide (e ≤ c - 2) = true := by simpa using h3
      go_enter Try.func16, Try.ntmps16
      go_wp2
      go_ret
      exact ⟨rfl, HW.out _⟩
    · obtain rfl : v = false := by rw [← h]; simp [ripeB, h3]
      clear h
      have hd3 : decide (e ≤ c - 2) = false := by simpa using h3
      go_enter Try.func16, Try.ntmps16
      go_wp2
      go_ret
      exact ⟨rfl, HW.out _⟩
  · obtain rfl : v = false := by rw [← h]; simp [ripeB, h2]
    clear h
    have hd : decide (2 ≤ c) = false := by simpa using h2
    go_enter Try.func16, Try.ntmps16
    go_wp2
    go_ret
    exact ⟨rfl, HW.out _⟩
theorem Ripe_is {x : R2} {c : Int} {v : Bool} (h0 : 0 ≤ c) (h1 : c < 18446744073709551616) (h : ripeB c x = v) (w : World) : Calls Try.prog 15 #[.agg #[.int .u64 x.1, .int .u64 x.2], .int .u64 c] w fun e w' => e = .returned (.bool v) ∧ Below w.heap.size w w' := by
  obtain ⟨r, e⟩ := x
  have hw : ∀ t, Below w.heap.size w (w.alloc (.cells #[.int .u64 r, .int .u64 e] t)) := fun t => (Below.refl _ _).alloc (Nat.le_refl _) _
  have HW := Lib.hid hw
  clear hw
  have HB := Lib.hid h1
  clear h1
  simp only
  by_cases h2 : 2 ≤ c
  · have hwr : IntKind.u64.wrap (c - 2) = c - 2 := IntWalk.u64_in _ ⟨by omega, by have := HB.out; omega⟩
    have hd : decide (2 ≤ c) = true := by simpa using h2
    by_cases h3 : e ≤ c - 2
    · obtain rfl : v = true := by rw [← h]; exact ripe_yes h2 h3
      clear h
      have hd3 : decide (e ≤ c - 2) = true := by simpa using h3
      go_enter Try.func15, Try.ntmps15
      go_wp2
      go_ret
      exact ⟨rfl, HW.out _⟩
    · obtain rfl : v = false := by rw [← h]; simp [ripeB, h3]
      clear h
      have hd3 : decide (e ≤ c - 2) = false := by simpa using h3
      go_enter Try.func15, Try.ntmps15
      go_wp2
      go_ret
      exact ⟨rfl, HW.out _⟩
  · obtain rfl : v = false := by rw [← h]; simp [ripeB, h2]
    clear h
    have hd : decide (2 ≤ c) = false := by simpa using h2
    go_enter Try.func15, Try.ntmps15
    go_wp2
    go_ret
    exact ⟨rfl, HW.out _⟩

/-- A limbo that has turned: all its blocks are those that it had, or new ones. -/
def Turns (w : World) (p : Nat) (S : Nat → Prop) (L : Ls) (e : Ending) (w' : World) : Prop := ∃ S', e = .returned (.tuple #[]) ∧ Lim w' p S' L ∧ (∀ k, S' k → S k ∨ w.heap.size ≤ k) ∧ Only S w w'

theorem Add_nil (r e : Int) (w : World) : Calls Try.prog 7 #[.pointer none, .int .u64 r, .int .u64 e] w fun e w' => e = .returned (.tuple #[]) ∧ w = w' := by
  go_enter Try.func7, Try.ntmps7
  go_wp2
  exact bodyPost_ret (v := .tuple #[]) (results_none rfl _ _ _) rfl ⟨rfl, rfl⟩
/-- Behind the append: the cell. -/
theorem add_box {w W0 w3 : World} {p i : Nat} {S : Nat → Prop} {L : Ls} {A : Nat → Option Addr} {c : Nat → Nat} (h : Parts w p S L A c) (hi : i < 3) (hB : Below w.heap.size w W0) (hg : W0.grownBy w3 (Value.slice (A i) (L i).length (c i)).ownBlock) :
    w3.cell? ⟨p, i, none⟩ = some (.slice (A i) (L i).length (c i)) ∧ w3.frozen? ⟨p, i, none⟩ = false := by
  have hp : (Value.slice (A i) (L i).length (c i)).ownBlock ≠ some p := fun e => by
    obtain ⟨y, hy, hyp⟩ := own_block e
    exact (h.at_ i y hi hy).2 hyp
  have hb := (only_grown hg (R := fun k => (Value.slice (A i) (L i).length (c i)).ownBlock = some k) (fun k e => e)).heap ((only_below (fun _ => False) hB).heap h.box id) hp
  refine ⟨?_, (cell_heap hb i).2⟩
  rw [(cell_heap hb i).1, ← (cell_heap h.box i).1]
  exact (h.cell hi).1
/-- Behind the append: the struct. -/
theorem add_end {w W0 w3 : World} {p i cap g2 : Nat} {S : Nat → Prop} {L : Ls} {A : Nat → Option Addr} {c : Nat → Nat} {x : R2} (h : Parts w p S L A c) (hi : i < 3) (he : x.2 % 3 = (i : Int)) (hB : Below w.heap.size w W0) (hg : W0.grownBy w3 (Value.slice (A i) (L i).length (c i)).ownBlock)
    (ho : w3.ownsRow 0 29 2 (.slice (some ⟨g2, 0, none⟩) ((L i).length + 1) cap) ((L i).length + 1) (flat encR (L i) ++ encR x)) (hor : (Value.slice (A i) (L i).length (c i)).ownBlock = some g2 ∨ g2 = W0.heap.size) (hlt : g2 < w3.heap.size) :
    Turns w p S (addL L x) (.returned (.tuple #[])) (w3.setCell ⟨p, i, none⟩ (.slice (some ⟨g2, 0, none⟩) ((L i).length + 1) cap)) := by
  have hs := hB.size
  have hR : Only (fun k => (Value.slice (A i) (L i).length (c i)).ownBlock = some k) w w3 := (only_below _ hB).trans (only_grown hg (fun k e => e))
  have hl : (L i ++ [x]).length = (L i).length + 1 := by simp
  have hput := h.put (R := fun k => (Value.slice (A i) (L i).length (c i)).ownBlock = some k) hi (w3 := w3) (B := some ⟨g2, 0, none⟩) (cB := cap) (l := L i ++ [x]) hR (fun k e => .inr (own_block e))
    (by rw [hl, flat_append, flat_one]; exact ho) (fun y hy => by
      cases hy
      refine ⟨hlt, ?_⟩
      rcases hor with e | e
      · exact .inr (own_block e)
      · exact .inl fun e2 => by
          have h1 : g2 < w.heap.size := h.lt _ e2
          omega)
  rw [hl, ← addL_is L he] at hput
  refine ⟨_, rfl, hput, fun k hk => ?_, ?_⟩
  · rcases hk with hk | ⟨y, hy, rfl⟩
    · exact .inl hk
    · cases hy
      rcases hor with e | e
      · obtain ⟨y, hy, hyg⟩ := own_block e
        exact .inl (hyg ▸ (h.at_ i y hi hy).1)
      · exact .inr (by show w.heap.size ≤ g2; omega)
  · refine (hR.wide (R' := S) fun k e => ?_).setCell (.inl h.mem) _
    obtain ⟨y, hy, rfl⟩ := own_block e
    exact .inl (h.at_ i y hi hy).1
set_option maxHeartbeats 1000000 in
theorem Add_any {p : Nat} {S : Nat → Prop} {L : Ls} {w : World} (hL : Lim w p S L) (hm : lenL L ≤ 1000000) {r e : Int} (h0 : 0 ≤ e) : Calls Try.prog 7 #[.pointer (some ⟨p, 0, none⟩), .int .u64 r, .int .u64 e] w (Turns w p S (addL L (r, e))) := by
  obtain ⟨A, c, hP⟩ := hL
  obtain ⟨i, hi, he⟩ := rest_of e
  obtain ⟨n, hn⟩ : ∃ n, n = (L i).length := ⟨_, rfl⟩
  have hnm := lenL_le L hi
  rw [← hn] at hnm
  obtain ⟨ci, fi⟩ := hP.cell hi
  have ho := hP.own i hi
  rw [← hn] at ci ho
  have HEND := Lib.hid fun W0 w3 g2 cap => add_end (x := (r, e)) (W0 := W0) (w3 := w3) (g2 := g2) (cap := cap) hP hi he
  rw [← hn] at HEND
  have HC := Lib.hid fun W0 w3 => add_box (W0 := W0) (w3 := w3) hP hi
  rw [← hn] at HC
  have hi3 : (i : Int) < 3 := by omega
  have B1 := (Below.refl w.heap.size w).alloc (Nat.le_refl _) (.cells #[.int .u64 r, .int .u64 e] 29)
  have k1 := cell_later B1 ci
  have HF := Lib.hid ho
  have HE := Lib.hid he
  obtain ⟨i0, hi0, hz0, hz1, hz2⟩ := info_parts info_R
  clear hP ho hn he B1
  go_enter Try.func7, Try.ntmps7
  go_wp2
  rw [HE.out]
  go_region_law (refine step_append_lies _ rfl (.tmp 18) (.tmp 22) 26 rfl 0 29 i0 _ 2 16 Try.underlying26 hi0 hz0 hz1 hz2 rfl (by decide) _ n _ rfl (own_later HF.out (((Below.refl _ _).alloc (Nat.le_refl _) _).drew)) ⟨w.heap.size, 0, none⟩ 1 1 (encR (r, e)) rfl rfl (cells_new _ _ _) (encR_one _) (by decide) (by simp only [maxLen]; omega) (by omega) (Nat.zero_le _) _ rfl ?_; intro g2 cap w3 ho2 hg2 hor2 hlt2; have hb0 := (((Below.refl w.heap.size w).alloc (Nat.le_refl _) (.cells #[.int .u64 r, .int .u64 e] 29)).drew); obtain ⟨k2, k3⟩ := HC.out _ _ hb0 hg2; have HEN := Lib.hid (HEND.out _ _ _ _ hb0 hg2 ho2 hor2 hlt2); clear hb0 ho2 hg2 hor2)
  all_goals (refine bodyPost_end (results_none rfl _ _ _) rfl ?_; exact HEN.out)

/-- The array of the three slices, loaded: its k-th one. -/
theorem idx3 (A : Nat → Option Addr) (n c : Nat → Nat) {k : Nat} (hk : k < 3) (W : World) : (Instr.index 44 (.agg #[.slice (A 0) (n 0) (c 0), .slice (A 1) (n 1) (c 1), .slice (A 2) (n 2) (c 2)]) (.int .i64 (k : Int))).run Try.prog W = .ok (.slice (A k) (n k) (c k)) W := by
  obtain rfl | rfl | rfl : k = 0 ∨ k = 1 ∨ k = 2 := by omega
  all_goals kernel_rfl
theorem Len_nil (w : World) : Calls Try.prog 13 #[.pointer none] w fun e w' => e = .returned (.int .i64 0) ∧ w = w' := by
  go_enter Try.func13, Try.ntmps13
  go_wp2
  go_ret
  exact ⟨rfl, rfl⟩
theorem Len_any {p m : Nat} {S : Nat → Prop} {L : Ls} {w : World} (hL : Lim w p S L) (hm : lenL L = m) (hmm : m ≤ 1000000) : Calls Try.prog 13 #[.pointer (some ⟨p, 0, none⟩)] w fun e w' => e = .returned (.int .i64 m) ∧ w = w' := by
  obtain ⟨A, c, hP⟩ := hL
  obtain ⟨N, hN⟩ : ∃ N : Nat → Nat, N = fun i => (L i).length := ⟨_, rfl⟩
  have c0 := (hP.cell (i := 0) (by omega)).1
  have c1 := (hP.cell (i := 1) (by omega)).1
  have c2 := (hP.cell (i := 2) (by omega)).1
  have e0 : (L 0).length = N 0 := by rw [hN]
  have e1 : (L 1).length = N 1 := by rw [hN]
  have e2 : (L 2).length = N 2 := by rw [hN]
  rw [e0] at c0
  rw [e1] at c1
  rw [e2] at c2
  have HI := Lib.hid fun k (hk : k < 3) => idx3 A N c hk
  have HU := Lib.hid (show ∀ k, (upL L (k + 1)).length = (upL L k).length + N k from fun k => by simp [upL, hN])
  have HL := Lib.hid fun k (hk : k ≤ 3) => upL_len L hk
  have H3 := Lib.hid (show (upL L 3).length = m by rw [upL_3, lenL_all, hm])
  have HM := Lib.hid hm
  clear hP hN e0 e1 e2 hm
  go_enter Try.func13, Try.ntmps13
  go_wp2
  go_loopw [3, 12] (fun v i wr => ∃ k : Nat, k ≤ 3 ∧ i = .int .i64 k ∧ v = .int .i64 ((upL L k).length : Nat) ∧ w = wr) (fun _ i _ => 3 - (intOf i).toNat)
  case atStart => exact ⟨0, Nat.zero_le _, rfl, rfl, rfl⟩
  case round =>
    obtain ⟨k, hk, rfl, rfl, rfl⟩ := hrel
    by_cases hlt : k < 3
    · have hix := HI.out k hlt
      have hu := HU.out k
      have hl := HL.out (k + 1) (by omega)
      obtain ⟨a, ha⟩ : ∃ a, (upL L k).length = a := ⟨_, rfl⟩
      have h1 : a + N k ≤ 1000000 := by have := HM.out; omega
      have HA := Lib.hid ha
      have HUU := Lib.hid hu
      rw [ha]
      clear hu hl ha
      go_wp2
      go_roundw
      case rel => exact ⟨k + 1, by omega, by go_num, by rw [HUU.out, HA.out]; go_num, trivial⟩
      case measure => simp [intOf]; omega
    · obtain rfl : k = 3 := by omega
      rw [H3.out]
      go_wp2
      go_ret
      exact ⟨rfl, rfl⟩

/-- A list of slots in new memory. -/
def Listed (w : World) (l : List R2) (e : Ending) (w' : World) : Prop := ∃ (A' : Option Addr) (n c' : Nat), e = .returned (.slice A' n c') ∧ n = l.length ∧ n ≤ c' ∧ Row w' w'.heap.size A' (flat encR l) ∧ (∀ a, A' = some a → w.heap.size ≤ a.block ∧ a.block < w'.heap.size) ∧ Below w.heap.size w w'
theorem cap_of_own {w : World} {base : Nat} {e : TypeId} {size n c : Nat} {A : Option Addr} {xs : List Value} (h : w.ownsRow base e size (.slice A n c) n xs) : n ≤ c := by
  obtain ⟨A', c', e, hc⟩ := slice_of_own h
  cases e
  exact hc
theorem new_of_own {w w' : World} {e : TypeId} {size n c : Nat} {A : Option Addr} {xs : List Value} (h : w'.ownsRow w.heap.size e size (.slice A n c) n xs) : ∀ a, A = some a → w.heap.size ≤ a.block ∧ a.block < w'.heap.size := by
  intro a ha
  subst ha
  exact h.lt a.block rfl
theorem listed_of {w w' : World} {n c : Nat} {A : Option Addr} {l : List R2} (h : w'.ownsRow w.heap.size 29 2 (.slice A n c) n (flat encR l)) (hb : Below w.heap.size w w') : Listed w l (.returned (.slice A n c)) w' :=
  ⟨A, n, c, rfl, by have := h.1; rw [flat_length encR_length] at this; omega, cap_of_own h, Row.of_own h, new_of_own h, hb⟩
theorem All_nil (w : World) : Calls Try.prog 12 #[.pointer none] w fun e w' => e = .returned (.slice none 0 0) ∧ w = w' := by
  go_enter Try.func12, Try.ntmps12
  go_wp2
  go_ret
  exact ⟨rfl, rfl⟩
set_option maxHeartbeats 1000000 in
theorem All_any {p : Nat} {S : Nat → Prop} {L : Ls} {w : World} (hL : Lim w p S L) (hm : lenL L ≤ 1000000) : Calls Try.prog 12 #[.pointer (some ⟨p, 0, none⟩)] w (Listed w (allL L)) := by
  obtain ⟨A, c, hP⟩ := hL
  obtain ⟨N, hN⟩ : ∃ N : Nat → Nat, N = fun i => (L i).length := ⟨_, rfl⟩
  have c0 := (hP.cell (i := 0) (by omega)).1
  have c1 := (hP.cell (i := 1) (by omega)).1
  have c2 := (hP.cell (i := 2) (by omega)).1
  have e0 : (L 0).length = N 0 := by rw [hN]
  have e1 : (L 1).length = N 1 := by rw [hN]
  have e2 : (L 2).length = N 2 := by rw [hN]
  rw [e0] at c0
  rw [e1] at c1
  rw [e2] at c2
  have HI := Lib.hid fun k (hk : k < 3) => idx3 A N c hk
  have HR := Lib.hid (show ∀ k, k < 3 → Row w w.heap.size (A k) (flat encR (L k)) from fun k hk => Row.of_own (hP.own k hk))
  have HU := Lib.hid (show ∀ k, (upL L (k + 1)).length = (upL L k).length + N k from fun k => by simp [upL, hN])
  have HN := Lib.hid (show ∀ k, (flat encR (L k)).length = N k * 2 from fun k => by rw [flat_length encR_length, hN])
  have HL := Lib.hid fun k (hk : k ≤ 3) => upL_len L hk
  have HM := Lib.hid hm
  obtain ⟨i0, hi0, hz0, hz1, hz2⟩ := info_parts info_R
  clear hP hN e0 e1 e2 hm
  go_enter Try.func12, Try.ntmps12
  go_wp2
  go_loopw [3, 12] (fun v i wr => ∃ (k a fc : Nat) (F : Option Addr), k ≤ 3 ∧ i = .int .i64 k ∧ v = .slice F a fc ∧ (upL L k).length = a ∧ wr.ownsRow w.heap.size 29 2 (.slice F a fc) a (flat encR (upL L k)) ∧ Below w.heap.size w wr) (fun _ i _ => 3 - (intOf i).toNat)
  case atStart => exact ⟨0, 0, 0, none, Nat.zero_le _, rfl, rfl, rfl, World.ownsRow_nil _ _ _ _, Below.refl _ _⟩
  case round =>
    obtain ⟨k, a, fc, F, hk, rfl, rfl, ha, ho, hb⟩ := hrel
    have HA := Lib.hid ha
    have HO := Lib.hid ho
    have HB := Lib.hid hb
    clear ha ho hb
    by_cases hlt : k < 3
    · have hix := HI.out k hlt
      have h1 : a + N k ≤ 1000000 := by
        have := HL.out (k + 1) (by omega)
        rw [HU.out k, HA.out] at this
        have := HM.out
        omega
      have HUP := Lib.hid (show flat encR (upL L (k + 1)) = flat encR (upL L k) ++ flat encR (L k) by rw [← flat_append]; rfl)
      have HLP := Lib.hid (show (upL L (k + 1)).length = a + N k by rw [HU.out, HA.out])
      go_wp2_with (at_builtin; refine wpList_append_row _ w rfl (.tmp 15) (.tmp 16) 26 rfl w.heap.size 29 i0 _ 2 16 Try.underlying26 hi0 hz0 hz1 hz2 rfl (by decide) _ a _ rfl HO.out (A k) (N k) (c k) w.heap.size (flat encR (L k)) rfl (HN.out k) ((HR.out k hlt).below HB.out) (flat_oneCell encR_one _) (by simp only [maxLen]; omega) (by omega) HB.out.size HB.out ?_; intro A1 c1 w1 hown1 hb1; have HO1 := Lib.hid hown1; have HB1 := Lib.hid hb1; clear hown1 hb1)
      go_roundw
      case rel => exact ⟨k + 1, a + N k, c1, A1, by omega, by go_num, rfl, HLP.out, by rw [HUP.out]; exact HO1.out, HB1.out⟩
      case measure => simp [intOf]; omega
    · obtain rfl : k = 3 := by omega
      have HE := Lib.hid (listed_of HO.out HB.out)
      rw [upL_3] at HE
      go_wp2
      go_ret
      exact HE.out

/-- What slices.Clone ends in: the same elements, in a row of the call's own. -/
def Cloned (w : World) (n : Nat) (l : List R2) (e : Ending) (w' : World) : Prop :=
  ∃ A' c', e = .returned (.slice A' n c') ∧ w'.ownsRow w.heap.size 29 2 (.slice A' n c') n (flat encR l) ∧ Below w.heap.size w w'
theorem Clone_any {A : Option Addr} {n c : Nat} {l : List R2} {w : World} (hR : Row w w.heap.size A (flat encR l)) (hn : n = l.length) (hl : n ≤ 1000000) : Calls Try.prog 17 #[.slice A n c] w (Cloned w n l) := by
  cases A with
  | none =>
    have h0 : l = [] := by
      cases l with
      | nil => rfl
      | cons x xs =>
        obtain ⟨_, _, e, _⟩ := hR (by simp [flat_cons, Open.enc2])
        cases e
    subst h0
    subst hn
    clear hR
    have hnil := Lib.run_eql_slice_nil (P := Try.prog) w 26 29 none 0 c 0 0 Try.underlying26
    go_enter Try.func17, Try.ntmps17
    go_wp2
    go_ret
    exact ⟨none, 0, rfl, World.ownsRow_nil _ _ _ _, Below.refl _ _⟩
  | some a =>
    obtain ⟨i0, hi, hz0, hz1, hz2⟩ := info_parts info_R
    have HR := Lib.hid hR
    have HF := Lib.hid (show (flat encR l).length = n * 2 by rw [flat_length encR_length, hn])
    clear hR hn
    have hnil := Lib.run_eql_slice_nil (P := Try.prog) w 26 29 (some a) n c 0 0 Try.underlying26
    go_enter Try.func17, Try.ntmps17
    go_wp2_with (at_builtin; refine wpList_append_row _ w rfl (.tmp 5) (.tmp 6) 26 rfl w.heap.size 29 i0 _ 2 16 Try.underlying26 hi hz0 hz1 hz2 rfl (by decide) _ 0 [] rfl (World.ownsRow_made w #[] 0 (Nat.le_refl _) (by simp [maxLen]) (by simp)) (some a) n c w.heap.size (flat encR l) rfl HF.out (HR.out.below ((Below.refl _ _).alloc (Nat.le_refl _) _)) (flat_oneCell encR_one l) (by simp only [maxLen]; omega) (by omega) (by simp) ((Below.refl _ _).alloc (Nat.le_refl _) _) ?_; intro A1 c1 w1 hown1 hb1)
    rw [Nat.zero_add, List.nil_append] at hown1
    have HO := Lib.hid hown1
    clear hown1
    go_wp2
    go_ret
    exact ⟨_, _, rfl, HO.out, hb1⟩
theorem Copy_nil (w : World) : Calls Try.prog 14 #[.pointer none] w fun e w' => e = .returned (.pointer none) ∧ w = w' := by
  go_enter Try.func14, Try.ntmps14
  go_wp2
  go_ret
  exact ⟨rfl, rfl⟩
/-- A copy under way: k lists of it stand. -/
structure Copies (w : World) (q k : Nat) (L : Ls) (wr : World) : Prop where
  lim : ∃ S, Lim wr q S (takeL L k) ∧ ∀ i, S i → w.heap.size ≤ i
  below : Below w.heap.size w wr
theorem copies_put {w wr w1 : World} {q k n c : Nat} {B : Option Addr} {L : Ls} (h : Copies w q k L wr) (hk : k < 3) (hn : n = (L k).length) (hb : Below wr.heap.size wr w1) (ho : w1.ownsRow wr.heap.size 29 2 (.slice B n c) n (flat encR (L k))) :
    Copies w q (k + 1) L (w1.setCell ⟨q, k, none⟩ (.slice B n c)) := by
  obtain ⟨⟨S, ⟨A, cc, hP⟩, hS⟩, hw⟩ := h
  subst hn
  have hs := hw.size
  have hput := hP.put (R := fun _ => False) hk (only_below _ hb) (fun k e => e.elim) (own_base ho (Nat.zero_le _)) (fun x hx => by
    subst hx
    have h1 := ho.lt x.block rfl
    exact ⟨h1.2, .inl fun e => by have := hP.lt _ e; omega⟩)
  rw [takeL_succ] at hput
  refine ⟨⟨_, hput, fun i hi => ?_⟩, (hw.trans (hb.mono hs)).setCell (hS _ hP.mem) _⟩
  rcases hi with hi | ⟨x, hx, rfl⟩
  · exact hS i hi
  · subst hx
    have := (ho.lt x.block rfl).1
    omega
theorem copies_cell {w wr w1 : World} {q k : Nat} {L : Ls} (h : Copies w q k L wr) (hk : k < 3) (hb : Below wr.heap.size wr w1) : (∃ v, w1.cell? ⟨q, k, none⟩ = some v) ∧ w1.frozen? ⟨q, k, none⟩ = false := by
  obtain ⟨⟨S, hL, hS⟩, hw⟩ := h
  obtain ⟨A, cc, hP⟩ := hL.later hb
  exact ⟨⟨_, (hP.cell hk).1⟩, (hP.cell hk).2⟩
set_option maxHeartbeats 1000000 in
theorem Copy_any {p : Nat} {S : Nat → Prop} {L : Ls} {w : World} (hL : Lim w p S L) (hm : lenL L ≤ 1000000) : Calls Try.prog 14 #[.pointer (some ⟨p, 0, none⟩)] w (Made w L) := by
  obtain ⟨A, c, hP⟩ := hL
  obtain ⟨N, hN⟩ : ∃ N : Nat → Nat, N = fun i => (L i).length := ⟨_, rfl⟩
  have c0 := (hP.cell (i := 0) (by omega)).1
  have c1 := (hP.cell (i := 1) (by omega)).1
  have c2 := (hP.cell (i := 2) (by omega)).1
  have e0 : (L 0).length = N 0 := by rw [hN]
  have e1 : (L 1).length = N 1 := by rw [hN]
  have e2 : (L 2).length = N 2 := by rw [hN]
  rw [e0] at c0
  rw [e1] at c1
  rw [e2] at c2
  have HI := Lib.hid fun k (hk : k < 3) => idx3 A N c hk
  have HR := Lib.hid (show ∀ k, k < 3 → Row w w.heap.size (A k) (flat encR (L k)) from fun k hk => Row.of_own (hP.own k hk))
  have HN := Lib.hid (show ∀ k, N k = (L k).length from fun k => by rw [hN])
  have HL := Lib.hid (show ∀ k, k < 3 → N k ≤ 1000000 from fun k hk => by have := lenL_le L hk; rw [hN]; show (L k).length ≤ _; omega)
  clear hP hN e0 e1 e2 hm
  go_enter Try.func14, Try.ntmps14
  go_wp2_with fail
  refine (New_any _).mono ?_
  rintro e w1 ⟨q, S1, rfl, hl1, hS1, hb1⟩
  have HC0 := Lib.hid (show Copies w q 0 L w1 from ⟨⟨S1, by rw [takeL_0]; exact hl1, hS1⟩, hb1⟩)
  have d0 := cell_later hb1 c0
  have d1 := cell_later hb1 c1
  have d2 := cell_later hb1 c2
  clear hl1 hS1 hb1 c0 c1 c2
  go_wp2
  go_loopw [13] (fun i wr => ∃ k : Nat, k ≤ 3 ∧ i = .int .i64 k ∧ Copies w q k L wr) (fun i _ => 3 - (intOf i).toNat)
  case atStart => exact ⟨0, Nat.zero_le _, rfl, HC0.out⟩
  case round =>
    obtain ⟨k, hk, rfl, hc⟩ := hrel
    have HC := Lib.hid hc
    clear hc
    by_cases hlt : k < 3
    · have hix := HI.out k hlt
      have hk0 : (0 : Int) ≤ (k : Int) := by omega
      have hk3 : (k : Int) < 3 := by omega
      have hnk := HL.out k hlt
      go_wp2
      go_region_held3 (fun W => True) (trivial)
        ((go_at_call 17; refine (Clone_any (((HR.out k hlt).later HC.out.below).later ((Below.refl _ _).drew)) (HN.out k) hnk).mono ?_; rintro e w2 ⟨B, cb, rfl, ho, hb⟩; have HB := Lib.hid (show Below wr.heap.size wr w2 from (Below.refl _ _).drew.trans hb); have HO := Lib.hid (show w2.ownsRow wr.heap.size 29 2 (.slice B (N k) cb) (N k) (flat encR (L k)) from ho); obtain ⟨⟨v0, g0⟩, g1⟩ := copies_cell HC.out hlt HB.out; clear ho hb))
      have HE := Lib.hid (copies_put HC.out hlt (HN.out k) HB.out HO.out)
      go_wp2
      go_roundw
      case rel => exact ⟨k + 1, by omega, by go_num, HE.out⟩
      case measure => simp [intOf]; omega
    · obtain rfl : k = 3 := by omega
      have HE := Lib.hid (show Made w L (.returned (.pointer (some ⟨q, 0, none⟩))) wr from by
        obtain ⟨⟨S2, hl2, hS2⟩, hb2⟩ := HC.out
        exact ⟨q, S2, rfl, hl2.congr (fun i hi => takeL_3 L hi), hS2, hb2⟩)
      go_wp2
      go_ret
      exact HE.out

end Go.Proofs.Ytlgoldakbnbbbaa.Limbo
