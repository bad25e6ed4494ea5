/- Package task's Ledger (layer 11): deeds that are counted, acts that are kept; all else in memory stays as it was. -/
import Derived.Test.YthlamnghbdaaiaaTaskEq
import Derived.Deep.AppendLies
import Derived.Deep.RegionLaw
namespace Go.Proofs.Ythlamnghbdaaiaa.Task
open Go.ChangeShapes Go.WideShapes Go.RowKit CM DM Lay Ints Cells
set_option linter.unusedVariables false

abbrev A4 := Int × Int × Int × Int
/-- A ledger in block p: how many deeds, and its acts in block g. -/
structure Led (w : World) (p g : Nat) (n : Nat) (l : List A4) : Prop where
  box : ∃ F c, w.heap[p]? = some (.cells #[.int .i64 n, .slice F l.length c] 44 (0, 0)) ∧ w.ownsRow 0 46 4 (.slice F l.length c) l.length (flat encA l) ∧ (∀ a, F = some a → a.block = g ∧ g ≠ p)
  most : l.length ≤ 1000000 ∧ n ≤ 1000000
  apart : p < w.heap.size ∧ g < w.heap.size
theorem Led.only {w w' : World} {p g n : Nat} {l : List A4} {R : Nat → Prop} (h : Led w p g n l) (ho : Only R w w') (hp : ¬ R p) (hg : ¬ R g) : Led w' p g n l := by
  obtain ⟨⟨F, c, hb, hf, hfa⟩, hm, l1, l2⟩ := h
  have hs := ho.size
  refine ⟨⟨F, c, ho.heap hb hp, ho.own hf (fun k e => ?_), hfa⟩, hm, by omega, by omega⟩
  cases F with
  | none => cases e
  | some a => cases e; rw [(hfa a rfl).1]; exact hg
theorem Led.later {w w' : World} {p g n : Nat} {l : List A4} (h : Led w p g n l) (hb : Below w.heap.size w w') : Led w' p g n l := h.only (only_below (fun _ => False) hb) id id

/-- A ledger that has turned. -/
def Kept (w : World) (p g n : Nat) (l : List A4) (e : Ending) (w' : World) : Prop :=
  ∃ g', e = .returned (.tuple #[]) ∧ Led w' p g' n l ∧ (g' = g ∨ w.heap.size ≤ g') ∧ Only (fun k => k = p ∨ k = g) w w'

theorem Step_any {p g n : Nat} {l : List A4} {w : World} (hL : Led w p g n l) (hn : n < 1000000) : Calls Try.prog 17 #[.pointer (some ⟨p, 0, none⟩)] w (Kept w p g (n + 1) l) := by
  obtain ⟨⟨F, c, hb, hf, hfa⟩, hm, l1, l2⟩ := hL
  have c0 := (cell_heap hb 0).1
  have f0 := (cell_heap hb 0).2
  simp at c0
  have HEN := Lib.hid (show Kept w p g (n + 1) l (.returned (.tuple #[])) (w.setCell ⟨p, 0, none⟩ (.int .i64 ((n : Int) + 1))) by
    have hSet : Only (fun k => k = p) w (w.setCell ⟨p, 0, none⟩ (.int .i64 ((n : Int) + 1))) := only_setCell (R := fun k => k = p) w rfl _
    refine ⟨g, rfl, ⟨⟨F, c, ?_, hSet.own hf (fun k e => ?_), hfa⟩, ⟨hm.1, by omega⟩, by have := hSet.size; omega, by have := hSet.size; omega⟩, .inl rfl, hSet.wide fun i e => .inl (.inl e)⟩
    · have := set_heap (j := 0) hb (.int .i64 ((n : Int) + 1))
      simpa using this
    · cases F with
      | none => cases e
      | some a => cases e; rw [(hfa a rfl).1]; exact (hfa a rfl).2)
  clear hb hf hfa hm l1 l2
  go_enter Try.func17, Try.ntmps17
  go_wp2
  refine bodyPost_end (results_none rfl _ _ _) rfl ?_
  exact HEN.out
theorem Step_nil (w : World) : Calls Try.prog 17 #[.pointer none] w fun e w' => e = .returned (.tuple #[]) ∧ w = w' := by
  go_enter Try.func17, Try.ntmps17
  go_wp2
  refine bodyPost_end (results_none rfl _ _ _) rfl ?_
  exact ⟨rfl, rfl⟩
theorem Acts_any {p g n m : Nat} {l : List A4} {w : World} (hm : m = l.length) (hL : Led w p g n l) : Calls Try.prog 20 #[.pointer (some ⟨p, 0, none⟩)] w (Cloned encA w m l) := by
  obtain ⟨⟨F, c, hb, hf, hfa⟩, h1, l1, l2⟩ := hL
  have c1 := (cell_heap hb 1).1
  simp at c1
  rw [← hm] at hf c1
  have HC := Lib.hid (Clone_acts (c := c) (Row.of_own hf) hm (by omega))
  clear hb hf hfa h1 l1 l2 hm
  go_enter Try.func20, Try.ntmps20
  go_wp2_with fail
  refine (HC.out).mono ?_
  rintro e w' ⟨A', c', rfl, hr, ha, hb⟩
  have HR := Lib.hid hr
  have HA := Lib.hid ha
  clear hr ha
  go_wp2
  go_ret
  exact ⟨_, _, rfl, HR.out, HA.out, hb⟩
theorem Acts_nil (w : World) : Calls Try.prog 20 #[.pointer none] w fun e w' => e = .returned (.slice none 0 0) ∧ w = w' := by
  go_enter Try.func20, Try.ntmps20
  go_wp2
  go_ret
  exact ⟨rfl, rfl⟩
/-- Behind the append: the struct. -/
theorem led_box {w W0 w3 : World} {p g n m c : Nat} {F : Option Addr} (hb : w.heap[p]? = some (.cells #[.int .i64 n, .slice F m c] 44 (0, 0))) (hfa : ∀ a, F = some a → a.block = g ∧ g ≠ p)
    (hB : Below w.heap.size w W0) (hg : W0.grownBy w3 (Value.slice F m c).ownBlock) : w3.heap[p]? = some (.cells #[.int .i64 n, .slice F m c] 44 (0, 0)) := by
  have hlt := (Array.getElem?_eq_some_iff.1 hb).1
  refine (hg.block p (Nat.lt_of_lt_of_le hlt hB.size) (fun e => ?_)).trans ((hB.block p hlt).trans hb)
  cases F with
  | none => cases e
  | some a =>
    have h := hfa a rfl
    have : p = a.block := by simpa [Value.ownBlock] using e
    omega
theorem led_end {w W0 w3 : World} {p g g2 n m cap c : Nat} {F : Option Addr} {l : List A4} {x : A4} (hb : w.heap[p]? = some (.cells #[.int .i64 n, .slice F m c] 44 (0, 0))) (hfa : ∀ a, F = some a → a.block = g ∧ g ≠ p)
    (hm : m = l.length) (hl : m < 1000000) (hn : n ≤ 1000000) (l1 : p < w.heap.size) (l2 : g < w.heap.size) (hB : Below w.heap.size w W0) (hg : W0.grownBy w3 (Value.slice F m c).ownBlock)
    (ho : w3.ownsRow 0 46 4 (.slice (some ⟨g2, 0, none⟩) (m + 1) cap) (m + 1) (flat encA l ++ encA x)) (hor : (Value.slice F m c).ownBlock = some g2 ∨ g2 = W0.heap.size) (hlt : g2 < w3.heap.size) :
    Kept w p g n (l ++ [x]) (.returned (.tuple #[])) (w3.setCell ⟨p, 1, none⟩ (.slice (some ⟨g2, 0, none⟩) (m + 1) cap)) := by
  subst hm
  have hs := hB.size
  have hs2 := hg.size
  have hR : ∀ k, (Value.slice F l.length c).ownBlock = some k → k = g ∧ g ≠ p := by
    intro k hk
    cases F with
    | none => cases hk
    | some a =>
      have : a.block = k := by simpa [Value.ownBlock] using hk
      have := hfa a rfl
      omega
  have hg2 : g2 = g ∧ g ≠ p ∨ w.heap.size ≤ g2 := hor.elim (fun h => .inl (hR g2 h)) (fun h => .inr (by omega))
  have hgp : g2 ≠ p := by omega
  have hbox := led_box hb hfa hB hg
  have hW3 : Only (fun k => k = g ∧ g ≠ p) w w3 := (only_below _ hB).trans (only_grown hg hR)
  have hSet : Only (fun k => k = p) w3 (w3.setCell ⟨p, 1, none⟩ (.slice (some ⟨g2, 0, none⟩) (l.length + 1) cap)) := only_setCell (R := fun k => k = p) w3 rfl _
  have hs3 := hSet.size
  refine ⟨g2, rfl, ⟨⟨some ⟨g2, 0, none⟩, cap, ?_, ?_, fun a e => ?_⟩, ⟨by simp; omega, hn⟩, by omega, by omega⟩, hg2.elim (fun h => .inl h.1) .inr, (hW3.wide fun i hi => .inl (.inr hi.1)).setCell (.inl (.inl rfl)) _⟩
  · have := set_heap (j := 1) hbox (.slice (some ⟨g2, 0, none⟩) (l.length + 1) cap)
    simpa using this
  · have h := hSet.own ho (fun k hk => by have : g2 = k := (by simpa [Value.ownBlock] using hk); omega)
    have e1 : flat encA (l ++ [x]) = flat encA l ++ encA x := by rw [flat_append, flat_one]
    rw [e1]
    simpa using h
  · cases e
    exact ⟨rfl, hgp⟩
theorem Note_any {p g n : Nat} {l : List A4} {w : World} (hL : Led w p g n l) (hl : l.length < 1000000) (k h d : Int) : Calls Try.prog 18 #[.pointer (some ⟨p, 0, none⟩), .int .i64 k, .int .u64 h, .int .i64 d] w (Kept w p g n (l ++ [(k, h, d, (n : Int))])) := by
  obtain ⟨⟨F, c, hb, hf, hfa⟩, hm, l1, l2⟩ := hL
  obtain ⟨m, hm2⟩ : ∃ m, m = l.length := ⟨_, rfl⟩
  have c0 := (cell_heap hb 0).1
  have c1 := (cell_heap hb 1).1
  simp at c0 c1
  rw [← hm2] at hf c1 hl hb
  have B1 := (Below.refl w.heap.size w).alloc (Nat.le_refl _) (.cells #[.int .i64 k, .int .u64 h, .int .i64 d, .int .i64 n] 46)
  have k0 := cell_later B1 c0
  have k1 := cell_later B1 c1
  have HF := Lib.hid hf
  have HP := Lib.hid fun W0 w3 => led_box (W0 := W0) (w3 := w3) hb hfa
  have HEND := Lib.hid fun W0 w3 g2 cap => led_end (W0 := W0) (w3 := w3) (g2 := g2) (cap := cap) (x := (k, h, d, (n : Int))) hb hfa hm2 hl hm.2 l1 l2
  obtain ⟨i0, hi, hz0, hz1, hz2⟩ := info_parts info_acts
  clear hb hf hfa hm l1 l2 hm2 B1
  go_enter Try.func18, Try.ntmps18
  go_wp2
  go_region_law (refine step_append_lies _ rfl (.tmp 14) (.tmp 23) 41 rfl 0 46 i0 _ 4 32 Try.underlying41 hi hz0 hz1 hz2 rfl (by decide) _ m _ rfl (own_later HF.out (((Below.refl _ _).alloc (Nat.le_refl _) _).drew)) ⟨w.heap.size, 0, none⟩ 1 1 (encA (k, h, d, (n : Int))) rfl rfl (cells_new _ _ _) (encA_one _) (by decide) (by simp only [maxLen]; omega) (by omega) (Nat.zero_le _) _ rfl ?_; intro g2 cap w3 ho2 hg2 hor2 hlt2; have hb0 := (((Below.refl w.heap.size w).alloc (Nat.le_refl _) (.cells #[.int .i64 k, .int .u64 h, .int .i64 d, .int .i64 n] 46)).drew); have hbx := HP.out _ _ hb0 hg2; have k2 := (cell_heap hbx 1).1; have k3 := (cell_heap hbx 1).2; simp at k2; have HEN := Lib.hid (HEND.out _ _ _ _ hb0 hg2 ho2 hor2 hlt2); clear hb0 hbx ho2 hg2 hor2)
  all_goals (refine bodyPost_end (results_none rfl _ _ _) rfl ?_; exact HEN.out)
theorem Note_nil (k h d : Int) (w : World) : Calls Try.prog 18 #[.pointer none, .int .i64 k, .int .u64 h, .int .i64 d] w fun e w' => e = .returned (.tuple #[]) ∧ w = w' := by
  go_enter Try.func18, Try.ntmps18
  go_wp2
  refine bodyPost_end (results_none rfl _ _ _) rfl ?_
  exact ⟨rfl, rfl⟩
end Go.Proofs.Ythlamnghbdaaiaa.Task
