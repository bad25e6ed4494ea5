import Derived.Test.YtlagghghbpbcbaaGreatDoorStartComesAllP19
import Derived.Deep.AppendLies
import Derived.Deep.RegionLaw
/- A ledger behind the head of a flow, in one block: a deed is counted, an act is noted. -/
namespace Go.Proofs.YtlagghghbpbcbaaGreatDoor.Flows
set_option maxRecDepth 20000
open Go.ChangeShapes Go.WideShapes Go.RowKit CM DM Lay Ints Cells Go.Proofs.YtlagghghbpbcbaaGreatDoor.Task
set_option linter.unusedVariables false
set_option linter.unusedSimpArgs false
abbrev Act4 := Int × Int × Int × Int
/-- The row of a ledger that lies in block p: the acts l, in block g. -/
def Acts (w : World) (p g : Nat) (A : Value) (l : List Act4) : Prop := ∃ F c, A = .slice F l.length c ∧ w.ownsRow 0 137 4 (.slice F l.length c) l.length (flat encA l) ∧ (∀ a, F = some a → a.block = g ∧ g ≠ p) ∧ g < w.heap.size
theorem Acts.only {w w' : World} {p g : Nat} {A : Value} {l : List Act4} {R : Nat → Prop} (h : Acts w p g A l) (ho : Only R w w') (hg : g ≠ p → ¬ R g) : Acts w' p g A l := by
  obtain ⟨F, c, rfl, hf, hfa, hl⟩ := h
  refine ⟨F, c, rfl, ho.own hf (fun k e => ?_), hfa, Nat.lt_of_lt_of_le hl ho.size⟩
  cases F with
  | none => cases e
  | some a => cases e; rw [(hfa a rfl).1]; exact hg (hfa a rfl).2
/-- A block with a ledger behind two cells. -/
def LedAt (w : World) (p : Nat) (v0 v1 : Value) (n : Nat) (A : Value) (rest : List Value) (hty : TypeId) : Prop := w.heap[p]? = some (.cells (List.toArray (v0 :: v1 :: .int .i64 (n : Int) :: A :: rest)) hty (0, 0))
theorem Step_at {p n : Nat} {v0 v1 A : Value} {rest : List Value} {hty : TypeId} {w : World} (h : LedAt w p v0 v1 n A rest hty) (hn : n < 1000000) : Calls Tryz.prog 58 #[.pointer (some ⟨p, 2, none⟩)] w fun e w' => e = .returned (.tuple #[]) ∧ LedAt w' p v0 v1 (n + 1) A rest hty ∧ Only (fun k => k = p) w w' := by
  have c0 := (cell_heap h 2).1
  have f0 := (cell_heap h 2).2
  simp at c0
  have HE := Lib.hid (show LedAt (w.setCell ⟨p, 2, none⟩ (.int .i64 ((n : Int) + 1))) p v0 v1 (n + 1) A rest hty ∧ Only (fun k => k = p) w (w.setCell ⟨p, 2, none⟩ (.int .i64 ((n : Int) + 1))) from ⟨by
    have := set_heap (j := 2) h (.int .i64 ((n : Int) + 1))
    simpa [LedAt] using this, only_setCell (R := fun k => k = p) w rfl _⟩)
  clear h
  go_enter Tryz.func58, Tryz.ntmps58
  go_wp2
  refine bodyPost_end (results_none rfl _ _ _) rfl ?_
  exact ⟨rfl, HE.out.1, HE.out.2⟩
theorem info_note : (Tryz.prog.info? 137).map (fun i => (i.zero, i.size, i.bytes)) = some (some (.agg #[.int .i64 0, .int .u64 0, .int .i64 0, .int .i64 0]), 4, 32) := by kernel_rfl
theorem led_own {F : Option Addr} {n c p g : Nat} (hfa : ∀ a, F = some a → a.block = g ∧ g ≠ p) : ∀ k, (Value.slice F n c).ownBlock = some k → k = g ∧ g ≠ p := by
  intro k hk
  cases F with
  | none => cases hk
  | some a =>
    have h1 : a.block = k := by simpa [Value.ownBlock] using hk
    have h2 := hfa a rfl
    exact ⟨h1.symm.trans h2.1, h2.2⟩
/-- Behind the append: the block. -/
theorem led_kept {w W0 w3 : World} {p g n m c : Nat} {v0 v1 : Value} {rest : List Value} {hty : TypeId} {F : Option Addr} (hb : LedAt w p v0 v1 n (.slice F m c) rest hty) (hfa : ∀ a, F = some a → a.block = g ∧ g ≠ p) (hB : Below w.heap.size w W0) (hg : W0.grownBy w3 (Value.slice F m c).ownBlock) : LedAt w3 p v0 v1 n (.slice F m c) rest hty := by
  have hlt := (Array.getElem?_eq_some_iff.1 hb).1
  refine (hg.block p (Nat.lt_of_lt_of_le hlt hB.size) (fun e => ?_)).trans ((hB.block p hlt).trans hb)
  have := led_own hfa _ e.symm
  omega
/-- What noting ends in. -/
def Noted (w : World) (p g n : Nat) (v0 v1 : Value) (rest : List Value) (hty : TypeId) (l : List Act4) (e : Ending) (w' : World) : Prop :=
  e = .returned (.tuple #[]) ∧ ∃ g' A', LedAt w' p v0 v1 n A' rest hty ∧ Acts w' p g' A' l ∧ (g' = g ∨ w.heap.size ≤ g') ∧ Only (fun k => k = p ∨ (k = g ∧ g ≠ p)) w w'
theorem led_noted {w W0 w3 : World} {p g g2 n m cap c : Nat} {v0 v1 : Value} {rest : List Value} {hty : TypeId} {F : Option Addr} {l : List Act4} {x : Act4} (hb : LedAt w p v0 v1 n (.slice F m c) rest hty) (hfa : ∀ a, F = some a → a.block = g ∧ g ≠ p)
    (hm : m = l.length) (l2 : g < w.heap.size) (hB : Below w.heap.size w W0) (hg : W0.grownBy w3 (Value.slice F m c).ownBlock)
    (ho : w3.ownsRow 0 137 4 (.slice (some ⟨g2, 0, none⟩) (m + 1) cap) (m + 1) (flat encA l ++ encA x)) (hor : (Value.slice F m c).ownBlock = some g2 ∨ g2 = W0.heap.size) (hlt : g2 < w3.heap.size) :
    Noted w p g n v0 v1 rest hty (l ++ [x]) (.returned (.tuple #[])) (w3.setCell ⟨p, 3, none⟩ (.slice (some ⟨g2, 0, none⟩) (m + 1) cap)) := by
  subst hm
  have l1 := (Array.getElem?_eq_some_iff.1 hb).1
  have hs := hB.size
  have hR := led_own (n := l.length) (c := c) hfa
  have hg2 : (g2 = g ∧ g ≠ p) ∨ w.heap.size ≤ g2 := hor.elim (fun h => .inl (hR g2 h)) (fun h => .inr (by omega))
  have hgp : g2 ≠ p := by omega
  have hbox := led_kept hb hfa hB hg
  have hW3 : Only (fun k => k = g ∧ g ≠ p) w w3 := (only_below _ hB).trans (only_grown hg hR)
  have hSet : Only (fun k => k = p) w3 (w3.setCell ⟨p, 3, none⟩ (.slice (some ⟨g2, 0, none⟩) (l.length + 1) cap)) := only_setCell (R := fun k => k = p) w3 rfl _
  have hs3 := hSet.size
  refine ⟨rfl, g2, _, ?_, ⟨some ⟨g2, 0, none⟩, cap, by rw [List.length_append], ?_, fun a e => ?_, by omega⟩, hg2.elim (fun h => .inl h.1) .inr, (hW3.wide fun i hi => .inl (.inr hi)).setCell (.inl (.inl rfl)) _⟩
  · have := set_heap (j := 3) hbox (.slice (some ⟨g2, 0, none⟩) (l.length + 1) cap)
    simpa [LedAt] using this
  · have h := hSet.own ho (fun k hk => by have : g2 = k := (by simpa [Value.ownBlock] using hk); omega)
    have e1 : flat encA (l ++ [x]) = flat encA l ++ encA x := by rw [flat_append, flat_one]
    rw [e1, List.length_append]
    exact h
  · cases e
    exact ⟨rfl, hgp⟩
theorem Note_at {p g n : Nat} {v0 v1 A : Value} {rest : List Value} {hty : TypeId} {l : List Act4} {w : World} (h : LedAt w p v0 v1 n A rest hty) (hA : Acts w p g A l) (hl : l.length < 1000000) (k hd d : Int) :
    Calls Tryz.prog 61 #[.pointer (some ⟨p, 2, none⟩), .int .i64 k, .int .u64 hd, .int .i64 d] w (Noted w p g n v0 v1 rest hty (l ++ [(k, hd, d, (n : Int))])) := by
  obtain ⟨F, c, rfl, hf, hfa, l2⟩ := hA
  obtain ⟨m, hm2⟩ : ∃ m, m = l.length := ⟨_, rfl⟩
  have c0 := (cell_heap h 2).1
  have c1 := (cell_heap h 3).1
  simp at c0 c1
  rw [← hm2] at hf c1 hl h
  have B1 := (Below.refl w.heap.size w).alloc (Nat.le_refl _) (.cells #[.int .i64 k, .int .u64 hd, .int .i64 d, .int .i64 n] 137)
  have k0 := cell_later B1 c0
  have k1 := cell_later B1 c1
  have HF := Lib.hid hf
  have HP := Lib.hid fun W0 w3 => led_kept (W0 := W0) (w3 := w3) h hfa
  have HEND := Lib.hid fun W0 w3 g2 cap => led_noted (W0 := W0) (w3 := w3) (g2 := g2) (cap := cap) (x := (k, hd, d, (n : Int))) h hfa hm2 l2
  obtain ⟨i0, hi, hz0, hz1, hz2⟩ := info_parts info_note
  clear h hf hfa l2 hm2 B1
  go_enter Tryz.func61, Tryz.ntmps61
  go_wp2
  go_region_law (refine step_append_lies _ rfl (.tmp 14) (.tmp 23) 87 rfl 0 137 i0 _ 4 32 Tryz.underlying87 hi hz0 hz1 hz2 rfl (by decide) _ m _ rfl (own_later HF.out (((Below.refl _ _).alloc (Nat.le_refl _) _).drew)) ⟨w.heap.size, 0, none⟩ 1 1 (encA (k, hd, d, (n : Int))) rfl rfl (cells_new _ _ _) (encA_one _) (by decide) (by simp only [maxLen]; omega) (by omega) (Nat.zero_le _) _ rfl ?_; intro g2 cap w3 ho2 hg2 hor2 hlt2; have hb0 := (((Below.refl w.heap.size w).alloc (Nat.le_refl _) (.cells #[.int .i64 k, .int .u64 hd, .int .i64 d, .int .i64 n] 137)).drew); have hbx := HP.out _ _ hb0 hg2; have k2 := (cell_heap hbx 3).1; have k3 := (cell_heap hbx 3).2; simp at k2; have HEN := Lib.hid (HEND.out _ _ _ _ hb0 hg2 ho2 hor2 hlt2); clear hb0 hbx ho2 hg2 hor2)
  all_goals (refine bodyPost_end (results_none rfl _ _ _) rfl ?_; exact HEN.out)
end Go.Proofs.YtlagghghbpbcbaaGreatDoor.Flows
