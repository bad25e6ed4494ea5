/- Package task's Script, further: what it is told, and what it tells of that. -/
import Derived.Test.YthlamnghbdaaiaaDoorTaskScript
namespace Go.Proofs.YthlamnghbdaaiaaDoor.Task
open Go.ChangeShapes Go.WideShapes Go.RowKit CM DM Lay Ints Cells
set_option linter.unusedVariables false

/-- A script that was told v more: its words may lie in a new block; nothing else has turned. -/
def WasTold (w : World) (p q g : Nat) (ds : List D) (fs : List Int) (e : Ending) (w' : World) : Prop :=
  ∃ g', e = .returned (.tuple #[]) ∧ Scr w' p q g' ds fs ∧ (g' = g ∨ w.heap.size ≤ g') ∧ Only (fun k => k = p ∨ k = g) w w'

theorem told_end {w w1 w3 : World} {p q g g2 m cap c fc : Nat} {A F : Option Addr} {ds : List D} {fs : List Int} {v : Int} {o1 o2 : Obj}
    (hb : w.heap[p]? = some (.cells #[.slice A ds.length c, .slice F fs.length fc] 54 (0, 0))) (hr : Row w w.heap.size A (flat encD ds)) (ha : ∀ a, A = some a → a.block = q ∧ q ≠ p)
    (hfa : ∀ a, F = some a → a.block = g ∧ g ≠ p ∧ g ≠ q) (h1 : ds.length ≤ 1000000) (hlt : fs.length < ds.length) (l1 : p < w.heap.size) (l2 : q < w.heap.size) (l3 : g < w.heap.size) (hm : m = fs.length)
    (hB : Below w.heap.size w w1) (ho : w3.ownsRow 0 40 1 (.slice (some ⟨g2, 0, none⟩) (m + 1) cap) (m + 1) (flat (encZ .u64) fs ++ encZ .u64 v)) (hlt2 : g2 < w3.heap.size)
    (hor : (Value.slice F m fc).ownBlock = some g2 ∨ g2 = ((w1.alloc o1).alloc o2).heap.size) (hon : Only (fun k => (Value.slice F m fc).ownBlock = some k) ((w1.alloc o1).alloc o2) w3) :
    WasTold w p q g ds (fs ++ [v]) (.returned (.tuple #[])) (w3.setCell ⟨p, 1, none⟩ (.slice (some ⟨g2, 0, none⟩) (m + 1) cap)) := by
  subst hm
  have hs := hB.size
  have hB2 : Below w.heap.size w ((w1.alloc o1).alloc o2) := (hB.alloc hs _).alloc (by simp; omega) _
  have hR : ∀ k, (Value.slice F fs.length fc).ownBlock = some k → k = g ∧ g ≠ p ∧ g ≠ q := by
    intro k hk
    cases F with
    | none => cases hk
    | some a =>
      cases hk
      exact hfa a rfl
  have hW3 : Only (fun k => k = g ∧ g ≠ p ∧ g ≠ q) w w3 := ((only_below _ hB2).trans (hon.wide fun i hi => .inl (hR i hi)))
  have hbox := hW3.heap hb (fun e => by omega)
  have hrow := hW3.row hr (fun _ a e => by rw [(ha a e).1]; exact fun e => by omega)
  have hg2 : g2 = g ∧ g ≠ p ∧ g ≠ q ∨ w.heap.size ≤ g2 := by
    rcases hor with h | h
    · exact .inl (hR g2 h)
    · right
      rw [h]
      simp
      omega
  have hgp : g2 ≠ p ∧ g2 ≠ q := by
    rcases hg2 with ⟨rfl, h2, h3⟩ | h
    · exact ⟨h2, h3⟩
    · omega
  have hs3 := hW3.size
  have hSet : Only (fun k => k = p) w3 (w3.setCell ⟨p, 1, none⟩ (.slice (some ⟨g2, 0, none⟩) (fs.length + 1) cap)) := only_setCell (R := fun k => k = p) w3 rfl _
  refine ⟨g2, rfl, ⟨⟨A, c, some ⟨g2, 0, none⟩, cap, ?_, hSet.row hrow (fun hn a e => ?_), ha, ?_, fun a e => ?_⟩, h1, by simp; omega, by simp; omega, by simp; omega, by simp; omega⟩, hg2.elim (fun h => .inl h.1) .inr, ?_⟩
  · have := set_heap (j := 1) hbox (.slice (some ⟨g2, 0, none⟩) (fs.length + 1) cap)
    simpa using this
  · rw [(ha a e).1]
    exact (ha a e).2
  · have h := hSet.own ho (fun k hk => by cases hk; exact hgp.1)
    have e1 : flat (encZ .u64) (fs ++ [v]) = flat (encZ .u64) fs ++ encZ .u64 v := by rw [flat_append, flat_one]
    rw [e1]
    simpa using h
  · cases e
    exact ⟨rfl, hgp.1, hgp.2⟩
  · exact (hW3.wide fun i hi => .inl (.inr hi.1)).setCell (.inl (.inl rfl)) _
/-- The struct, behind the append. -/
theorem told_box {w w1 w3 : World} {p q g n m c fc : Nat} {A F : Option Addr} {o1 o2 : Obj} (hb : w.heap[p]? = some (.cells #[.slice A n c, .slice F m fc] 54 (0, 0)))
    (hfa : ∀ a, F = some a → a.block = g ∧ g ≠ p ∧ g ≠ q) (hB : Below w.heap.size w w1) (hon : Only (fun k => (Value.slice F m fc).ownBlock = some k) ((w1.alloc o1).alloc o2) w3) :
    w3.cell? ⟨p, 1, none⟩ = some (.slice F m fc) ∧ w3.frozen? ⟨p, 1, none⟩ = false := by
  have hs := hB.size
  have hB2 : Below w.heap.size w ((w1.alloc o1).alloc o2) := (hB.alloc hs _).alloc (by simp; omega) _
  have hlt := (Array.getElem?_eq_some_iff.1 hb).1
  have h := hon.heap ((hB2.block p hlt).trans hb) (fun e => by
    cases F with
    | none => cases e
    | some a =>
      cases e
      have := hfa a rfl
      omega)
  exact ⟨(cell_heap h 1).1, (cell_heap h 1).2⟩
theorem cells_new1 (w : World) (o : Obj) (cs : Array Value) (t : TypeId) : ∀ j u, cs.toList[j]? = some u → ((w.alloc o).alloc (.cells cs t)).cell? ((⟨w.heap.size + 1, 0, none⟩ : Addr).add j) = some u := by
  intro j u hu
  have h := cells_new (w.alloc o) cs t j u hu
  rwa [World.size_alloc] at h
theorem Tell_more {p q g : Nat} {ds : List D} {fs : List Int} {w : World} (hS : Scr w p q g ds fs) (hlt : fs.length < ds.length) (v : Int) : Calls Tryd.prog 15 #[.pointer (some ⟨p, 0, none⟩), .int .u64 v] w (WasTold w p q g ds (fs ++ [v])) := by
  have HN := Lib.hid (Next_more hS (List.getElem?_eq_getElem hlt))
  obtain ⟨⟨A, c, F, fc, hb, hr, ha, hf, hfa⟩, h1, h2, l1, l2, l3⟩ := hS
  have c1 := (cell_heap hb 1).1
  simp at c1
  obtain ⟨m, hm⟩ : ∃ m, m = fs.length := ⟨_, rfl⟩
  rw [← hm] at c1 hf
  have hm6 : m ≤ 1000000 := by omega
  have HF := Lib.hid hf
  have HB := Lib.hid hb
  have HEND := Lib.hid fun w1 w3 g2 cap o1 o2 => told_end (w1 := w1) (w3 := w3) (g2 := g2) (cap := cap) (v := v) (o1 := o1) (o2 := o2) hb hr ha hfa h1 hlt l1 l2 l3 hm
  have HP := Lib.hid fun w1 w3 o1 o2 => told_box (w1 := w1) (w3 := w3) (m := m) (o1 := o1) (o2 := o2) (by rw [hm]; exact hb) hfa
  generalize ds[fs.length] = x at HN
  obtain ⟨i0, hi, hz0, hz1, hz2⟩ := info_parts info_words
  clear hb hr ha hf hfa h1 h2 l1 l2 l3 hm hlt
  go_enter Tryd.func15, Tryd.ntmps15
  go_wp2_with fail
  refine (HN.out).mono ?_
  rintro e w' ⟨rfl, hb1⟩
  have c2 := cell_later ((Below.refl _ _).alloc (Nat.le_refl w'.heap.size) (.cells #[.int .i64 x.1, .int .i64 x.2.1, .int .u64 x.2.2.1, .int .u64 x.2.2.2.1, .int .u64 x.2.2.2.2] 42)) (cell_later hb1 c1)
  have HF1 := Lib.hid (own_later HF.out hb1)
  have HB1 := Lib.hid hb1
  clear hb1 c1
  go_wp2_with (at_builtin; refine wpList_append_only _ rfl (.tmp 16) (.tmp 18) 22 rfl 0 40 i0 _ 1 8 Tryd.underlying22 hi hz0 hz1 hz2 rfl (by decide) _ m _ rfl ((HF1.out.alloc _).alloc _) ⟨w'.heap.size + 1, 0, none⟩ 1 1 (encZ .u64 v) rfl (by decide) rfl (cells_new1 _ _ _ _) (encZ_one _ _) (by simp only [maxLen]; omega) (by omega) (Nat.zero_le _) ?_; intro g2 cap w3 ho2 hg2 hlt2 hor2 hon2; obtain ⟨k1, k2⟩ := HP.out _ _ _ _ HB1.out hon2; have HEN := Lib.hid (HEND.out _ _ _ _ _ _ HB1.out ho2 hlt2 hor2 hon2); clear ho2 hor2 hon2)
  refine bodyPost_end (results_none rfl _ _ _) rfl ?_
  exact HEN.out
theorem Tell_done {p q g : Nat} {ds : List D} {fs : List Int} {w : World} (hS : Scr w p q g ds fs) (hlt : fs.length = ds.length) (v : Int) : Calls Tryd.prog 15 #[.pointer (some ⟨p, 0, none⟩), .int .u64 v] w fun e w' => e = .returned (.tuple #[]) ∧ Below w.heap.size w w' := by
  have HN := Lib.hid (Next_done hS hlt)
  clear hS hlt
  go_enter Tryd.func15, Tryd.ntmps15
  go_wp2_with fail
  refine (HN.out).mono ?_
  rintro e w' ⟨rfl, hb1⟩
  go_wp2
  refine bodyPost_end (results_none rfl _ _ _) rfl ?_
  exact ⟨rfl, hb1.alloc hb1.size _⟩
theorem Found_any {p q g : Nat} {ds : List D} {fs : List Int} {w : World} (hS : Scr w p q g ds fs) : Calls Tryd.prog 13 #[.pointer (some ⟨p, 0, none⟩)] w (Cloned (encZ .u64) w fs.length fs) := by
  obtain ⟨⟨A, c, F, fc, hb, hr, ha, hf, hfa⟩, h1, h2, l1, l2, l3⟩ := hS
  have c1 := (cell_heap hb 1).1
  simp at c1
  have HC := Lib.hid (Clone_words (c := fc) (Row.of_own hf) rfl (by omega))
  generalize fs.length = m at c1 HC
  clear hb hr ha hf hfa h1 h2 l1 l2 l3
  go_enter Tryd.func13, Tryd.ntmps13
  go_wp2_with fail
  refine (HC.out).mono ?_
  rintro e w' ⟨A', c', rfl, hr, ha, hb⟩
  have HR := Lib.hid hr
  have HA := Lib.hid ha
  clear hr ha
  go_wp2
  go_ret
  exact ⟨_, _, rfl, HR.out, HA.out, hb⟩
theorem Found_n {p q g m : Nat} {ds : List D} {fs : List Int} {w : World} (hm : m = fs.length) (hS : Scr w p q g ds fs) : Calls Tryd.prog 13 #[.pointer (some ⟨p, 0, none⟩)] w (Cloned (encZ .u64) w m fs) := by
  subst hm
  exact Found_any hS
theorem Found_nil (w : World) : Calls Tryd.prog 13 #[.pointer none] w fun e w' => e = .returned (.slice none 0 0) ∧ w = w' := by
  go_enter Tryd.func13, Tryd.ntmps13
  go_wp2
  go_ret
  exact ⟨rfl, rfl⟩
end Go.Proofs.YthlamnghbdaaiaaDoor.Task
