import Derived.Test.YtlagghghbpbcbaaGreatDoorStartComesAllP10
import Derived.Test.YtlagghghbpbcbaaGreatDoorStartComesAllP1
import Derived.Test.YtlagghghbpbcbaaGreatDoorStartComesAllP8
import Derived.Test.YtlagghghbpbcbaaGreatDoorStartComesAllP16
import Derived.Lib.SliceRun
/- Package task's Script (layer 11): what it asks for, what it is told, what it tells; all else in memory stays as it was. -/
namespace Go.Proofs.YtlagghghbpbcbaaGreatDoor.Task
set_option maxRecDepth 20000
open Go.ChangeShapes Go.WideShapes Go.RowKit CM DM Lay Ints Cells
set_option linter.unusedVariables false


/-- What slices.Clone ends in: the same elements, in a new row, if there are any. -/
def Cloned {α : Type} (enc : α → List Value) (w : World) (n : Nat) (l : List α) (e : Ending) (w' : World) : Prop :=
  ∃ A' c', e = .returned (.slice A' n c') ∧ Row w' w'.heap.size A' (flat enc l) ∧ (∀ a, A' = some a → w.heap.size ≤ a.block ∧ a.block < w'.heap.size) ∧ Below w.heap.size w w'

theorem new_of_own {w w' : World} {e : TypeId} {size n c : Nat} {A : Option Addr} {xs : List Value} (h : w'.ownsRow w.heap.size e size (.slice A n c) n xs) : ∀ a, A = some a → w.heap.size ≤ a.block ∧ a.block < w'.heap.size := by
  intro a ha
  subst ha
  exact h.lt a.block rfl
set_option linter.unusedSimpArgs false
theorem info_deeds : (Tryz.prog.info? 63).map (fun i => (i.zero, i.size, i.bytes)) = some (some (.agg #[.int .i64 0, .int .i64 0, .int .u64 0, .int .u64 0, .int .u64 0]), 5, 40) := by kernel_rfl
theorem Clone_deeds {A : Option Addr} {n c : Nat} {l : List _} {w : World} (hR : Row w w.heap.size A (flat encD l)) (hn : n = l.length) (hl : n ≤ 1000000) : Calls Tryz.prog 145 #[.slice A n c] w (Cloned encD w n l) := by
  cases A with
  | none =>
    have h0 : l = [] := by
      cases l with
      | nil => rfl
      | cons x xs =>
        obtain ⟨_, _, e, _⟩ := hR (by simp [flat_cons, Open.enc5, Open.enc4, encZ])
        cases e
    subst h0
    subst hn
    clear hR
    have hnil := Lib.run_eql_slice_nil (P := Tryz.prog) w 182 63 none 0 c 0 0 Tryz.underlying182
    go_enter Tryz.func145, Tryz.ntmps145
    go_wp2
    go_ret
    exact ⟨none, 0, rfl, Row.none_, fun a e => (by cases e), Below.refl _ _⟩
  | some a =>
    obtain ⟨i0, hi, hz0, hz1, hz2⟩ := info_parts info_deeds
    have HR := Lib.hid hR
    have HF := Lib.hid (show (flat encD l).length = n * 5 by rw [flat_length encD_length, hn])
    clear hR hn
    have hnil := Lib.run_eql_slice_nil (P := Tryz.prog) w 182 63 (some a) n c 0 0 Tryz.underlying182
    go_enter Tryz.func145, Tryz.ntmps145
    go_wp2_with (at_builtin; refine wpList_append_row _ w rfl (.tmp 5) (.tmp 6) 182 rfl w.heap.size 63 i0 _ 5 40 Tryz.underlying182 hi hz0 hz1 hz2 rfl (by decide) _ 0 [] rfl (World.ownsRow_made w #[] 0 (Nat.le_refl _) (by simp [maxLen]) (by simp)) (some a) n c w.heap.size (flat encD l) rfl HF.out (HR.out.below ((Below.refl _ _).alloc (Nat.le_refl _) _)) (flat_oneCell encD_one l) (by simp only [maxLen]; omega) (by omega) (by simp) ((Below.refl _ _).alloc (Nat.le_refl _) _) ?_; intro A1 c1 w1 hown1 hb1)
    rw [Nat.zero_add, List.nil_append] at hown1
    have HO := Lib.hid hown1
    clear hown1
    go_wp2
    go_ret
    exact ⟨_, _, rfl, Row.of_own HO.out, new_of_own HO.out, hb1⟩
theorem info_words : (Tryz.prog.info? 22).map (fun i => (i.zero, i.size, i.bytes)) = some (some (.int .u64 0), 1, 8) := by kernel_rfl
theorem Clone_words {A : Option Addr} {n c : Nat} {l : List _} {w : World} (hR : Row w w.heap.size A (flat (encZ .u64) l)) (hn : n = l.length) (hl : n ≤ 1000000) : Calls Tryz.prog 156 #[.slice A n c] w (Cloned (encZ .u64) w n l) := by
  cases A with
  | none =>
    have h0 : l = [] := by
      cases l with
      | nil => rfl
      | cons x xs =>
        obtain ⟨_, _, e, _⟩ := hR (by simp [flat_cons, Open.enc5, Open.enc4, encZ])
        cases e
    subst h0
    subst hn
    clear hR
    have hnil := Lib.run_eql_slice_nil (P := Tryz.prog) w 30 22 none 0 c 0 0 Tryz.underlying30
    go_enter Tryz.func156, Tryz.ntmps156
    go_wp2
    go_ret
    exact ⟨none, 0, rfl, Row.none_, fun a e => (by cases e), Below.refl _ _⟩
  | some a =>
    obtain ⟨i0, hi, hz0, hz1, hz2⟩ := info_parts info_words
    have HR := Lib.hid hR
    have HF := Lib.hid (show (flat (encZ .u64) l).length = n * 1 by rw [flat_length (encZ_length .u64), hn])
    clear hR hn
    have hnil := Lib.run_eql_slice_nil (P := Tryz.prog) w 30 22 (some a) n c 0 0 Tryz.underlying30
    go_enter Tryz.func156, Tryz.ntmps156
    go_wp2_with (at_builtin; refine wpList_append_row _ w rfl (.tmp 5) (.tmp 6) 30 rfl w.heap.size 22 i0 _ 1 8 Tryz.underlying30 hi hz0 hz1 hz2 rfl (by decide) _ 0 [] rfl (World.ownsRow_made w #[] 0 (Nat.le_refl _) (by simp [maxLen]) (by simp)) (some a) n c w.heap.size (flat (encZ .u64) l) rfl HF.out (HR.out.below ((Below.refl _ _).alloc (Nat.le_refl _) _)) (flat_oneCell (encZ_one .u64) l) (by simp only [maxLen]; omega) (by omega) (by simp) ((Below.refl _ _).alloc (Nat.le_refl _) _) ?_; intro A1 c1 w1 hown1 hb1)
    rw [Nat.zero_add, List.nil_append] at hown1
    have HO := Lib.hid hown1
    clear hown1
    go_wp2
    go_ret
    exact ⟨_, _, rfl, Row.of_own HO.out, new_of_own HO.out, hb1⟩

/-- A script in block p: its deeds in block q, what it was told in block g. -/
structure Scr (w : World) (p q g : Nat) (ds : List D) (fs : List Int) : Prop where
  box : ∃ A c F fc, w.heap[p]? = some (.cells #[.slice A ds.length c, .slice F fs.length fc] 193 (0, 0)) ∧ Row w w.heap.size A (flat encD ds) ∧ (∀ a, A = some a → a.block = q ∧ q ≠ p) ∧
    w.ownsRow 0 22 1 (.slice F fs.length fc) fs.length (flat (encZ .u64) fs) ∧ (∀ a, F = some a → a.block = g ∧ g ≠ p ∧ g ≠ q)
  most : ds.length ≤ 1000000
  less : fs.length ≤ ds.length
  apart : p < w.heap.size ∧ q < w.heap.size ∧ g < w.heap.size

theorem Scr.only {w w' : World} {p q g : Nat} {ds : List D} {fs : List Int} {R : Nat → Prop} (h : Scr w p q g ds fs) (ho : Only R w w') (hp : ¬ R p) (hq : ¬ R q) (hg : ¬ R g) : Scr w' p q g ds fs := by
  obtain ⟨⟨A, c, F, fc, hb, hr, ha, hf, hfa⟩, h1, h2, l1, l2, l3⟩ := h
  have hs := ho.size
  refine ⟨⟨A, c, F, fc, ho.heap hb hp, ho.row hr (fun _ a e => by rw [(ha a e).1]; exact hq), ha, ho.own hf (fun k e => ?_), hfa⟩, h1, h2, by omega, by omega, by omega⟩
  cases F with
  | none => cases e
  | some a => cases e; rw [(hfa a rfl).1]; exact hg
theorem Scr.later {w w' : World} {p q g : Nat} {ds : List D} {fs : List Int} (h : Scr w p q g ds fs) (hb : Below w.heap.size w w') : Scr w' p q g ds fs :=
  h.only (only_below (fun _ => False) hb) id id id

theorem NewScript_any {A : Option Addr} {n c : Nat} {ds : List D} {w : World} (hR : Row w w.heap.size A (flat encD ds)) (hn : n = ds.length) (hl : n ≤ 1000000) : Calls Tryz.prog 136 #[.slice A n c] w fun e w' =>
    ∃ p q, e = .returned (.pointer (some ⟨p, 0, none⟩)) ∧ Scr w' p q p ds [] ∧ w.heap.size ≤ p ∧ w.heap.size ≤ q ∧ Below w.heap.size w w' := by
  have HR := Lib.hid hR
  have HN := Lib.hid hn
  clear hR hn
  go_enter Tryz.func136, Tryz.ntmps136
  go_wp2_with fail
  refine (Clone_deeds HR.out HN.out hl).mono ?_
  rintro e w1 ⟨A', c', rfl, hr, ha, hb⟩
  have HR1 := Lib.hid hr
  have HA1 := Lib.hid ha
  have HB1 := Lib.hid hb
  clear hr ha hb
  go_wp2
  go_ret
  have h0 := HB1.out.size
  have hb : Below w1.heap.size w1 (w1.alloc (.cells #[.slice A' n c', .slice none 0 0] 193)) := (Below.refl _ _).alloc (Nat.le_refl _) _
  have hbox := new_heap w1 (.cells #[.slice A' n c', .slice none 0 0] 193)
  have hr2 := HR1.out.later hb
  have h1 : n = ds.length := HN.out
  subst h1
  cases A' with
  | none => exact ⟨w1.heap.size, w1.heap.size, rfl, ⟨⟨_, _, _, _, hbox, hr2, fun a e => (by cases e), World.ownsRow_nil _ _ _ _, fun a e => (by cases e)⟩, hl, Nat.zero_le _, by simp, by simp, by simp⟩, h0, h0, HB1.out.trans (hb.mono h0)⟩
  | some a =>
    obtain ⟨a1, a2⟩ := HA1.out a rfl
    exact ⟨w1.heap.size, a.block, rfl, ⟨⟨_, _, _, _, hbox, hr2, fun a e => (by cases e; exact ⟨rfl, by omega⟩), World.ownsRow_nil _ _ _ _, fun a e => (by cases e)⟩, hl, Nat.zero_le _, by simp, by simp; omega, by simp⟩, h0, a1, HB1.out.trans (hb.mono h0)⟩

theorem Next_more {p q g : Nat} {ds : List D} {fs : List Int} {w : World} (hS : Scr w p q g ds fs) {x : D} (hx : ds[fs.length]? = some x) : Calls Tryz.prog 223 #[.pointer (some ⟨p, 0, none⟩)] w fun e w' =>
    e = .returned (.tuple #[.agg #[.int .i64 x.1, .int .i64 x.2.1, .int .u64 x.2.2.1, .int .u64 x.2.2.2.1, .int .u64 x.2.2.2.2], .bool true]) ∧ Below w.heap.size w w' := by
  obtain ⟨⟨A, c, F, fc, hb, hr, ha, hf, hfa⟩, h1, h2, l1, l2, l3⟩ := hS
  have hlt : fs.length < ds.length := (List.getElem?_eq_some_iff.1 hx).1
  obtain ⟨b, o, rfl, hbl, hc⟩ := Open.five_at hr hlt
  obtain ⟨d0, d1, d2, d3, d4⟩ := hc _ x hx
  have c0 := (cell_heap hb 0).1
  have c1 := (cell_heap hb 1).1
  simp at c0 c1
  clear hr ha hf hfa hc hb hx
  obtain ⟨n, hn⟩ : ∃ n, n = ds.length := ⟨_, rfl⟩
  obtain ⟨m, hm⟩ : ∃ m, m = fs.length := ⟨_, rfl⟩
  rw [← hn] at h1 h2 hlt c0
  rw [← hm] at h2 hlt c1 d0 d1 d2 d3 d4
  clear hn hm
  have hne : ((m : Int) == (n : Int)) = false := by simp; omega
  have hlt' : (m : Int) < (n : Int) := by omega
  have B1 := (Below.refl w.heap.size w).alloc (Nat.le_refl _) (.cells #[.int .i64 0, .int .i64 0, .int .u64 0, .int .u64 0, .int .u64 0] 63)
  have C0 := fun z : After (w.alloc (.cells #[.int .i64 0, .int .i64 0, .int .u64 0, .int .u64 0, .int .u64 0] 63)) => z.cell (cell_later B1 c0)
  have C1 := fun z : After (w.alloc (.cells #[.int .i64 0, .int .i64 0, .int .u64 0, .int .u64 0, .int .u64 0] 63)) => z.cell (cell_later B1 c1)
  go_enter Tryz.func223, Tryz.ntmps223
  go_wp2
  refine wp_region_after mixed (by kernel_rfl) ?_
  repeat (first | go_big_quiet_step (fail) | quiet_step (fail))
  refine wpQuiet_nil ?_
  intro _ hw'
  obtain ⟨pq, hw''⟩ := hw'
  subst hw''
  have e0 := pq.cell (cell_later B1 c0)
  have e1 := pq.cell (cell_later B1 c1)
  have E0 := pq.cell (cell_later B1 d0)
  have E1 := pq.cell (cell_later B1 d1)
  have E2 := pq.cell (cell_later B1 d2)
  have E3 := pq.cell (cell_later B1 d3)
  have E4 := pq.cell (cell_later B1 d4)
  have hq := pq.ok
  obtain ⟨⟨r0, r1, r2, r3, r4⟩, f0, f1, f2, f3, f4⟩ := res5 pq.ok
  generalize pq.x = wq at *
  go_wp2
  go_region
  obtain ⟨⟨s0, s1, s2, s3, s4⟩, hB⟩ := set5 hq (.int .i64 x.1) (.int .i64 x.2.1) (.int .u64 x.2.2.1) (.int .u64 x.2.2.2.1) (.int .u64 x.2.2.2.2)
  have HB := Lib.hid hB
  clear hB hq r0 r1 r2 r3 r4 f0 f1 f2 f3 f4
  go_wp2
  exact bodyPost_ret (v := .tuple #[.agg #[.int .i64 x.1, .int .i64 x.2.1, .int .u64 x.2.2.1, .int .u64 x.2.2.2.1, .int .u64 x.2.2.2.2], .bool true]) (by simp [results, Tryz.results223, go_sem, s0, s1, s2, s3, s4]) rfl ⟨rfl, HB.out.drew⟩
theorem Next_done {p q g : Nat} {ds : List D} {fs : List Int} {w : World} (hS : Scr w p q g ds fs) (hx : fs.length = ds.length) : Calls Tryz.prog 223 #[.pointer (some ⟨p, 0, none⟩)] w fun e w' =>
    e = .returned (.tuple #[.agg #[.int .i64 0, .int .i64 0, .int .u64 0, .int .u64 0, .int .u64 0], .bool false]) ∧ Below w.heap.size w w' := by
  obtain ⟨⟨A, c, F, fc, hb, hr, ha, hf, hfa⟩, h1, h2, l1, l2, l3⟩ := hS
  have c0 := (cell_heap hb 0).1
  have c1 := (cell_heap hb 1).1
  simp at c0 c1
  rw [hx] at c1
  clear hr ha hf hfa hb hx h2
  obtain ⟨n, hn⟩ : ∃ n, n = ds.length := ⟨_, rfl⟩
  rw [← hn] at h1 c0 c1
  clear hn
  have B1 := (Below.refl w.heap.size w).alloc (Nat.le_refl _) (.cells #[.int .i64 0, .int .i64 0, .int .u64 0, .int .u64 0, .int .u64 0] 63)
  have C0 := fun z : After (w.alloc (.cells #[.int .i64 0, .int .i64 0, .int .u64 0, .int .u64 0, .int .u64 0] 63)) => z.cell (cell_later B1 c0)
  have C1 := fun z : After (w.alloc (.cells #[.int .i64 0, .int .i64 0, .int .u64 0, .int .u64 0, .int .u64 0] 63)) => z.cell (cell_later B1 c1)
  go_enter Tryz.func223, Tryz.ntmps223
  go_wp2
  refine wp_region_after mixed (by kernel_rfl) ?_
  repeat (first | go_big_quiet_step (fail) | quiet_step (fail))
  refine wpQuiet_nil ?_
  intro _ hw'
  obtain ⟨pq, hw''⟩ := hw'
  subst hw''
  have hq := pq.ok
  obtain ⟨⟨r0, r1, r2, r3, r4⟩, f0, f1, f2, f3, f4⟩ := res5 pq.ok
  generalize pq.x = wq at *
  have HQ := Lib.hid hq
  clear hq C0 C1 B1 c0 c1
  go_wp2
  obtain ⟨⟨s0, s1, s2, s3, s4⟩, hB⟩ := set5 HQ.out (.int .i64 0) (.int .i64 0) (.int .u64 0) (.int .u64 0) (.int .u64 0)
  exact bodyPost_ret (v := .tuple #[.agg #[.int .i64 0, .int .i64 0, .int .u64 0, .int .u64 0, .int .u64 0], .bool false]) (by simp [results, Tryz.results223, go_sem, s0, s1, s2, s3, s4]) rfl ⟨rfl, hB⟩
end Go.Proofs.YtlagghghbpbcbaaGreatDoor.Task

/- Package task's Script, further: what it is told, and what it tells of that. -/
namespace Go.Proofs.YtlagghghbpbcbaaGreatDoor.Task
set_option maxRecDepth 20000
open Go.ChangeShapes Go.WideShapes Go.RowKit CM DM Lay Ints Cells
set_option linter.unusedVariables false

/-- A script that was told v more: its words may lie in a new block; nothing else has turned. -/
def WasTold (w : World) (p q g : Nat) (ds : List D) (fs : List Int) (e : Ending) (w' : World) : Prop :=
  ∃ g', e = .returned (.tuple #[]) ∧ Scr w' p q g' ds fs ∧ (g' = g ∨ w.heap.size ≤ g') ∧ Only (fun k => k = p ∨ k = g) w w'

theorem told_end {w w1 w3 : World} {p q g g2 m cap c fc : Nat} {A F : Option Addr} {ds : List D} {fs : List Int} {v : Int} {o1 o2 : Obj}
    (hb : w.heap[p]? = some (.cells #[.slice A ds.length c, .slice F fs.length fc] 193 (0, 0))) (hr : Row w w.heap.size A (flat encD ds)) (ha : ∀ a, A = some a → a.block = q ∧ q ≠ p)
    (hfa : ∀ a, F = some a → a.block = g ∧ g ≠ p ∧ g ≠ q) (h1 : ds.length ≤ 1000000) (hlt : fs.length < ds.length) (l1 : p < w.heap.size) (l2 : q < w.heap.size) (l3 : g < w.heap.size) (hm : m = fs.length)
    (hB : Below w.heap.size w w1) (ho : w3.ownsRow 0 22 1 (.slice (some ⟨g2, 0, none⟩) (m + 1) cap) (m + 1) (flat (encZ .u64) fs ++ encZ .u64 v)) (hlt2 : g2 < w3.heap.size)
    (hor : (Value.slice F m fc).ownBlock = some g2 ∨ g2 = ((w1.alloc o1).alloc o2).heap.size) (hon : Only (fun k => (Value.slice F m fc).ownBlock = some k) ((w1.alloc o1).alloc o2) w3) :
    WasTold w p q g ds (fs ++ [v]) (.returned (.tuple #[])) (w3.setCell ⟨p, 1, none⟩ (.slice (some ⟨g2, 0, none⟩) (m + 1) cap)) := by
  subst hm
  have hs := hB.size
  have hB2 : Below w.heap.size w ((w1.alloc o1).alloc o2) := (hB.alloc hs _).alloc (by simp; omega) _
  have hR : ∀ k, (Value.slice F fs.length fc).ownBlock = some k → k = g ∧ g ≠ p ∧ g ≠ q := by
    intro k hk
    cases F with
    | none => cases hk
    | some a =>
      cases hk
      exact hfa a rfl
  have hW3 : Only (fun k => k = g ∧ g ≠ p ∧ g ≠ q) w w3 := ((only_below _ hB2).trans (hon.wide fun i hi => .inl (hR i hi)))
  have hbox := hW3.heap hb (fun e => by omega)
  have hrow := hW3.row hr (fun _ a e => by rw [(ha a e).1]; exact fun e => by omega)
  have hg2 : g2 = g ∧ g ≠ p ∧ g ≠ q ∨ w.heap.size ≤ g2 := by
    rcases hor with h | h
    · exact .inl (hR g2 h)
    · right
      rw [h]
      simp
      omega
  have hgp : g2 ≠ p ∧ g2 ≠ q := by
    rcases hg2 with ⟨rfl, h2, h3⟩ | h
    · exact ⟨h2, h3⟩
    · omega
  have hs3 := hW3.size
  have hSet : Only (fun k => k = p) w3 (w3.setCell ⟨p, 1, none⟩ (.slice (some ⟨g2, 0, none⟩) (fs.length + 1) cap)) := only_setCell (R := fun k => k = p) w3 rfl _
  refine ⟨g2, rfl, ⟨⟨A, c, some ⟨g2, 0, none⟩, cap, ?_, hSet.row hrow (fun hn a e => ?_), ha, ?_, fun a e => ?_⟩, h1, by simp; omega, by simp; omega, by simp; omega, by simp; omega⟩, hg2.elim (fun h => .inl h.1) .inr, ?_⟩
  · have := set_heap (j := 1) hbox (.slice (some ⟨g2, 0, none⟩) (fs.length + 1) cap)
    simpa using this
  · rw [(ha a e).1]
    exact (ha a e).2
  · have h := hSet.own ho (fun k hk => by cases hk; exact hgp.1)
    have e1 : flat (encZ .u64) (fs ++ [v]) = flat (encZ .u64) fs ++ encZ .u64 v := by rw [flat_append, flat_one]
    rw [e1]
    simpa using h
  · cases e
    exact ⟨rfl, hgp.1, hgp.2⟩
  · exact (hW3.wide fun i hi => .inl (.inr hi.1)).setCell (.inl (.inl rfl)) _
/-- The struct, behind the append. -/
theorem told_box {w w1 w3 : World} {p q g n m c fc : Nat} {A F : Option Addr} {o1 o2 : Obj} (hb : w.heap[p]? = some (.cells #[.slice A n c, .slice F m fc] 193 (0, 0)))
    (hfa : ∀ a, F = some a → a.block = g ∧ g ≠ p ∧ g ≠ q) (hB : Below w.heap.size w w1) (hon : Only (fun k => (Value.slice F m fc).ownBlock = some k) ((w1.alloc o1).alloc o2) w3) :
    w3.cell? ⟨p, 1, none⟩ = some (.slice F m fc) ∧ w3.frozen? ⟨p, 1, none⟩ = false := by
  have hs := hB.size
  have hB2 : Below w.heap.size w ((w1.alloc o1).alloc o2) := (hB.alloc hs _).alloc (by simp; omega) _
  have hlt := (Array.getElem?_eq_some_iff.1 hb).1
  have h := hon.heap ((hB2.block p hlt).trans hb) (fun e => by
    cases F with
    | none => cases e
    | some a =>
      cases e
      have := hfa a rfl
      omega)
  exact ⟨(cell_heap h 1).1, (cell_heap h 1).2⟩
theorem cells_new1 (w : World) (o : Obj) (cs : Array Value) (t : TypeId) : ∀ j u, cs.toList[j]? = some u → ((w.alloc o).alloc (.cells cs t)).cell? ((⟨w.heap.size + 1, 0, none⟩ : Addr).add j) = some u := by
  intro j u hu
  have h := cells_new (w.alloc o) cs t j u hu
  rwa [World.size_alloc] at h
theorem Tell_more {p q g : Nat} {ds : List D} {fs : List Int} {w : World} (hS : Scr w p q g ds fs) (hlt : fs.length < ds.length) (v : Int) : Calls Tryz.prog 224 #[.pointer (some ⟨p, 0, none⟩), .int .u64 v] w (WasTold w p q g ds (fs ++ [v])) := by
  have HN := Lib.hid (Next_more hS (List.getElem?_eq_getElem hlt))
  obtain ⟨⟨A, c, F, fc, hb, hr, ha, hf, hfa⟩, h1, h2, l1, l2, l3⟩ := hS
  have c1 := (cell_heap hb 1).1
  simp at c1
  obtain ⟨m, hm⟩ : ∃ m, m = fs.length := ⟨_, rfl⟩
  rw [← hm] at c1 hf
  have hm6 : m ≤ 1000000 := by omega
  have HF := Lib.hid hf
  have HB := Lib.hid hb
  have HEND := Lib.hid fun w1 w3 g2 cap o1 o2 => told_end (w1 := w1) (w3 := w3) (g2 := g2) (cap := cap) (v := v) (o1 := o1) (o2 := o2) hb hr ha hfa h1 hlt l1 l2 l3 hm
  have HP := Lib.hid fun w1 w3 o1 o2 => told_box (w1 := w1) (w3 := w3) (m := m) (o1 := o1) (o2 := o2) (by rw [hm]; exact hb) hfa
  generalize ds[fs.length] = x at HN
  obtain ⟨i0, hi, hz0, hz1, hz2⟩ := info_parts info_words
  clear hb hr ha hf hfa h1 h2 l1 l2 l3 hm hlt
  go_enter Tryz.func224, Tryz.ntmps224
  go_wp2_with fail
  refine (HN.out).mono ?_
  rintro e w' ⟨rfl, hb1⟩
  have c2 := cell_later ((Below.refl _ _).alloc (Nat.le_refl w'.heap.size) (.cells #[.int .i64 x.1, .int .i64 x.2.1, .int .u64 x.2.2.1, .int .u64 x.2.2.2.1, .int .u64 x.2.2.2.2] 63)) (cell_later hb1 c1)
  have HF1 := Lib.hid (own_later HF.out hb1)
  have HB1 := Lib.hid hb1
  clear hb1 c1
  go_wp2_with (at_builtin; refine wpList_append_only _ rfl (.tmp 16) (.tmp 18) 30 rfl 0 22 i0 _ 1 8 Tryz.underlying30 hi hz0 hz1 hz2 rfl (by decide) _ m _ rfl ((HF1.out.alloc _).alloc _) ⟨w'.heap.size + 1, 0, none⟩ 1 1 (encZ .u64 v) rfl (by decide) rfl (cells_new1 _ _ _ _) (encZ_one _ _) (by simp only [maxLen]; omega) (by omega) (Nat.zero_le _) ?_; intro g2 cap w3 ho2 hg2 hlt2 hor2 hon2; obtain ⟨k1, k2⟩ := HP.out _ _ _ _ HB1.out hon2; have HEN := Lib.hid (HEND.out _ _ _ _ _ _ HB1.out ho2 hlt2 hor2 hon2); clear ho2 hor2 hon2)
  refine bodyPost_end (results_none rfl _ _ _) rfl ?_
  exact HEN.out
theorem Tell_done {p q g : Nat} {ds : List D} {fs : List Int} {w : World} (hS : Scr w p q g ds fs) (hlt : fs.length = ds.length) (v : Int) : Calls Tryz.prog 224 #[.pointer (some ⟨p, 0, none⟩), .int .u64 v] w fun e w' => e = .returned (.tuple #[]) ∧ Below w.heap.size w w' := by
  have HN := Lib.hid (Next_done hS hlt)
  clear hS hlt
  go_enter Tryz.func224, Tryz.ntmps224
  go_wp2_with fail
  refine (HN.out).mono ?_
  rintro e w' ⟨rfl, hb1⟩
  go_wp2
  refine bodyPost_end (results_none rfl _ _ _) rfl ?_
  exact ⟨rfl, hb1.alloc hb1.size _⟩
end Go.Proofs.YtlagghghbpbcbaaGreatDoor.Task
