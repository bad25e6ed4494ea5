/- Package task's Script (layer 11): what it asks for, what it is told, what it tells; all else in memory stays as it was. -/
import Derived.Test.YthlamnghbdaaiaaDoorCellsRef
import Derived.Test.YthlamnghbdaaiaaDoorDeedMath
import Derived.Test.YthlamnghbdaaiaaDoorFive
import Derived.Test.YthlamnghbdaaiaaDoorOnly
import Derived.Lib.SliceRun
namespace Go.Proofs.YthlamnghbdaaiaaDoor.Task
open Go.ChangeShapes Go.WideShapes Go.RowKit CM DM Lay Ints Cells
set_option linter.unusedVariables false


abbrev encD : D → List Value := Open.enc5 .i64 .i64 .u64 .u64 .u64
theorem encD_length (x : D) : (encD x).length = 5 := rfl
theorem encD_one (x : D) : ∀ v ∈ encD x, v.oneCell' = true := by
  intro v hv
  simp [encD, Open.enc5] at hv
  rcases hv with rfl | rfl | rfl | rfl | rfl <;> rfl
abbrev encA : (Int × Int × Int × Int) → List Value := Open.enc4 .i64 .u64 .i64 .i64
theorem encA_length (x : Int × Int × Int × Int) : (encA x).length = 4 := rfl
theorem encA_one (x : Int × Int × Int × Int) : ∀ v ∈ encA x, v.oneCell' = true := by
  intro v hv
  simp [encA, Open.enc4] at hv
  rcases hv with rfl | rfl | rfl | rfl <;> rfl

/-- What slices.Clone ends in: the same elements, in a new row, if there are any. -/
def Cloned {α : Type} (enc : α → List Value) (w : World) (n : Nat) (l : List α) (e : Ending) (w' : World) : Prop :=
  ∃ A' c', e = .returned (.slice A' n c') ∧ Row w' w'.heap.size A' (flat enc l) ∧ (∀ a, A' = some a → w.heap.size ≤ a.block ∧ a.block < w'.heap.size) ∧ Below w.heap.size w w'

theorem new_of_own {w w' : World} {e : TypeId} {size n c : Nat} {A : Option Addr} {xs : List Value} (h : w'.ownsRow w.heap.size e size (.slice A n c) n xs) : ∀ a, A = some a → w.heap.size ≤ a.block ∧ a.block < w'.heap.size := by
  intro a ha
  subst ha
  exact h.lt a.block rfl
set_option linter.unusedSimpArgs false
theorem info_deeds : (Tryd.prog.info? 42).map (fun i => (i.zero, i.size, i.bytes)) = some (some (.agg #[.int .i64 0, .int .i64 0, .int .u64 0, .int .u64 0, .int .u64 0]), 5, 40) := by kernel_rfl
theorem Clone_deeds {A : Option Addr} {n c : Nat} {l : List _} {w : World} (hR : Row w w.heap.size A (flat encD l)) (hn : n = l.length) (hl : n ≤ 1000000) : Calls Tryd.prog 18 #[.slice A n c] w (Cloned encD w n l) := by
  cases A with
  | none =>
    have h0 : l = [] := by
      cases l with
      | nil => rfl
      | cons x xs =>
        obtain ⟨_, _, e, _⟩ := hR (by simp [flat_cons, Open.enc5, Open.enc4, encZ])
        cases e
    subst h0
    subst hn
    clear hR
    have hnil := Lib.run_eql_slice_nil (P := Tryd.prog) w 23 42 none 0 c 0 0 Tryd.underlying23
    go_enter Tryd.func18, Tryd.ntmps18
    go_wp2
    go_ret
    exact ⟨none, 0, rfl, Row.none_, fun a e => (by cases e), Below.refl _ _⟩
  | some a =>
    obtain ⟨i0, hi, hz0, hz1, hz2⟩ := info_parts info_deeds
    have HR := Lib.hid hR
    have HF := Lib.hid (show (flat encD l).length = n * 5 by rw [flat_length encD_length, hn])
    clear hR hn
    have hnil := Lib.run_eql_slice_nil (P := Tryd.prog) w 23 42 (some a) n c 0 0 Tryd.underlying23
    go_enter Tryd.func18, Tryd.ntmps18
    go_wp2_with (at_builtin; refine wpList_append_row _ w rfl (.tmp 5) (.tmp 6) 23 rfl w.heap.size 42 i0 _ 5 40 Tryd.underlying23 hi hz0 hz1 hz2 rfl (by decide) _ 0 [] rfl (World.ownsRow_made w #[] 0 (Nat.le_refl _) (by simp [maxLen]) (by simp)) (some a) n c w.heap.size (flat encD l) rfl HF.out (HR.out.below ((Below.refl _ _).alloc (Nat.le_refl _) _)) (flat_oneCell encD_one l) (by simp only [maxLen]; omega) (by omega) (by simp) ((Below.refl _ _).alloc (Nat.le_refl _) _) ?_; intro A1 c1 w1 hown1 hb1)
    rw [Nat.zero_add, List.nil_append] at hown1
    have HO := Lib.hid hown1
    clear hown1
    go_wp2
    go_ret
    exact ⟨_, _, rfl, Row.of_own HO.out, new_of_own HO.out, hb1⟩
theorem info_words : (Tryd.prog.info? 40).map (fun i => (i.zero, i.size, i.bytes)) = some (some (.int .u64 0), 1, 8) := by kernel_rfl
theorem Clone_words {A : Option Addr} {n c : Nat} {l : List _} {w : World} (hR : Row w w.heap.size A (flat (encZ .u64) l)) (hn : n = l.length) (hl : n ≤ 1000000) : Calls Tryd.prog 22 #[.slice A n c] w (Cloned (encZ .u64) w n l) := by
  cases A with
  | none =>
    have h0 : l = [] := by
      cases l with
      | nil => rfl
      | cons x xs =>
        obtain ⟨_, _, e, _⟩ := hR (by simp [flat_cons, Open.enc5, Open.enc4, encZ])
        cases e
    subst h0
    subst hn
    clear hR
    have hnil := Lib.run_eql_slice_nil (P := Tryd.prog) w 22 40 none 0 c 0 0 Tryd.underlying22
    go_enter Tryd.func22, Tryd.ntmps22
    go_wp2
    go_ret
    exact ⟨none, 0, rfl, Row.none_, fun a e => (by cases e), Below.refl _ _⟩
  | some a =>
    obtain ⟨i0, hi, hz0, hz1, hz2⟩ := info_parts info_words
    have HR := Lib.hid hR
    have HF := Lib.hid (show (flat (encZ .u64) l).length = n * 1 by rw [flat_length (encZ_length .u64), hn])
    clear hR hn
    have hnil := Lib.run_eql_slice_nil (P := Tryd.prog) w 22 40 (some a) n c 0 0 Tryd.underlying22
    go_enter Tryd.func22, Tryd.ntmps22
    go_wp2_with (at_builtin; refine wpList_append_row _ w rfl (.tmp 5) (.tmp 6) 22 rfl w.heap.size 40 i0 _ 1 8 Tryd.underlying22 hi hz0 hz1 hz2 rfl (by decide) _ 0 [] rfl (World.ownsRow_made w #[] 0 (Nat.le_refl _) (by simp [maxLen]) (by simp)) (some a) n c w.heap.size (flat (encZ .u64) l) rfl HF.out (HR.out.below ((Below.refl _ _).alloc (Nat.le_refl _) _)) (flat_oneCell (encZ_one .u64) l) (by simp only [maxLen]; omega) (by omega) (by simp) ((Below.refl _ _).alloc (Nat.le_refl _) _) ?_; intro A1 c1 w1 hown1 hb1)
    rw [Nat.zero_add, List.nil_append] at hown1
    have HO := Lib.hid hown1
    clear hown1
    go_wp2
    go_ret
    exact ⟨_, _, rfl, Row.of_own HO.out, new_of_own HO.out, hb1⟩

/-- A script in block p: its deeds in block q, what it was told in block g. -/
structure Scr (w : World) (p q g : Nat) (ds : List D) (fs : List Int) : Prop where
  box : ∃ A c F fc, w.heap[p]? = some (.cells #[.slice A ds.length c, .slice F fs.length fc] 54 (0, 0)) ∧ Row w w.heap.size A (flat encD ds) ∧ (∀ a, A = some a → a.block = q ∧ q ≠ p) ∧
    w.ownsRow 0 40 1 (.slice F fs.length fc) fs.length (flat (encZ .u64) fs) ∧ (∀ a, F = some a → a.block = g ∧ g ≠ p ∧ g ≠ q)
  most : ds.length ≤ 1000000
  less : fs.length ≤ ds.length
  apart : p < w.heap.size ∧ q < w.heap.size ∧ g < w.heap.size

theorem Scr.only {w w' : World} {p q g : Nat} {ds : List D} {fs : List Int} {R : Nat → Prop} (h : Scr w p q g ds fs) (ho : Only R w w') (hp : ¬ R p) (hq : ¬ R q) (hg : ¬ R g) : Scr w' p q g ds fs := by
  obtain ⟨⟨A, c, F, fc, hb, hr, ha, hf, hfa⟩, h1, h2, l1, l2, l3⟩ := h
  have hs := ho.size
  refine ⟨⟨A, c, F, fc, ho.heap hb hp, ho.row hr (fun _ a e => by rw [(ha a e).1]; exact hq), ha, ho.own hf (fun k e => ?_), hfa⟩, h1, h2, by omega, by omega, by omega⟩
  cases F with
  | none => cases e
  | some a => cases e; rw [(hfa a rfl).1]; exact hg
theorem Scr.later {w w' : World} {p q g : Nat} {ds : List D} {fs : List Int} (h : Scr w p q g ds fs) (hb : Below w.heap.size w w') : Scr w' p q g ds fs :=
  h.only (only_below (fun _ => False) hb) id id id

theorem NewScript_any {A : Option Addr} {n c : Nat} {ds : List D} {w : World} (hR : Row w w.heap.size A (flat encD ds)) (hn : n = ds.length) (hl : n ≤ 1000000) : Calls Tryd.prog 8 #[.slice A n c] w fun e w' =>
    ∃ p q, e = .returned (.pointer (some ⟨p, 0, none⟩)) ∧ Scr w' p q p ds [] ∧ w.heap.size ≤ p ∧ w.heap.size ≤ q ∧ Below w.heap.size w w' := by
  have HR := Lib.hid hR
  have HN := Lib.hid hn
  clear hR hn
  go_enter Tryd.func8, Tryd.ntmps8
  go_wp2_with fail
  refine (Clone_deeds HR.out HN.out hl).mono ?_
  rintro e w1 ⟨A', c', rfl, hr, ha, hb⟩
  have HR1 := Lib.hid hr
  have HA1 := Lib.hid ha
  have HB1 := Lib.hid hb
  clear hr ha hb
  go_wp2
  go_ret
  have h0 := HB1.out.size
  have hb : Below w1.heap.size w1 (w1.alloc (.cells #[.slice A' n c', .slice none 0 0] 54)) := (Below.refl _ _).alloc (Nat.le_refl _) _
  have hbox := new_heap w1 (.cells #[.slice A' n c', .slice none 0 0] 54)
  have hr2 := HR1.out.later hb
  have h1 : n = ds.length := HN.out
  subst h1
  cases A' with
  | none => exact ⟨w1.heap.size, w1.heap.size, rfl, ⟨⟨_, _, _, _, hbox, hr2, fun a e => (by cases e), World.ownsRow_nil _ _ _ _, fun a e => (by cases e)⟩, hl, Nat.zero_le _, by simp, by simp, by simp⟩, h0, h0, HB1.out.trans (hb.mono h0)⟩
  | some a =>
    obtain ⟨a1, a2⟩ := HA1.out a rfl
    exact ⟨w1.heap.size, a.block, rfl, ⟨⟨_, _, _, _, hbox, hr2, fun a e => (by cases e; exact ⟨rfl, by omega⟩), World.ownsRow_nil _ _ _ _, fun a e => (by cases e)⟩, hl, Nat.zero_le _, by simp, by simp; omega, by simp⟩, h0, a1, HB1.out.trans (hb.mono h0)⟩

/-- A boxed deed that nobody has turned. -/
theorem res5 {w wq : World} {v0 v1 v2 v3 v4 : Value} {t : TypeId} (h : Below (w.alloc (.cells #[v0, v1, v2, v3, v4] t)).heap.size (w.alloc (.cells #[v0, v1, v2, v3, v4] t)) wq) : (wq.cell? ⟨w.heap.size, 0, none⟩ = some v0 ∧ wq.cell? ⟨w.heap.size, 1, none⟩ = some v1 ∧ wq.cell? ⟨w.heap.size, 2, none⟩ = some v2 ∧ wq.cell? ⟨w.heap.size, 3, none⟩ = some v3 ∧ wq.cell? ⟨w.heap.size, 4, none⟩ = some v4) ∧
    wq.frozen? ⟨w.heap.size, 0, none⟩ = false ∧ wq.frozen? ⟨w.heap.size, 1, none⟩ = false ∧ wq.frozen? ⟨w.heap.size, 2, none⟩ = false ∧ wq.frozen? ⟨w.heap.size, 3, none⟩ = false ∧ wq.frozen? ⟨w.heap.size, 4, none⟩ = false := by
  have hb := (h.block w.heap.size (by simp)).trans (new_heap w _)
  exact ⟨⟨(cell_heap hb 0).1, (cell_heap hb 1).1, (cell_heap hb 2).1, (cell_heap hb 3).1, (cell_heap hb 4).1⟩, (cell_heap hb 0).2, (cell_heap hb 1).2, (cell_heap hb 2).2, (cell_heap hb 3).2, (cell_heap hb 4).2⟩
/-- A deed stored into a box: its cells, and nothing else. -/
theorem set5 {w wq : World} {v0 v1 v2 v3 v4 : Value} {t : TypeId} (h : Below (w.alloc (.cells #[v0, v1, v2, v3, v4] t)).heap.size (w.alloc (.cells #[v0, v1, v2, v3, v4] t)) wq) (u0 u1 u2 u3 u4 : Value) :
    let W := (((((wq.setCell ⟨w.heap.size, 0, none⟩ u0).setCell ⟨w.heap.size, 1, none⟩ u1).setCell ⟨w.heap.size, 2, none⟩ u2).setCell ⟨w.heap.size, 3, none⟩ u3).setCell ⟨w.heap.size, 4, none⟩ u4)
    (W.cell? ⟨w.heap.size, 0, none⟩ = some u0 ∧ W.cell? ⟨w.heap.size, 1, none⟩ = some u1 ∧ W.cell? ⟨w.heap.size, 2, none⟩ = some u2 ∧ W.cell? ⟨w.heap.size, 3, none⟩ = some u3 ∧ W.cell? ⟨w.heap.size, 4, none⟩ = some u4) ∧ Below w.heap.size w W := by
  have hb := set_heap (j := 4) (set_heap (j := 3) (set_heap (j := 2) (set_heap (j := 1) (set_heap (j := 0) ((h.block w.heap.size (by simp)).trans (new_heap w _)) u0) u1) u2) u3) u4
  have hw : Below w.heap.size w wq := ((Below.refl _ _).alloc (Nat.le_refl _) _).trans (h.mono (by simp))
  exact ⟨⟨(cell_heap hb 0).1, (cell_heap hb 1).1, (cell_heap hb 2).1, (cell_heap hb 3).1, (cell_heap hb 4).1⟩, ((((hw.setCell (Nat.le_refl _) _).setCell (Nat.le_refl _) _).setCell (Nat.le_refl _) _).setCell (Nat.le_refl _) _).setCell (Nat.le_refl _) _⟩
theorem Next_more {p q g : Nat} {ds : List D} {fs : List Int} {w : World} (hS : Scr w p q g ds fs) {x : D} (hx : ds[fs.length]? = some x) : Calls Tryd.prog 14 #[.pointer (some ⟨p, 0, none⟩)] w fun e w' =>
    e = .returned (.tuple #[.agg #[.int .i64 x.1, .int .i64 x.2.1, .int .u64 x.2.2.1, .int .u64 x.2.2.2.1, .int .u64 x.2.2.2.2], .bool true]) ∧ Below w.heap.size w w' := by
  obtain ⟨⟨A, c, F, fc, hb, hr, ha, hf, hfa⟩, h1, h2, l1, l2, l3⟩ := hS
  have hlt : fs.length < ds.length := (List.getElem?_eq_some_iff.1 hx).1
  obtain ⟨b, o, rfl, hbl, hc⟩ := Open.five_at hr hlt
  obtain ⟨d0, d1, d2, d3, d4⟩ := hc _ x hx
  have c0 := (cell_heap hb 0).1
  have c1 := (cell_heap hb 1).1
  simp at c0 c1
  clear hr ha hf hfa hc hb hx
  obtain ⟨n, hn⟩ : ∃ n, n = ds.length := ⟨_, rfl⟩
  obtain ⟨m, hm⟩ : ∃ m, m = fs.length := ⟨_, rfl⟩
  rw [← hn] at h1 h2 hlt c0
  rw [← hm] at h2 hlt c1 d0 d1 d2 d3 d4
  clear hn hm
  have hne : ((m : Int) == (n : Int)) = false := by simp; omega
  have hlt' : (m : Int) < (n : Int) := by omega
  have B1 := (Below.refl w.heap.size w).alloc (Nat.le_refl _) (.cells #[.int .i64 0, .int .i64 0, .int .u64 0, .int .u64 0, .int .u64 0] 42)
  have C0 := fun z : After (w.alloc (.cells #[.int .i64 0, .int .i64 0, .int .u64 0, .int .u64 0, .int .u64 0] 42)) => z.cell (cell_later B1 c0)
  have C1 := fun z : After (w.alloc (.cells #[.int .i64 0, .int .i64 0, .int .u64 0, .int .u64 0, .int .u64 0] 42)) => z.cell (cell_later B1 c1)
  go_enter Tryd.func14, Tryd.ntmps14
  go_wp2
  refine wp_region_after mixed (by kernel_rfl) ?_
  repeat (first | go_big_quiet_step (fail) | quiet_step (fail))
  refine wpQuiet_nil ?_
  intro _ hw'
  obtain ⟨pq, hw''⟩ := hw'
  subst hw''
  have e0 := pq.cell (cell_later B1 c0)
  have e1 := pq.cell (cell_later B1 c1)
  have E0 := pq.cell (cell_later B1 d0)
  have E1 := pq.cell (cell_later B1 d1)
  have E2 := pq.cell (cell_later B1 d2)
  have E3 := pq.cell (cell_later B1 d3)
  have E4 := pq.cell (cell_later B1 d4)
  have hq := pq.ok
  obtain ⟨⟨r0, r1, r2, r3, r4⟩, f0, f1, f2, f3, f4⟩ := res5 pq.ok
  generalize pq.x = wq at *
  go_wp2
  go_region
  obtain ⟨⟨s0, s1, s2, s3, s4⟩, hB⟩ := set5 hq (.int .i64 x.1) (.int .i64 x.2.1) (.int .u64 x.2.2.1) (.int .u64 x.2.2.2.1) (.int .u64 x.2.2.2.2)
  have HB := Lib.hid hB
  clear hB hq r0 r1 r2 r3 r4 f0 f1 f2 f3 f4
  go_wp2
  exact bodyPost_ret (v := .tuple #[.agg #[.int .i64 x.1, .int .i64 x.2.1, .int .u64 x.2.2.1, .int .u64 x.2.2.2.1, .int .u64 x.2.2.2.2], .bool true]) (by simp [results, Tryd.results14, go_sem, s0, s1, s2, s3, s4]) rfl ⟨rfl, HB.out.drew⟩
theorem Next_done {p q g : Nat} {ds : List D} {fs : List Int} {w : World} (hS : Scr w p q g ds fs) (hx : fs.length = ds.length) : Calls Tryd.prog 14 #[.pointer (some ⟨p, 0, none⟩)] w fun e w' =>
    e = .returned (.tuple #[.agg #[.int .i64 0, .int .i64 0, .int .u64 0, .int .u64 0, .int .u64 0], .bool false]) ∧ Below w.heap.size w w' := by
  obtain ⟨⟨A, c, F, fc, hb, hr, ha, hf, hfa⟩, h1, h2, l1, l2, l3⟩ := hS
  have c0 := (cell_heap hb 0).1
  have c1 := (cell_heap hb 1).1
  simp at c0 c1
  rw [hx] at c1
  clear hr ha hf hfa hb hx h2
  obtain ⟨n, hn⟩ : ∃ n, n = ds.length := ⟨_, rfl⟩
  rw [← hn] at h1 c0 c1
  clear hn
  have B1 := (Below.refl w.heap.size w).alloc (Nat.le_refl _) (.cells #[.int .i64 0, .int .i64 0, .int .u64 0, .int .u64 0, .int .u64 0] 42)
  have C0 := fun z : After (w.alloc (.cells #[.int .i64 0, .int .i64 0, .int .u64 0, .int .u64 0, .int .u64 0] 42)) => z.cell (cell_later B1 c0)
  have C1 := fun z : After (w.alloc (.cells #[.int .i64 0, .int .i64 0, .int .u64 0, .int .u64 0, .int .u64 0] 42)) => z.cell (cell_later B1 c1)
  go_enter Tryd.func14, Tryd.ntmps14
  go_wp2
  refine wp_region_after mixed (by kernel_rfl) ?_
  repeat (first | go_big_quiet_step (fail) | quiet_step (fail))
  refine wpQuiet_nil ?_
  intro _ hw'
  obtain ⟨pq, hw''⟩ := hw'
  subst hw''
  have hq := pq.ok
  obtain ⟨⟨r0, r1, r2, r3, r4⟩, f0, f1, f2, f3, f4⟩ := res5 pq.ok
  generalize pq.x = wq at *
  have HQ := Lib.hid hq
  clear hq C0 C1 B1 c0 c1
  go_wp2
  obtain ⟨⟨s0, s1, s2, s3, s4⟩, hB⟩ := set5 HQ.out (.int .i64 0) (.int .i64 0) (.int .u64 0) (.int .u64 0) (.int .u64 0)
  exact bodyPost_ret (v := .tuple #[.agg #[.int .i64 0, .int .i64 0, .int .u64 0, .int .u64 0, .int .u64 0], .bool false]) (by simp [results, Tryd.results14, go_sem, s0, s1, s2, s3, s4]) rfl ⟨rfl, hB⟩
theorem Next_nil (w : World) : Calls Tryd.prog 14 #[.pointer none] w fun e w' =>
    e = .returned (.tuple #[.agg #[.int .i64 0, .int .i64 0, .int .u64 0, .int .u64 0, .int .u64 0], .bool false]) ∧ Below w.heap.size w w' := by
  go_enter Tryd.func14, Tryd.ntmps14
  go_wp2
  refine wp_region_after mixed (by kernel_rfl) ?_
  repeat (first | go_big_quiet_step (fail) | quiet_step (fail))
  refine wpQuiet_nil ?_
  intro _ hw'
  obtain ⟨pq, hw''⟩ := hw'
  subst hw''
  have hq := pq.ok
  obtain ⟨⟨r0, r1, r2, r3, r4⟩, f0, f1, f2, f3, f4⟩ := res5 pq.ok
  generalize pq.x = wq at *
  have HQ := Lib.hid hq
  clear hq
  go_wp2
  obtain ⟨⟨s0, s1, s2, s3, s4⟩, hB⟩ := set5 HQ.out (.int .i64 0) (.int .i64 0) (.int .u64 0) (.int .u64 0) (.int .u64 0)
  exact bodyPost_ret (v := .tuple #[.agg #[.int .i64 0, .int .i64 0, .int .u64 0, .int .u64 0, .int .u64 0], .bool false]) (by simp [results, Tryd.results14, go_sem, s0, s1, s2, s3, s4]) rfl ⟨rfl, hB⟩
end Go.Proofs.YthlamnghbdaaiaaDoor.Task
