/- Package place's Where: the place of the word that is for a spot. -/
import Derived.Test.YtjmkbcdolkgcgaaDoorPlaceWhat
namespace Go.Proofs.YtjmkbcdolkgcgaaDoor.Place
open Go.ChangeShapes Go.WideShapes Go.RowKit Go.Shelf PM Lay Push Plan
set_option linter.unusedVariables false
attribute [local go_sem] Oper.semAt_some

set_option maxRecDepth 100000 in
set_option maxHeartbeats 4000000 in
theorem Where_in (n : Nat) (hn : 3 ≤ n) (T S L G a b c : Int) (w : World) :
    CallsIn Fence.wide n Tryd.prog 8 #[.agg #[.int .i64 T, .int .i64 S, .int .i64 L, .int .u64 G], .agg #[.int .i64 a, .int .i64 b, .int .i64 c]] w fun e w' => e = .returned (.int .i64 (whereI T S L G (a, b, c))) ∧ Below w.heap.size w w' := by
  have h1 : 1 ≤ n := by omega
  refine callsIn_of_wp_marks Tryd.func8 rfl trivial ?_ rfl
  simp only [Tryd.ntmps8, List.size_toArray, List.length_cons, List.length_nil, Nat.reduceAdd, Nat.reduceSub, Array.replicate_succ, Array.replicate_zero, List.push_toArray, List.append_toArray, List.nil_append, List.cons_append]
  obtain ⟨e0, e1, e2, e3⟩ := planAt_new T S L G w
  gi_wp2
  refine ⟨trivial, (spots_in (n - 1) T S L G _).mono ?_⟩
  rintro e w' ⟨rfl, rfl⟩
  gi_wp2
  have bI := ((SpotAt.new (w.alloc (.cells #[.int .i64 T, .int .i64 S, .int .i64 L, .int .u64 G] 24)) (a, b, c)).alloc (.cells #[.int .i64 0] 3)).alloc (.cells #[.int .i64 T, .int .i64 S, .int .i64 L, .int .u64 G] 24)
  have bR := (Boxed.new ((w.alloc (.cells #[.int .i64 T, .int .i64 S, .int .i64 L, .int .u64 G] 24)).alloc (.cells #[.int .i64 a, .int .i64 b, .int .i64 c] 26)) 3 (.int .i64 0)).alloc (.cells #[.int .i64 T, .int .i64 S, .int .i64 L, .int .u64 G] 24)
  have bP := planAt_new T S L G (((w.alloc (.cells #[.int .i64 T, .int .i64 S, .int .i64 L, .int .u64 G] 24)).alloc (.cells #[.int .i64 a, .int .i64 b, .int .i64 c] 26)).alloc (.cells #[.int .i64 0] 3))
  simp only [World.size_alloc] at bI bR bP
  have hB0 : Below w.heap.size w ((((w.alloc (.cells #[.int .i64 T, .int .i64 S, .int .i64 L, .int .u64 G] 24)).alloc (.cells #[.int .i64 a, .int .i64 b, .int .i64 c] 26)).alloc (.cells #[.int .i64 0] 3)).alloc (.cells #[.int .i64 T, .int .i64 S, .int .i64 L, .int .u64 G] 24)) := ((((Below.refl _ w).alloc (Nat.le_refl _) _).alloc (by simp) _).alloc (by simp; omega) _).alloc (by simp; omega) _
  have hsz : ((((w.alloc (.cells #[.int .i64 T, .int .i64 S, .int .i64 L, .int .u64 G] 24)).alloc (.cells #[.int .i64 a, .int .i64 b, .int .i64 c] 26)).alloc (.cells #[.int .i64 0] 3)).alloc (.cells #[.int .i64 T, .int .i64 S, .int .i64 L, .int .u64 G] 24)).heap.size = w.heap.size + 4 := by simp
  obtain ⟨W0, hW0⟩ : ∃ W0, ((((w.alloc (.cells #[.int .i64 T, .int .i64 S, .int .i64 L, .int .u64 G] 24)).alloc (.cells #[.int .i64 a, .int .i64 b, .int .i64 c] 26)).alloc (.cells #[.int .i64 0] 3)).alloc (.cells #[.int .i64 T, .int .i64 S, .int .i64 L, .int .u64 G] 24)) = W0 := ⟨_, rfl⟩
  rw [hW0] at bI bR bP hB0 hsz ⊢
  clear hW0 e0 e1 e2 e3
  refine wpIn_rangeFunc_ownH rfl h1 (gf := 28) (lb := #[.pointer (some ⟨w.heap.size + 1 + 1 + 1, 0, none⟩)]) rfl trivial (enters_of Tryd.func28 (by kernel_rfl) rfl)
    (spots_stops (n - 1) (fun k => k = w.heap.size + 1 + 1) T S L G (w.heap.size + 1 + 1 + 1) W0 (by omega) bP (fun k hk => by omega) (by omega)) (fun h k => h.trans k) (fun W l o o' _ h ho _ => Kept.put h ho) (Below.refl _ _) (fun _ => rfl)
    (fun pre W => ((∀ x ∈ pre, ¬ x.2 = (a, b, c)) ∧ SpotAt W (w.heap.size + 1) (a, b, c) ∧ Boxed W (w.heap.size + 1 + 1) 3 (.int .i64 0)) ∧ Below w.heap.size w W)
    (fun j pre W => (j = .ret ∧ ∃ x ∈ pre, x.2 = (a, b, c) ∧ Boxed W (w.heap.size + 1 + 1) 3 (.int .i64 x.1)) ∧ Below w.heap.size w W)
    (OwnFrom.and (Own.from (fun s A B row hs hg hr => ⟨hs.1, spotAt_own _ (fun (_ : Unit) => (a, b, c)) () A B row hs.2.1 hg hr, boxed_own _ _ (fun (_ : Unit) => Value.int .i64 0) () A B row hs.2.2 hg hr⟩) _) (ownFrom_below (Nat.le_refl _) (by omega)))
    (fun j => OwnFrom.and (Own.from (fun s A B row hs hg hr => by
      obtain ⟨hc, x, hx, he, hc0⟩ := hs
      exact ⟨hc, x, hx, he, boxed_own _ _ (fun (_ : Unit) => Value.int .i64 x.1) () A B row hc0 hg hr⟩) _) (ownFrom_below (Nat.le_refl _) (by omega)))
    ⟨⟨by simp, bI, bR⟩, hB0⟩
    (fun x a' W => ∃ Bx, w.heap.size + 1 + 1 < Bx ∧ SpotAt W Bx x.2 ∧ a' = { tmps := #[.agg #[.int .i64 T, .int .i64 S, .int .i64 L, .int .u64 G], .agg #[.int .i64 a, .int .i64 b, .int .i64 c], .pointer (some ⟨w.heap.size, 0, none⟩), .pointer (some ⟨w.heap.size + 1, 0, none⟩), .pointer (some ⟨w.heap.size + 1 + 1, 0, none⟩), .int .i64 x.1, .pointer (some ⟨Bx, 0, none⟩), .agg #[.int .i64 T, .int .i64 S, .int .i64 L, .int .u64 G], .func (.func 28) #[] #[.pointer (some ⟨w.heap.size + 1 + 1 + 1, 0, none⟩)], .int .i64 x.1, spotV x.2, undef, undef, undef, undef], defers := [] })
    (fun x a' _ X Y row hs hg hr => by obtain ⟨Bx, h1, h2, h3⟩ := hs; exact ⟨Bx, h1, spotAt_own Bx (fun (_ : Unit) => x.2) () X Y row h2 hg (fun r e => (hr r e).2), h3⟩)
    ?assign ?body ?done ?stop
  case assign =>
    rintro l pre x W K ⟨⟨hne, bI1, bR1⟩, hB1⟩ hK
    dsimp only [encs, spotV] at hK ⊢
    gi_wp2
    exact hK _ _ ((KeepsOthers.alloc _ _).from _) (Kept.below (box_below _ _)) ⟨⟨hne, bI1.alloc _, bR1.alloc _⟩, hB1.alloc hB1.size _⟩ ⟨W.heap.size, bR1.lt, SpotAt.new W x.2, rfl⟩
  case body =>
    rintro l pre x a' W hl ⟨r, hr⟩ ⟨⟨hne, bI1, bR1⟩, hB1⟩ ⟨Bx, hBx, bX, rfl⟩ hlt
    obtain ⟨p, k, o, v⟩ := x
    have cR := bR1.cell
    have fR := bR1.frozen
    obtain ⟨⟨s0, s1, s2⟩, _⟩ := bI1.cells
    obtain ⟨⟨x0, x1, x2⟩, _⟩ := bX.cells
    have HNE := Lib.hid hne
    have HB := Lib.hid hB1
    have HBI := Lib.hid bI1
    have HBR := Lib.hid bR1
    clear hne hB1 bI1 bR1 bX
    dsimp only at x0 x1 x2 s0 s1 s2
    gi_wp2
    · rename_i e1 e2 e3
      exact ⟨(KeepsOthers.setCell _ _ _).from _, ⟨rfl, (p, k, o, v), by simp, by rw [e1, e2, e3], HBR.out.set _⟩, HB.out.setCell (p := ⟨w.heap.size + 1 + 1, 0, none⟩) (by simp; omega) _⟩
    all_goals
      exact ⟨KeepsFrom.refl _ _, Kept.refl _ _, ⟨fun y hy => (List.mem_append.1 hy).elim (HNE.out y) (fun e => by
        obtain rfl := List.mem_singleton.1 e
        intro e'
        simp only [Prod.mk.injEq] at e'
        obtain ⟨e1, e2, e3⟩ := e'
        contradiction), HBI.out, HBR.out⟩, HB.out⟩
  case done =>
    rintro D xs W hD rfl ⟨⟨hne, bI1, bR1⟩, hB1⟩ hK
    have r0 := bR1.cell
    have f0 := bR1.frozen
    have HW := Lib.hid (where_miss hne)
    have bR2 := bR1.set (.int .i64 (-1))
    have hK' := (KeepsOthers.setCell W ⟨w.heap.size + 1 + 1, 0, none⟩ (.int .i64 (-1))).same D _ hK rfl
    have hB2 := hB1.setCell (p := ⟨w.heap.size + 1 + 1, 0, none⟩) (by simp; omega) (.int .i64 (-1))
    have q0 := cell_kept bR2.cell (grownBy_putObj' _ D (.deferred none)) (fun r e => by cases e; exact ⟨_, hK', rfl⟩)
    have hB3 := hB2.trans (belowK_b (w := w) (Nat.le_refl _) _ D _ (.deferred none) (by omega) hK' rfl rfl)
    clear bR2 hB2
    gi_wp2
    refine ⟨by simp, .inl ⟨_, _, rfl, run_takeDeferred hK', ?_⟩⟩
    rw [HW.out]
    refine ⟨.int .i64 (-1), ?_, rfl, hB3⟩
    simp [results, Tryd.f8, go_sem, q0]
  case stop =>
    rintro D c pre W hD hpre ⟨⟨rfl, x, hx, he, hc0⟩, hB⟩ hK
    have HW := Lib.hid (where_hit (hpre.subset hx) he)
    gi_wp2
    refine ⟨by simp, .inl ⟨_, _, rfl, run_takeDeferred hK, ?_⟩⟩
    have q0 := cell_kept hc0.cell (grownBy_putObj' _ D (.deferred none)) (fun r e => by cases e; exact ⟨_, hK, rfl⟩)
    have hB3 := hB.trans (belowK_b (w := w) (Nat.le_refl _) _ D _ (.deferred none) (by omega) hK rfl rfl)
    rw [HW.out]
    refine ⟨.int .i64 x.1, ?_, rfl, hB3⟩
    simp [results, Tryd.f8, go_sem, q0]
theorem What_any (T S L G i : Int) (w : World) : Calls Tryd.prog 6 #[.agg #[.int .i64 T, .int .i64 S, .int .i64 L, .int .u64 G], .int .i64 i] w fun e w' => e = .returned (spotV (whatI T S L G i)) ∧ Below w.heap.size w w' := callsIn_wide.1 (What_in 3 (Nat.le_refl _) T S L G i w)
theorem Where_any (T S L G : Int) (s : Sp) (w : World) : Calls Tryd.prog 8 #[.agg #[.int .i64 T, .int .i64 S, .int .i64 L, .int .u64 G], spotV s] w fun e w' => e = .returned (.int .i64 (whereI T S L G s)) ∧ Below w.heap.size w w' := callsIn_wide.1 (Where_in 3 (Nat.le_refl _) T S L G s.1 s.2.1 s.2.2 w)
end Go.Proofs.YtjmkbcdolkgcgaaDoor.Place
