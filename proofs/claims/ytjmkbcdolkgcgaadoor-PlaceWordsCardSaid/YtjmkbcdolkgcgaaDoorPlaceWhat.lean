/- Package place's What: the spot of the word at a place. -/
import Derived.Test.YtjmkbcdolkgcgaaDoorPlaceSpots
namespace Go.Proofs.YtjmkbcdolkgcgaaDoor.Place
open Go.ChangeShapes Go.WideShapes Go.RowKit Go.Shelf PM Lay Push Plan
set_option linter.unusedVariables false
attribute [local go_sem] Oper.semAt_some

/-- A block that holds a spot. -/
def SpotAt (W : World) (B : Nat) (s : Sp) : Prop := W.heap[B]? = some (.cells #[.int .i64 s.1, .int .i64 s.2.1, .int .i64 s.2.2] 26 (0, 0))
theorem SpotAt.lt {W : World} {B : Nat} {s : Sp} (h : SpotAt W B s) : B < W.heap.size := (Array.getElem?_eq_some_iff.1 h).1
theorem SpotAt.cells {W : World} {B : Nat} {s : Sp} (h : SpotAt W B s) : (W.cell? ⟨B, 0, none⟩ = some (.int .i64 s.1) ∧ W.cell? ⟨B, 1, none⟩ = some (.int .i64 s.2.1) ∧ W.cell? ⟨B, 2, none⟩ = some (.int .i64 s.2.2)) ∧ W.frozen? ⟨B, 0, none⟩ = false ∧ W.frozen? ⟨B, 1, none⟩ = false ∧ W.frozen? ⟨B, 2, none⟩ = false := by
  unfold SpotAt at h
  refine ⟨⟨?_, ?_, ?_⟩, ?_, ?_, ?_⟩ <;> simp [World.cell?, World.frozen?, h]
theorem SpotAt.new (W : World) (s : Sp) : SpotAt (W.alloc (.cells #[.int .i64 s.1, .int .i64 s.2.1, .int .i64 s.2.2] 26)) W.heap.size s := World.alloc_heap_new W _
theorem SpotAt.kept {W W' : World} {row : Option Nat} {B : Nat} {s : Sp} (h : SpotAt W B s) (hg : W.grownBy W' row) (hne : some B ≠ row) : SpotAt W' B s := (hg.block B h.lt hne).trans h
theorem SpotAt.alloc {W : World} {B : Nat} {s : Sp} (h : SpotAt W B s) (o : Obj) : SpotAt (W.alloc o) B s := h.kept (World.grownBy_alloc W o none) (by simp)
theorem heap_set {W : World} {B j : Nat} {cs : Array Value} {t : TypeId} (h : W.heap[B]? = some (.cells cs t (0, 0))) (v : Value) : (W.setCell ⟨B, j, none⟩ v).heap[B]? = some (.cells (cs.setIfInBounds j v) t (0, 0)) := by
  obtain ⟨hlt, hk⟩ := Array.getElem?_eq_some_iff.1 h
  show (W.heap.modify B _)[B]? = _
  rw [Array.getElem?_eq_getElem (by rw [Array.size_modify]; exact hlt), Array.getElem_modify_self, hk]
  rfl
/-- A spot stored where one stood. -/
theorem SpotAt.set {W : World} {B : Nat} {s : Sp} (h : SpotAt W B s) (x : Sp) : SpotAt (((W.setCell ⟨B, 0, none⟩ (.int .i64 x.1)).setCell ⟨B, 1, none⟩ (.int .i64 x.2.1)).setCell ⟨B, 2, none⟩ (.int .i64 x.2.2)) B x := by
  unfold SpotAt at h ⊢
  rw [heap_set (heap_set (heap_set h _) _) _]
  simp
theorem set_keeps (W : World) (B : Nat) (a b c : Value) : KeepsOthers W (((W.setCell ⟨B, 0, none⟩ a).setCell ⟨B, 1, none⟩ b).setCell ⟨B, 2, none⟩ c) := ((KeepsOthers.setCell _ _ _).trans (KeepsOthers.setCell _ _ _)).trans (KeepsOthers.setCell _ _ _)
theorem set_below {w W : World} {B n : Nat} (h : Below n w W) (hn : n ≤ B) (a b c : Value) : Below n w (((W.setCell ⟨B, 0, none⟩ a).setCell ⟨B, 1, none⟩ b).setCell ⟨B, 2, none⟩ c) := ((h.setCell (p := ⟨B, 0, none⟩) hn a).setCell (p := ⟨B, 1, none⟩) hn b).setCell (p := ⟨B, 2, none⟩) hn c
theorem spotAt_own {β : Type} (B : Nat) (f : β → Sp) : Own (fun x W => SpotAt W B (f x)) := fun x X Y row hs hg hrow =>
  hs.kept hg (fun e' => by obtain ⟨o, ho, hc⟩ := hrow B e'.symm; rw [show X.heap[B]? = _ from hs] at ho; cases ho; cases hc)

set_option maxRecDepth 100000 in
set_option maxHeartbeats 4000000 in
theorem What_in (n : Nat) (hn : 3 ≤ n) (T S L G i : Int) (w : World) :
    CallsIn Fence.wide n Tryd.prog 6 #[.agg #[.int .i64 T, .int .i64 S, .int .i64 L, .int .u64 G], .int .i64 i] w fun e w' => e = .returned (spotV (whatI T S L G i)) ∧ Below w.heap.size w w' := by
  have h1 : 1 ≤ n := by omega
  refine callsIn_of_wp_marks Tryd.func6 rfl trivial ?_ rfl
  simp only [Tryd.ntmps6, List.size_toArray, List.length_cons, List.length_nil, Nat.reduceAdd, Nat.reduceSub, Array.replicate_succ, Array.replicate_zero, List.push_toArray, List.append_toArray, List.nil_append, List.cons_append]
  obtain ⟨e0, e1, e2, e3⟩ := planAt_new T S L G w
  gi_wp2
  refine ⟨trivial, (spots_in (n - 1) T S L G _).mono ?_⟩
  rintro e w' ⟨rfl, rfl⟩
  gi_wp2
  have bI := ((Boxed.new (w.alloc (.cells #[.int .i64 T, .int .i64 S, .int .i64 L, .int .u64 G] 24)) 3 (.int .i64 i)).alloc (.cells #[.int .i64 0, .int .i64 0, .int .i64 0] 26)).alloc (.cells #[.int .i64 T, .int .i64 S, .int .i64 L, .int .u64 G] 24)
  have bR := (SpotAt.new ((w.alloc (.cells #[.int .i64 T, .int .i64 S, .int .i64 L, .int .u64 G] 24)).alloc (.cells #[.int .i64 i] 3)) none3).alloc (.cells #[.int .i64 T, .int .i64 S, .int .i64 L, .int .u64 G] 24)
  have bP := planAt_new T S L G (((w.alloc (.cells #[.int .i64 T, .int .i64 S, .int .i64 L, .int .u64 G] 24)).alloc (.cells #[.int .i64 i] 3)).alloc (.cells #[.int .i64 0, .int .i64 0, .int .i64 0] 26))
  simp only [World.size_alloc] at bI bR bP
  have hB0 : Below w.heap.size w ((((w.alloc (.cells #[.int .i64 T, .int .i64 S, .int .i64 L, .int .u64 G] 24)).alloc (.cells #[.int .i64 i] 3)).alloc (.cells #[.int .i64 0, .int .i64 0, .int .i64 0] 26)).alloc (.cells #[.int .i64 T, .int .i64 S, .int .i64 L, .int .u64 G] 24)) := ((((Below.refl _ w).alloc (Nat.le_refl _) _).alloc (by simp) _).alloc (by simp; omega) _).alloc (by simp; omega) _
  have hsz : ((((w.alloc (.cells #[.int .i64 T, .int .i64 S, .int .i64 L, .int .u64 G] 24)).alloc (.cells #[.int .i64 i] 3)).alloc (.cells #[.int .i64 0, .int .i64 0, .int .i64 0] 26)).alloc (.cells #[.int .i64 T, .int .i64 S, .int .i64 L, .int .u64 G] 24)).heap.size = w.heap.size + 4 := by simp
  obtain ⟨W0, hW0⟩ : ∃ W0, (((w.alloc (.cells #[.int .i64 T, .int .i64 S, .int .i64 L, .int .u64 G] 24)).alloc (.cells #[.int .i64 i] 3)).alloc (.cells #[.int .i64 0, .int .i64 0, .int .i64 0] 26)).alloc (.cells #[.int .i64 T, .int .i64 S, .int .i64 L, .int .u64 G] 24) = W0 := ⟨_, rfl⟩
  simp only [none3] at bR
  rw [hW0] at bI bR bP hB0 hsz ⊢
  clear hW0 e0 e1 e2 e3
  refine wpIn_rangeFunc_ownH rfl h1 (gf := 28) (lb := #[.pointer (some ⟨w.heap.size + 1 + 1 + 1, 0, none⟩)]) rfl trivial (enters_of Tryd.func28 (by kernel_rfl) rfl)
    (spots_stops (n - 1) (fun k => k = w.heap.size + 1 + 1) T S L G (w.heap.size + 1 + 1 + 1) W0 (by omega) bP (fun k hk => by omega) (by omega)) (fun h k => h.trans k) (fun W l o o' _ h ho _ => Kept.put h ho) (Below.refl _ _) (fun _ => rfl)
    (fun pre W => ((∀ x ∈ pre, ¬ x.1 = i) ∧ Boxed W (w.heap.size + 1) 3 (.int .i64 i) ∧ SpotAt W (w.heap.size + 1 + 1) none3) ∧ Below w.heap.size w W)
    (fun c pre W => (c = .ret ∧ ∃ x ∈ pre, x.1 = i ∧ SpotAt W (w.heap.size + 1 + 1) x.2) ∧ Below w.heap.size w W)
    (OwnFrom.and (Own.from (fun s A B row hs hg hr => ⟨hs.1, boxed_own _ _ (fun (_ : Unit) => Value.int .i64 i) () A B row hs.2.1 hg hr, spotAt_own _ (fun (_ : Unit) => none3) () A B row hs.2.2 hg hr⟩) _) (ownFrom_below (Nat.le_refl _) (by omega)))
    (fun c => OwnFrom.and (Own.from (fun s A B row hs hg hr => by
      obtain ⟨hc, x, hx, he, hc0⟩ := hs
      exact ⟨hc, x, hx, he, spotAt_own _ (fun (_ : Unit) => x.2) () A B row hc0 hg hr⟩) _) (ownFrom_below (Nat.le_refl _) (by omega)))
    ⟨⟨by simp, bI, bR⟩, hB0⟩
    (fun x a' W => ∃ Bx, w.heap.size + 1 + 1 < Bx ∧ SpotAt W Bx x.2 ∧ a' = { tmps := #[.agg #[.int .i64 T, .int .i64 S, .int .i64 L, .int .u64 G], .int .i64 i, .pointer (some ⟨w.heap.size, 0, none⟩), .pointer (some ⟨w.heap.size + 1, 0, none⟩), .pointer (some ⟨w.heap.size + 1 + 1, 0, none⟩), .int .i64 x.1, .pointer (some ⟨Bx, 0, none⟩), .agg #[.int .i64 T, .int .i64 S, .int .i64 L, .int .u64 G], .func (.func 28) #[] #[.pointer (some ⟨w.heap.size + 1 + 1 + 1, 0, none⟩)], .int .i64 x.1, spotV x.2, undef, undef, undef, undef, undef], defers := [] })
    (fun x a' _ X Y row hs hg hr => by obtain ⟨Bx, h1, h2, h3⟩ := hs; exact ⟨Bx, h1, spotAt_own Bx (fun (_ : Unit) => x.2) () X Y row h2 hg (fun r e => (hr r e).2), h3⟩)
    ?assign ?body ?done ?stop
  case assign =>
    rintro l pre x W K ⟨⟨hne, bI1, bR1⟩, hB1⟩ hK
    dsimp only [encs, spotV] at hK ⊢
    gi_wp2
    exact hK _ _ ((KeepsOthers.alloc _ _).from _) (Kept.below (box_below _ _)) ⟨⟨hne, bI1.alloc _, bR1.alloc _⟩, hB1.alloc hB1.size _⟩ ⟨W.heap.size, bR1.lt, SpotAt.new W x.2, rfl⟩
  case body =>
    rintro l pre x a' W hl ⟨r, hr⟩ ⟨⟨hne, bI1, bR1⟩, hB1⟩ ⟨Bx, hBx, bX, rfl⟩ hlt
    have cI := bI1.cell
    obtain ⟨⟨r0, r1, r2⟩, f0, f1, f2⟩ := bR1.cells
    obtain ⟨⟨x0, x1, x2⟩, _⟩ := bX.cells
    have HNE := Lib.hid hne
    have HB := Lib.hid hB1
    have HBI := Lib.hid bI1
    have HBR := Lib.hid bR1
    clear hne hB1 bI1 bR1 bX
    by_cases hx : x.1 = i
    · gi_wp2
      exact ⟨(set_keeps _ _ _ _ _).from _, ⟨rfl, x, by simp, hx, HBR.out.set x.2⟩, set_below HB.out (by omega) _ _ _⟩
    · have hx0 : (x.1 == i) = false := by simpa using hx
      have HX := Lib.hid hx
      clear hx
      gi_wp2
      exact ⟨KeepsFrom.refl _ _, Kept.refl _ _, ⟨fun y hy => (List.mem_append.1 hy).elim (HNE.out y) (fun e => by simp at e; subst e; exact HX.out), HBI.out, HBR.out⟩, HB.out⟩
  case done =>
    rintro D xs W hD rfl ⟨⟨hne, bI1, bR1⟩, hB1⟩ hK
    obtain ⟨⟨r0, r1, r2⟩, f0, f1, f2⟩ := bR1.cells
    have HW := Lib.hid (what_miss hne)
    have bR2 := bR1.set none3
    have hK' := (set_keeps W (w.heap.size + 1 + 1) (.int .i64 0) (.int .i64 0) (.int .i64 0)).same D _ hK rfl
    have hB2 := set_below hB1 (by omega : w.heap.size ≤ w.heap.size + 1 + 1) (.int .i64 0) (.int .i64 0) (.int .i64 0)
    simp only [none3] at bR2
    have hg := grownBy_putObj' (((W.setCell ⟨w.heap.size + 1 + 1, 0, none⟩ (.int .i64 0)).setCell ⟨w.heap.size + 1 + 1, 1, none⟩ (.int .i64 0)).setCell ⟨w.heap.size + 1 + 1, 2, none⟩ (.int .i64 0)) D (.deferred none)
    have bR3 := spotAt_own (w.heap.size + 1 + 1) (fun (_ : Unit) => ((0, 0, 0) : Sp)) () _ _ _ bR2 hg (fun r e => by cases e; exact ⟨_, hK', rfl⟩)
    obtain ⟨⟨q0, q1, q2⟩, _⟩ := bR3.cells
    have hB3 := hB2.trans (belowK_b (w := w) (Nat.le_refl _) _ D _ (.deferred none) (by omega) hK' rfl rfl)
    gi_wp2
    refine ⟨by simp, .inl ⟨_, _, rfl, run_takeDeferred hK', ?_⟩⟩
    rw [HW.out]
    refine ⟨spotV none3, ?_, rfl, hB3⟩
    simp [results, Tryd.f6, go_sem, q0, q1, q2, spotV, none3]
  case stop =>
    rintro D c pre W hD hpre ⟨⟨rfl, x, hx, he, hc0⟩, hB⟩ hK
    have HW := Lib.hid (what_hit (hpre.subset hx) he)
    gi_wp2
    refine ⟨by simp, .inl ⟨_, _, rfl, run_takeDeferred hK, ?_⟩⟩
    have bR3 := spotAt_own (w.heap.size + 1 + 1) (fun (_ : Unit) => x.2) () _ _ _ hc0 (grownBy_putObj' _ D (.deferred none)) (fun r e => by cases e; exact ⟨_, hK, rfl⟩)
    obtain ⟨⟨q0, q1, q2⟩, _⟩ := bR3.cells
    have hB3 := hB.trans (belowK_b (w := w) (Nat.le_refl _) _ D _ (.deferred none) (by omega) hK rfl rfl)
    rw [HW.out]
    refine ⟨spotV x.2, ?_, rfl, hB3⟩
    simp [results, Tryd.f6, go_sem, q0, q1, q2, spotV]
end Go.Proofs.YtjmkbcdolkgcgaaDoor.Place
