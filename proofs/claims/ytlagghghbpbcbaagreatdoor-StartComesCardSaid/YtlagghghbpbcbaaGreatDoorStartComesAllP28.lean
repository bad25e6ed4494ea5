import Derived.Test.YtlagghghbpbcbaaGreatDoorStartComesAllP12
import Derived.Test.YtlagghghbpbcbaaGreatDoorStartComesAllP5
import Derived.Test.YtlagghghbpbcbaaGreatDoorStartComesAllP23
import Derived.Test.YtlagghghbpbcbaaGreatDoorStartComesAllP27
import Derived.Test.YtlagghghbpbcbaaGreatDoorStartComesAllP1
import Derived.Test.YtlagghghbpbcbaaGreatDoorStartComesAllP7
import Derived.Test.YtlagghghbpbcbaaGreatDoorStartComesAllP15
import Derived.Deep.RegionHeld3
/- The document's words for chains (package sundialref18): a way on, a key, a mark, whether a list has a reference. -/
namespace Go.Proofs.YtlagghghbpbcbaaGreatDoor.SeekRef
set_option maxRecDepth 20000
open Go.ChangeShapes Go.WideShapes Go.RowKit PM CM KM Lay Ints Plan
set_option linter.unusedVariables false
set_option linter.unusedSimpArgs false

theorem ret_bool {a b : Bool} (h : a = b) : Ending.returned (.bool a) = .returned (.bool b) := by rw [h]

theorem Next_any (T N L G h : Int) {r : Int} (hr : 0 ≤ r ∧ r < 18446744073709551616) (w : World) : Calls Tryz.prog 100 #[.agg #[.int .i64 T, .int .i64 N, .int .i64 L, .int .u64 G], .int .u64 r, .int .i64 h] w fun e w' => e = .returned (.int .i64 (nextI T L (idx r) h)) ∧ Below w.heap.size w w' := by
  obtain ⟨c_0, c_1, c_2, c_3⟩ := box4 w (.int .i64 T) (.int .i64 N) (.int .i64 L) (.int .u64 G) 24
  have C_0 := fun p : After (w.alloc (.cells #[.int .i64 T, .int .i64 N, .int .i64 L, .int .u64 G] 24)) => p.cell c_0
  have C_1 := fun p : After (w.alloc (.cells #[.int .i64 T, .int .i64 N, .int .i64 L, .int .u64 G] 24)) => p.cell c_1
  have C_2 := fun p : After (w.alloc (.cells #[.int .i64 T, .int .i64 N, .int .i64 L, .int .u64 G] 24)) => p.cell c_2
  have C_3 := fun p : After (w.alloc (.cells #[.int .i64 T, .int .i64 N, .int .i64 L, .int .u64 G] 24)) => p.cell c_3
  have HI := Lib.hid fun W => Ref02.Index_any r hr.1 hr.2 W
  have HN := Lib.hid fun W => PlanRef.Next_any T N L G (idx r) h W
  unfold idx at HN ⊢
  generalize r % 4294967296 / 2 = i at HI HN ⊢
  clear hr c_0 c_1 c_2 c_3
  go_enter Tryz.func100, Tryz.ntmps100
  go_wp2
  refine wp_region_after mixed (by kernel_rfl) ?_
  repeat (first | go_big_quiet_step ((first | (with_reducible exact calls_after_same (HI.out _)) | exact calls_after (HN.out _))) | quiet_step ((first | (with_reducible exact calls_after_same (HI.out _)) | exact calls_after (HN.out _))))
  refine wpQuiet_nil ?_
  intro _ hw'
  obtain ⟨pq, hw''⟩ := hw'
  subst hw''
  go_wp2
  go_ret
  exact ⟨rfl, (box_below _ _).trans (pq.ok.mono (by simp))⟩
theorem Way_all {A : Option Addr} {l : List Int} {n : Nat} (c : Nat) {w : World} (hn : n = l.length) (hl : n ≤ 9223372036854775807) (hR : Row w w.heap.size A (flat (encZ .u64) l)) (T N L G h : Int) {r : Int} (hr : 0 ≤ r ∧ r < 18446744073709551616) :
    Calls Tryz.prog 64 #[.slice A n c, .agg #[.int .i64 T, .int .i64 N, .int .i64 L, .int .u64 G], .int .u64 r, .int .i64 h] w fun e w' => e = .returned (.int .u64 (wayI T L l r h)) ∧ Below w.heap.size w w' := by
  obtain ⟨c_0, c_1, c_2, c_3⟩ := box4 w (.int .i64 T) (.int .i64 N) (.int .i64 L) (.int .u64 G) 24
  have HX := Lib.hid fun W => Next_any T N L G h hr W
  have HA := Lib.hid fun (W : World) (hb : Below w.heap.size w W) => AtRef.At_all c hn hl (hR.later hb) (nextI T L (idx r) h)
  unfold wayI
  generalize nextI T L (idx r) h = i at HX HA ⊢
  generalize getI l i = x at HA ⊢
  clear hR hr hn
  go_enter Tryz.func64, Tryz.ntmps64
  go_wp2_with fail
  refine (HX.out _).mono ?_
  rintro e w1 ⟨rfl, b1⟩
  have HB := Lib.hid ((box_below w (.cells #[.int .i64 T, .int .i64 N, .int .i64 L, .int .u64 G] 24)).trans (b1.mono (by simp)))
  go_wp2_with fail
  refine (HA.out _ HB.out).mono ?_
  rintro e w2 ⟨rfl, rfl⟩
  go_wp2
  go_ret
  exact ⟨rfl, HB.out⟩
theorem Way_any {A : Option Addr} {l : List Int} {n : Nat} (c : Nat) {w : World} (hn : n = l.length) (hl : n ≤ 1000000) (hR : Row w w.heap.size A (flat (encZ .u64) l)) (T N L G h : Int) {r : Int} (hr : 0 ≤ r ∧ r < 18446744073709551616) :
    Calls Tryz.prog 64 #[.slice A n c, .agg #[.int .i64 T, .int .i64 N, .int .i64 L, .int .u64 G], .int .u64 r, .int .i64 h] w fun e w' => e = .returned (.int .u64 (wayI T L l r h)) ∧ Below w.heap.size w w' := Way_all c hn (by omega) hR T N L G h hr
theorem Out_is {A : Option Addr} {l : List Int} {n : Nat} (c : Nat) {w : World} {b : Bool} (hn : n = l.length) (hl : n ≤ 1000000) (hR : Row w w.heap.size A (flat (encZ .u64) l)) (hf : BM.Fits l) (T N L G h : Int) {r : Int} (hr : 0 ≤ r ∧ r < 18446744073709551616) (hb : (!freeB T L l h r) = b) :
    Calls Tryz.prog 31 #[.slice A n c, .agg #[.int .i64 T, .int .i64 N, .int .i64 L, .int .u64 G], .int .u64 r, .int .i64 h] w fun e w' => e = .returned (.bool b) ∧ Below w.heap.size w w' := by
  obtain ⟨c_0, c_1, c_2, c_3⟩ := box4 w (.int .i64 T) (.int .i64 N) (.int .i64 L) (.int .u64 G) 24
  have HW := Lib.hid (Way_any c hn hl (hR.later (box_below w (.cells #[.int .i64 T, .int .i64 N, .int .i64 L, .int .u64 G] 24))) T N L G h hr)
  have hfit : 0 ≤ wayI T L l r h ∧ wayI T L l r h < 18446744073709551616 := BM.fits_get hf _
  unfold freeB at hb
  rw [Bool.not_not] at hb
  generalize wayI T L l r h = x at HW hfit hb
  have HM := Lib.hid fun W => Ref02.Marked_any x hfit.1 hfit.2 W
  rw [hb] at HM
  clear hR hr hn hf hfit hb
  go_enter Tryz.func31, Tryz.ntmps31
  go_wp2_with fail
  refine HW.out.mono ?_
  rintro e w1 ⟨rfl, b1⟩
  have HB := Lib.hid ((box_below w (.cells #[.int .i64 T, .int .i64 N, .int .i64 L, .int .u64 G] 24)).trans (b1.mono (by simp)))
  go_wp2_with fail
  refine (HM.out _).mono ?_
  rintro e w2 ⟨rfl, rfl⟩
  go_wp2
  go_ret
  exact ⟨rfl, HB.out⟩
/-- A box of two cells. -/
theorem res2 {w wq : World} {v0 v1 : Value} {t : TypeId} (h : Below (w.alloc (.cells #[v0, v1] t)).heap.size (w.alloc (.cells #[v0, v1] t)) wq) : (wq.cell? ⟨w.heap.size, 0, none⟩ = some v0 ∧ wq.cell? ⟨w.heap.size, 1, none⟩ = some v1) ∧ wq.frozen? ⟨w.heap.size, 0, none⟩ = false ∧ wq.frozen? ⟨w.heap.size, 1, none⟩ = false := by
  have hb := (h.block w.heap.size (by simp)).trans (new_heap w _)
  exact ⟨⟨(cell_heap hb 0).1, (cell_heap hb 1).1⟩, (cell_heap hb 0).2, (cell_heap hb 1).2⟩
theorem set2 {w wq : World} {v0 v1 : Value} {t : TypeId} (h : Below (w.alloc (.cells #[v0, v1] t)).heap.size (w.alloc (.cells #[v0, v1] t)) wq) (u0 u1 : Value) :
    let W := ((wq.setCell ⟨w.heap.size, 0, none⟩ u0).setCell ⟨w.heap.size, 1, none⟩ u1)
    (W.cell? ⟨w.heap.size, 0, none⟩ = some u0 ∧ W.cell? ⟨w.heap.size, 1, none⟩ = some u1) ∧ Below w.heap.size w W := by
  have hb := set_heap (j := 1) (set_heap (j := 0) ((h.block w.heap.size (by simp)).trans (new_heap w _)) u0) u1
  have hw : Below w.heap.size w wq := ((Below.refl _ _).alloc (Nat.le_refl _) _).trans (h.mono (by simp))
  exact ⟨⟨(cell_heap hb 0).1, (cell_heap hb 1).1⟩, (hw.setCell (Nat.le_refl _) _).setCell (Nat.le_refl _) _⟩
section
variable {w W : World} {T N L G : Int}
theorem kept (hb : Below (w.heap.size + 1) (w.alloc (.cells #[.int .i64 T, .int .i64 N, .int .i64 L, .int .u64 G] 24)) W) : W.cell? ⟨w.heap.size, 0, none⟩ = some (.int .i64 T) ∧ W.cell? ⟨w.heap.size, 1, none⟩ = some (.int .i64 N) ∧ W.cell? ⟨w.heap.size, 2, none⟩ = some (.int .i64 L) ∧ W.cell? ⟨w.heap.size, 3, none⟩ = some (.int .u64 G) := box4_later hb
theorem kept_past {w W : World} {T N L G : Int} (hb : Below ((w.alloc (.cells #[.int .i64 T, .int .i64 N, .int .i64 L, .int .u64 G] 24)).alloc (.cells #[.int .i64 0, .int .u64 0] 58)).heap.size ((w.alloc (.cells #[.int .i64 T, .int .i64 N, .int .i64 L, .int .u64 G] 24)).alloc (.cells #[.int .i64 0, .int .u64 0] 58)) W) : W.cell? ⟨w.heap.size, 0, none⟩ = some (.int .i64 T) ∧ W.cell? ⟨w.heap.size, 1, none⟩ = some (.int .i64 N) ∧ W.cell? ⟨w.heap.size, 2, none⟩ = some (.int .i64 L) ∧ W.cell? ⟨w.heap.size, 3, none⟩ = some (.int .u64 G) := kept (((Below.refl _ _).alloc (by simp) _).trans (hb.mono (by simp)))
theorem kept_start : (fun W : World => W.cell? ⟨w.heap.size, 0, none⟩ = some (.int .i64 T) ∧ W.cell? ⟨w.heap.size, 1, none⟩ = some (.int .i64 N) ∧ W.cell? ⟨w.heap.size, 2, none⟩ = some (.int .i64 L) ∧ W.cell? ⟨w.heap.size, 3, none⟩ = some (.int .u64 G)) ((w.alloc (.cells #[.int .i64 T, .int .i64 N, .int .i64 L, .int .u64 G] 24)).alloc (.cells #[.int .i64 0, .int .u64 0] 58)).drew := kept_past (Below.refl _ _).drew
theorem kept_set (hb : Below ((w.alloc (.cells #[.int .i64 T, .int .i64 N, .int .i64 L, .int .u64 G] 24)).alloc (.cells #[.int .i64 0, .int .u64 0] 58)).heap.size ((w.alloc (.cells #[.int .i64 T, .int .i64 N, .int .i64 L, .int .u64 G] 24)).alloc (.cells #[.int .i64 0, .int .u64 0] 58)) W) (u0 u1 : Value) : (fun W : World => W.cell? ⟨w.heap.size, 0, none⟩ = some (.int .i64 T) ∧ W.cell? ⟨w.heap.size, 1, none⟩ = some (.int .i64 N) ∧ W.cell? ⟨w.heap.size, 2, none⟩ = some (.int .i64 L) ∧ W.cell? ⟨w.heap.size, 3, none⟩ = some (.int .u64 G)) ((W.setCell ⟨w.heap.size + 1, 0, none⟩ u0).setCell ⟨w.heap.size + 1, 1, none⟩ u1) := by
  have h := (set2 hb u0 u1).2
  rw [World.size_alloc] at h
  exact kept h
end
theorem Key_all {A : Option Addr} {l : List Int} {n : Nat} (c : Nat) {w : World} (hn : n = l.length) (hl : n ≤ 9223372036854775807) (hR : Row w w.heap.size A (flat (encZ .u64) l)) (T N L G : Int) {r : Int} (hr : 0 ≤ r ∧ r < 18446744073709551616) :
    Calls Tryz.prog 22 #[.slice A n c, .agg #[.int .i64 T, .int .i64 N, .int .i64 L, .int .u64 G], .int .u64 r] w fun e w' => e = .returned (.agg #[.int .i64 (keyI T L l r).1, .int .u64 (keyI T L l r).2]) ∧ Below w.heap.size w w' := by
  obtain ⟨c_0, c_1, c_2, c_3⟩ := box4 w (.int .i64 T) (.int .i64 N) (.int .i64 L) (.int .u64 G) 24
  have HI := Lib.hid fun W => Ref02.Index_any r hr.1 hr.2 W
  have HA := Lib.hid fun (W : World) (hb : Below w.heap.size w W) (i : Int) => AtRef.At_all c hn hl (hR.later hb) i
  have HS1 := Lib.hid fun W => PlanRef.Slot_any T N L G (idx r) 1 W
  have HS2 := Lib.hid fun W => PlanRef.Slot_any T N L G (idx r) 2 W
  unfold keyI
  unfold idx at HS1 HS2 ⊢
  generalize r % 4294967296 / 2 = i at HI HS1 HS2 ⊢
  have HA1 := Lib.hid fun (W : World) (hb : Below w.heap.size w W) => HA.out W hb (atI T L i 1)
  have HA2 := Lib.hid fun (W : World) (hb : Below w.heap.size w W) => HA.out W hb (atI T L i 2)
  have hw : ∀ x : Int, IntKind.i64.wrap x = wrap64 x := IntWalk.i64_left
  generalize atI T L i 1 = p1 at HS1 HA1 ⊢
  generalize atI T L i 2 = p2 at HS2 HA2 ⊢
  generalize getI l p1 = x1 at HA1 ⊢
  generalize getI l p2 = x2 at HA2 ⊢
  clear hR hr hn HA
  go_enter Tryz.func22, Tryz.ntmps22
  go_wp2_with fail
  refine (HI.out _).mono ?_
  rintro e w' ⟨rfl, rfl⟩
  go_wp2
  go_region_held3 (fun W => W.cell? ⟨w.heap.size, 0, none⟩ = some (.int .i64 T) ∧ W.cell? ⟨w.heap.size, 1, none⟩ = some (.int .i64 N) ∧ W.cell? ⟨w.heap.size, 2, none⟩ = some (.int .i64 L) ∧ W.cell? ⟨w.heap.size, 3, none⟩ = some (.int .u64 G))
    ((first | (with_reducible exact kept_start) | (with_reducible assumption) | (with_reducible exact kept_past HB2.out) | (with_reducible exact kept_past HB3.out) | (with_reducible exact kept_set HB3.out _ _)))
    (first
      | (go_at_call 34; (with_reducible refine (HS1.out _).mono ?_); rintro e w2 ⟨rfl, hb⟩; have HB2 := Lib.hid (show Below ((w.alloc (.cells #[.int .i64 T, .int .i64 N, .int .i64 L, .int .u64 G] 24)).alloc (.cells #[.int .i64 0, .int .u64 0] 58)).heap.size ((w.alloc (.cells #[.int .i64 T, .int .i64 N, .int .i64 L, .int .u64 G] 24)).alloc (.cells #[.int .i64 0, .int .u64 0] 58)) w2 from (Below.refl _ _).drew.trans hb); have HW2 := Lib.hid ((((box_below w (.cells #[.int .i64 T, .int .i64 N, .int .i64 L, .int .u64 G] 24)).alloc (by simp) (.cells #[.int .i64 0, .int .u64 0] 58))).trans (HB2.out.mono (by simp; omega))); clear hb)
      | (go_at_call 51; (with_reducible refine (HA1.out _ HW2.out).mono ?_); rintro e w4 ⟨rfl, rfl⟩)
      | (go_at_call 34; (with_reducible refine (HS2.out _).mono ?_); rintro e w3 ⟨rfl, hb⟩; have HB3 := Lib.hid (HB2.out.trans (hb.mono HB2.out.size)); have HW3 := Lib.hid (HW2.out.trans (hb.mono HW2.out.size)); obtain ⟨⟨r0, r1⟩, g0, g1⟩ := res2 HB3.out; simp only [World.size_alloc] at r0 r1 g0 g1; clear hb)
      | (go_at_call 51; (with_reducible refine (HA2.out _ HW3.out).mono ?_); rintro e w5 ⟨rfl, rfl⟩))
  obtain ⟨⟨s0, s1⟩, hB⟩ := set2 HB3.out (.int .i64 (wrap64 x1)) (.int .u64 x2)
  simp only [World.size_alloc] at s0 s1 hB
  have HB := Lib.hid ((box_below w (.cells #[.int .i64 T, .int .i64 N, .int .i64 L, .int .u64 G] 24)).trans (hB.mono (by omega)))
  clear hB r0 r1 g0 g1
  go_wp2
  exact bodyPost_ret (v := .agg #[.int .i64 (wrap64 x1), .int .u64 x2]) (by simp [results, Tryz.results22, go_sem, s0, s1]) rfl ⟨rfl, HB.out⟩
theorem Key_any {A : Option Addr} {l : List Int} {n : Nat} (c : Nat) {w : World} (hn : n = l.length) (hl : n ≤ 1000000) (hR : Row w w.heap.size A (flat (encZ .u64) l)) (T N L G : Int) {r : Int} (hr : 0 ≤ r ∧ r < 18446744073709551616) :
    Calls Tryz.prog 22 #[.slice A n c, .agg #[.int .i64 T, .int .i64 N, .int .i64 L, .int .u64 G], .int .u64 r] w fun e w' => e = .returned (.agg #[.int .i64 (keyI T L l r).1, .int .u64 (keyI T L l r).2]) ∧ Below w.heap.size w w' := Key_all c hn (by omega) hR T N L G hr
theorem Has_any {A : Option Addr} {l : List Int} {n : Nat} (c : Nat) {w : World} (hn : n = l.length) (hl : n ≤ 1000000) (hR : Row w w.heap.size A (flat (encZ .u64) l)) (x : Int) : Calls Tryz.prog 32 #[.slice A n c, .int .u64 x] w fun e w' => e = .returned (.bool (decide (x ∈ l))) ∧ w = w' := by
  have HN := Lib.hid hn
  have HR := Lib.hid hR
  clear hn hR
  go_enter Tryz.func32, Tryz.ntmps32
  go_wp2
  go_loopw [5] (fun jv wi => ∃ j : Nat, j ≤ n ∧ jv = .int .i64 j ∧ (∀ i, i < j → l[i]? ≠ some x) ∧ w = wi)
    (fun jv _ => n - (intOf jv).toNat)
  case atStart => exact ⟨0, Nat.zero_le _, rfl, fun i h => by omega, rfl⟩
  case round =>
    obtain ⟨j, hj, rfl, hne, rfl⟩ := hrel
    have HNE := Lib.hid hne
    clear hne
    by_cases hjk : j < n
    · have hjl : j < l.length := by rw [← HN.out]; exact hjk
      obtain ⟨bl, o, rfl, _, hc⟩ := int_at HR.out hjl
      obtain ⟨y, hy⟩ : ∃ y, l[j]? = some y := ⟨_, List.getElem?_eq_getElem hjl⟩
      have c0 := hc j y hy
      have HY := Lib.hid hy
      clear hc hy hjl
      by_cases hyb : y = x
      · have hyb2 : (y == x) = true := by simpa using hyb
        have HE := Lib.hid (show x ∈ l from hyb ▸ List.mem_of_getElem? HY.out)
        clear hyb
        go_wp2
        go_ret
        exact ⟨ret_bool (decide_eq_true HE.out).symm, rfl⟩
      · have hyb2 : (y == x) = false := by simpa using hyb
        have HYB := Lib.hid hyb
        clear hyb
        go_wp2
        go_roundw
        case rel =>
          refine ⟨j + 1, by omega, by go_num, fun i hi => ?_, trivial⟩
          by_cases e : i = j
          · subst e
            rw [HY.out]
            exact fun e => HYB.out (by simpa using e)
          · exact HNE.out i (by omega)
        case measure => simp [intOf]; omega
    · have HJ := Lib.hid (show x ∉ l from fun hm => by
        obtain ⟨i, hi, e⟩ := List.mem_iff_getElem.1 hm
        have := HN.out
        exact HNE.out i (by omega) (by rw [List.getElem?_eq_getElem hi, e]))
      go_wp2
      go_ret
      exact ⟨ret_bool (decide_eq_false HJ.out).symm, rfl⟩
theorem Has_is {A : Option Addr} {l : List Int} {n : Nat} {c : Nat} {w : World} {x : Int} {v : Bool} (h : decide (x ∈ l) = v) (hn : n = l.length) (hl : n ≤ 1000000) (hR : Row w w.heap.size A (flat (encZ .u64) l)) : Calls Tryz.prog 32 #[.slice A n c, .int .u64 x] w fun e w' => e = .returned (.bool v) ∧ w = w' := by
  rw [← h]
  exact Has_any c hn hl hR x
end Go.Proofs.YtlagghghbpbcbaaGreatDoor.SeekRef
