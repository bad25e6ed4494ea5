/- For every list of keys and every two keys the law OrderTells answers true, and they read as they did: no condition. -/
import Derived.Test.YthbdhohbdidcnaaFrame
import Derived.Test.YthbdhohbdidcnaaOrderAwake
import Derived.Test.YthbdhohbdidcnaaOrderRefSort
import Derived.Deep.RegionHeld3
namespace Go.Proofs.Ythbdhohbdidcnaa.OrderTells
open Go.ChangeShapes Go.WideShapes Go.ChangeAt Go.RowKit OM Lay Order

/-- What is held of the world while the region runs. -/
theorem keep {w W w' : World} {a0 a1 b0 b1 : Value} (h : W.cell? ⟨w.heap.size, 0, none⟩ = some a0 ∧ W.cell? ⟨w.heap.size, 1, none⟩ = some a1 ∧ W.cell? ⟨w.heap.size + 1, 0, none⟩ = some b0 ∧ W.cell? ⟨w.heap.size + 1, 1, none⟩ = some b1 ∧ Below w.heap.size w W)
    (hb : Below W.heap.size W w') : w'.cell? ⟨w.heap.size, 0, none⟩ = some a0 ∧ w'.cell? ⟨w.heap.size, 1, none⟩ = some a1 ∧ w'.cell? ⟨w.heap.size + 1, 0, none⟩ = some b0 ∧ w'.cell? ⟨w.heap.size + 1, 1, none⟩ = some b1 ∧ Below w.heap.size w w' :=
  ⟨cell_later hb h.1, cell_later hb h.2.1, cell_later hb h.2.2.1, cell_later hb h.2.2.2.1, h.2.2.2.2.trans (hb.mono h.2.2.2.2.size)⟩
theorem start (w : World) (a0 a1 b0 b1 : Value) (t1 t2 : TypeId) : let W := ((w.alloc (.cells #[a0, a1] t1)).alloc (.cells #[b0, b1] t2)).drew;
    W.cell? ⟨w.heap.size, 0, none⟩ = some a0 ∧ W.cell? ⟨w.heap.size, 1, none⟩ = some a1 ∧ W.cell? ⟨w.heap.size + 1, 0, none⟩ = some b0 ∧ W.cell? ⟨w.heap.size + 1, 1, none⟩ = some b1 ∧ Below w.heap.size w W := by
  obtain ⟨hB, q1, q2⟩ := box2 w #[a0, a1] #[b0, b1] t1 t2
  exact ⟨q1 0, q1 1, q2 0, q2 1, hB.drew⟩
theorem row {w W : World} {a0 a1 b0 b1 : Value} {A : Option Addr} {xs : List Value} (h : W.cell? ⟨w.heap.size, 0, none⟩ = some a0 ∧ W.cell? ⟨w.heap.size, 1, none⟩ = some a1 ∧ W.cell? ⟨w.heap.size + 1, 0, none⟩ = some b0 ∧ W.cell? ⟨w.heap.size + 1, 1, none⟩ = some b1 ∧ Below w.heap.size w W)
    (hR : Row w w.heap.size A xs) : Row W W.heap.size A xs := hR.later h.2.2.2.2

set_option maxHeartbeats 4000000 in
theorem walk (A : Option Addr) (l : List Key) (c : Nat) (x y : Key) (_ : (Lit.int .i64 x.1).wf = true) (_ : (Lit.int .u64 x.2).wf = true) (_ : (Lit.int .i64 y.1).wf = true) (_ : (Lit.int .u64 y.2).wf = true) (w : World)
    (hR : Row w w.heap.size A (flat encK l)) (hl : l.length ≤ maxLen) (_ : ∀ x ∈ l, (Lit.int .i64 x.1).wf = true ∧ (Lit.int .u64 x.2).wf = true) :
    Calls Try.prog 3 #[.slice A l.length c, .agg #[.int .i64 x.1, .int .u64 x.2], .agg #[.int .i64 y.1, .int .u64 y.2]] w fun e w' => e = .returned (.bool true) ∧ Below w.heap.size w w' := by
  have hB := (box2 w #[.int .i64 x.1, .int .u64 x.2] #[.int .i64 y.1, .int .u64 y.2] 25 25).1
  have HMX := Lib.hid hl
  have HR := Lib.hid hR
  clear hl hR
  by_cases hbig : 500 < l.length
  · have HB := Lib.hid hB
    clear hB
    go_enter Try.func3, Try.ntmps3
    go_wp2_with fail
    refine (Law03.awake_any _).mono ?_
    rintro e w' ⟨rfl, hb1⟩
    go_wp2
    go_ret
    exact ⟨rfl, HB.out.trans (hb1.mono HB.out.size)⟩
  · have hlen : l.length ≤ 1000000 := by omega
    have HL := Lib.hid hlen
    clear hlen hB
    go_enter Try.func3, Try.ntmps3
    go_wp2
    go_region_held3 (fun w' => w'.cell? ⟨w.heap.size, 0, none⟩ = some (.int .i64 x.1) ∧ w'.cell? ⟨w.heap.size, 1, none⟩ = some (.int .u64 x.2) ∧ w'.cell? ⟨w.heap.size + 1, 0, none⟩ = some (.int .i64 y.1) ∧ w'.cell? ⟨w.heap.size + 1, 1, none⟩ = some (.int .u64 y.2) ∧ Below w.heap.size w w')
      ((first | exact start w _ _ _ _ _ _ | exact keep (by assumption) (by assumption)))
      (first
        | (go_at_call 7; refine (Order.Cmp_any x y _).mono ?_; rintro e w' ⟨rfl, hb⟩)
        | (go_at_call 8; refine (OrderRef.Cmp_any x y _).mono ?_; rintro e w' ⟨rfl, hb⟩)
        | (go_at_call 9; refine (Order.Place_any A l c x _ (row (by assumption) HR.out) HMX.out).mono ?_; rintro e w' ⟨rfl, hb⟩)
        | (go_at_call 10; refine (OrderRef.Place_any A l c x _ (row (by assumption) HR.out) HMX.out).mono ?_; rintro e w' ⟨rfl, hb⟩)
        | (go_at_call 11; refine (Order.Rising_any A l c _ (row (by assumption) HR.out) HMX.out).mono ?_; rintro e w' ⟨rfl, hb⟩)
        | (go_at_call 12; refine (OrderRef.Rising_any A l c _ (row (by assumption) HR.out) HMX.out).mono ?_; rintro e w' ⟨rfl, hb⟩)
        | (go_at_call 14; refine (Order.Sort_any A l c _ (row (by assumption) HR.out) HL.out).mono ?_; rintro e w2 ⟨A2, c2, rfl, hrow2, hb2⟩)
        | (go_at_call 15; refine (OrderRef.Sort_any A l c _ (row (by assumption) HR.out) HL.out).mono ?_; rintro e w3 ⟨A3, c3, rfl, hrow3, hb3⟩)
        | (go_at_call 13; refine (OrderRef.Same_any A2 A3 _ _ c2 c3 _ (hrow2.later hb3) hrow3 (by rw [sortK_length]; exact HMX.out) (by rw [sortK_length]; exact HMX.out)).mono ?_; rw [decide_eq_true rfl]; rintro e w4 ⟨rfl, hb4⟩)
        | (go_at_call 6; refine (Law03.awake_any _).mono ?_; rintro e w5 ⟨rfl, hb5⟩))
    go_wp2
    go_ret
    rename_i hh
    exact ⟨rfl, hh.2.2.2.2⟩
theorem laidOut : laidOutB Try.prog = true := by kernel_rfl
theorem own : ownKnob Try.prog.godebug = none := by kernel_rfl
theorem lifted (os : Os) (started : os.Started) (H : Type) (enc : TypeId × Value → H) :
    ReturnsInHanded {} Try.checked os 3 .any (Rows.orderTellsSpec.pre6 enc Try.prog Try.f3 Rows.orderTellsRow.domain false) (Rows.orderTellsSpec.post enc Try.prog Try.f3 false true false false) := by
  refine Frame.lifted (C := Try.checked) (fn := Try.f3) (tb := 4) own started (by kernel_rfl) Try.func3
    (ChangeSpec.witness6 (enc := enc) (C := Try.checked) false ⟨#[], #[.slice none 0 0, .agg #[.int .i64 0, .int .u64 0], .agg #[.int .i64 0, .int .u64 0]], []⟩ 8 (by kernel_rfl) (by kernel_rfl) (by kernel_rfl) (by kernel_rfl))
    rfl rfl Try.underlying4 laidOut (by kernel_rfl) (fun ds h => by match ds, h with | [_, _, _], _ => rfl) ?_
  intro W base args ds ps hval0 hA0 hlt
  have hval : ∀ (j : Nat) t v, Try.f3.params[j]? = some t → args[j]? = some v → Value.okWide Try.prog W .any base t v := hval0
  have hA : DataW.TrodAll enc Try.prog W 0 (fun _ => true) true Try.f3.params.toList args.toList ds ps := hA0
  rw [Try.params3] at hA hval
  obtain ⟨v0, vs0, d0, ds0, p0, q0, hargs, rfl, rfl, h0, r0⟩ := trodAll_cons hA
  obtain ⟨v1, vs1, d1, ds1, p1, q1, rfl, rfl, rfl, h1, r1⟩ := trodAll_cons r0
  obtain ⟨v2, vs2, d2, ds2, p2, q2, rfl, rfl, rfl, h2, r2⟩ := trodAll_cons r1
  obtain ⟨rfl, rfl, rfl⟩ := trodAll_nil r2
  obtain rfl : args = #[v0, v1, v2] := by cases args; simp_all
  obtain ⟨A0, x0, c0, rfl, b0, m0, R0, g0⟩ := Open.open_rows (k := 2) Order.encK (fun x => (Lit.int .i64 x.1).wf = true ∧ (Lit.int .u64 x.2).wf = true) Try.underlying22 (by kernel_rfl) (by decide) Order.encK_length (fun n cs y h hl => Open.two_ints Try.underlying25 (by kernel_rfl) Try.underlying3 Try.underlying23 n cs y h hl) (hval 0 22 v0 rfl rfl) h0
  obtain ⟨x1, rfl, w1_0, w1_1⟩ := Open.open_two_ints Try.underlying25 (by kernel_rfl) (by kernel_rfl) Try.underlying3 Try.underlying23 (hval 1 25 v1 rfl rfl) h1
  obtain ⟨x2, rfl, w2_0, w2_1⟩ := Open.open_two_ints Try.underlying25 (by kernel_rfl) (by kernel_rfl) Try.underlying3 Try.underlying23 (hval 2 25 v2 rfl rfl) h2
  refine (walk A0 x0 c0 x1 x2 w1_0 w1_1 w2_0 w2_1 W R0 (Nat.le_trans b0 m0) g0).mono fun e W' h => ?_
  exact h

theorem over : Rows.orderTellsRow.holds Try.pinned (OpenSpec.ofChange Rows.orderTellsSpec) :=
  OpenClaim.holds_of_wide 3 Try.f3 rfl rfl rfl rfl rfl rfl rfl ⟨rfl, rfl, rfl, rfl, rfl⟩ rfl rfl rfl rfl rfl (by kernel_rfl) Try.func3 (by kernel_rfl)
    (of_decide_eq_true (by kernel_rfl)) (by unfold Func.isWrapper; first | (rw [if_pos (by decide +kernel)]; kernel_rfl) | (rw [if_neg (by decide +kernel)]; exact ⟨rfl, rfl⟩))
    (fun os started H enc _ => lifted os started H enc)

theorem proved : Rows.OrderTellsSaid := over
#print axioms proved
end Go.Proofs.Ythbdhohbdidcnaa.OrderTells
