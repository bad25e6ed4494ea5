/- Package handle: the handle of a reference, the reference of a handle, a handle's text, the handle of a text; what lay in memory ahead stays as it was. -/
import Derived.Test.YtjbfhnkjcfpfpaaDoorHandleLib
import Derived.Test.YtjbfhnkjcfpfpaaDoorHandleRefs
import Derived.Test.YtjbfhnkjcfpfpaaDoorOnly
import Derived.Defers
import Derived.WalkMore
import Derived.Deep.RegionHeld3
namespace Go.Proofs.YtjbfhnkjcfpfpaaDoor.Handle
set_option maxRecDepth 20000
open Go.ChangeShapes Go.WideShapes Go.ChangeAt Go.RowKit KM WaM Str HaM Lay Fmt HandleLib
open Ref30 (refI refV refI_yes refI_no text_parts toldP plan_cell plan_below)
open ClM (genI)
open SM (decI)
set_option linter.unusedVariables false
set_option linter.unusedSimpArgs false
theorem Of_any {r : Int} (hr : 0 ≤ r ∧ r < 18446744073709551616) (w : World) : Calls Tryd.prog 8 #[.int .u64 r] w fun e w' => e = .returned (.int .u64 (handI r)) ∧ w = w' := by
  have hg : 0 ≤ genI r := by unfold genI; omega
  have hi : 0 ≤ idx r ∧ idx r ≤ 2147483647 := by unfold idx; omega
  have HE := Lib.hid (show genI r % 4294967296 * 4294967296 + idx r % 4294967296 = handI r by unfold handI genI idx; omega)
  have hu : IntKind.u64.wrap (idx r) = idx r := IntWalk.u64_in _ (by omega)
  have HG := Lib.hid fun W => Refer.Gen_any r hr.1 hr.2 W
  have HI := Lib.hid fun W => Refer.Index_any r hr.1 hr.2 W
  have HP := Lib.hid fun W => Field.Pair_any (genI r) (idx r) hg hi.1 (by omega) W
  rw [HE.out] at HP
  rw [show r / 4294967296 = genI r from rfl] at HG
  rw [show r % 4294967296 / 2 = idx r from rfl] at HI
  generalize genI r = g at HG HP
  generalize idx r = i at HI HP hu
  clear hr hg hi HE
  go_enter Tryd.func8, Tryd.ntmps8
  go_wp2_with fail
  refine (HG.out _).mono ?_
  rintro e w' ⟨rfl, rfl⟩
  go_wp2_with fail
  refine (HI.out _).mono ?_
  rintro e w' ⟨rfl, rfl⟩
  go_wp2_with fail
  refine (HP.out _).mono ?_
  rintro e w' ⟨rfl, rfl⟩
  go_wp2
  go_ret
  exact ⟨rfl, rfl⟩
theorem ref_dev {S h : Int} (h0 : 0 ≤ h ∧ h < 18446744073709551616) (hs : ¬ S < h % 4294967296) :
    refV S h = .tuple #[.int .u64 (RM.ofI (h / 4294967296) (h % 4294967296)), .bool (!decide (RM.ofI (h / 4294967296) (h % 4294967296) % 4294967296 / 2 = 0))] := by
  unfold refV
  by_cases hy : 1 ≤ h % 4294967296 ∧ h % 4294967296 ≤ 2147483647
  · rw [refI_yes ⟨hy.1, by omega, hy.2⟩, RM.ofI_yes ⟨by omega, hy.1, hy.2⟩]
    rw [decide_eq_false (by omega)]
    rfl
  · rw [refI_no (fun e => hy ⟨e.1, e.2.2⟩), RM.ofI_no (fun e => hy e.2)]
    rfl
theorem Ref_any {T S L G h : Int} (h0 : 0 ≤ h ∧ h < 18446744073709551616) (w : World) :
    Calls Tryd.prog 6 #[.agg #[.int .i64 T, .int .i64 S, .int .i64 L, .int .u64 G], .int .u64 h] w fun e w' => e = .returned (refV S h) ∧ Below w.heap.size w w' := by
  have c1 := plan_cell T S L G w
  have HB := Lib.hid (plan_below T S L G w)
  have HL := Lib.hid fun w => Field.Low_any h h0.1 h0.2 w
  have HH := Lib.hid fun w => Field.High_any h h0.1 h0.2 w
  have b0 : 0 ≤ h % 4294967296 := by omega
  have b1 : h % 4294967296 ≤ 4294967295 := by omega
  have e2 : IntKind.i64.wrap (h % 4294967296) = h % 4294967296 := IntWalk.i64_in _ (by omega)
  by_cases hs : S < h % 4294967296
  · have HE := Lib.hid (show refV S h = .tuple #[.int .u64 0, .bool false] by unfold refV; rw [refI_no (by omega)])
    generalize h % 4294967296 = l at HL b0 b1 e2 hs
    clear h0
    go_enter Tryd.func6, Tryd.ntmps6
    go_wp2_with fail
    refine (HL.out _).mono ?_
    rintro e w' ⟨rfl, rfl⟩
    go_wp2
    go_ret2
    exact ⟨by rw [HE.out]; rfl, HB.out⟩
  · have HE := Lib.hid (ref_dev h0 hs)
    have HO := Lib.hid fun w => Refer.Of_any (h / 4294967296) (h % 4294967296) (by omega) w
    have ho : 0 ≤ RM.ofI (h / 4294967296) (h % 4294967296) ∧ RM.ofI (h / 4294967296) (h % 4294967296) < 18446744073709551616 := by
      unfold RM.ofI; split <;> omega
    have HN := Lib.hid fun w => Refer.None_any _ ho.1 ho.2 w
    generalize RM.ofI (h / 4294967296) (h % 4294967296) = r at HE HO HN
    generalize h % 4294967296 = l at HL HO b0 b1 e2 hs
    generalize h / 4294967296 = g at HH HO
    clear h0 ho
    go_enter Tryd.func6, Tryd.ntmps6
    go_wp2_with fail
    refine (HL.out _).mono ?_
    rintro e w' ⟨rfl, rfl⟩
    go_wp2_with fail
    refine (HH.out _).mono ?_
    rintro e w' ⟨rfl, rfl⟩
    go_wp2_with fail
    refine (HO.out _).mono ?_
    rintro e w' ⟨rfl, rfl⟩
    go_wp2_with fail
    refine (HN.out _).mono ?_
    rintro e w' ⟨rfl, rfl⟩
    go_wp2
    go_ret2
    exact ⟨by rw [HE.out]; rfl, HB.out⟩
theorem Text_any {h : Int} (h0 : 0 ≤ h ∧ h < 18446744073709551616) (w : World) (hT : Tens w) :
    Calls Tryd.prog 10 #[.int .u64 h] w fun e w' => e = .returned (.string (bs (textH h))) ∧ Below w.heap.size w w' := by
  obtain ⟨s1, s2, e⟩ := text_parts h0
  have HL := Lib.hid fun w => Field.Low_any h h0.1 h0.2 w
  have HH := Lib.hid fun w => Field.High_any h h0.1 h0.2 w
  have D1 := Lib.hid fun w => digits_any (h / 4294967296) (by omega) (by omega) w
  have D2 := Lib.hid fun w => digits_any (h % 4294967296) (by omega) (by omega) w
  have HE := Lib.hid e
  have HT := Lib.hid hT
  clear h0 e hT
  generalize h % 4294967296 = l at *
  generalize h / 4294967296 = g at *
  go_enter Tryd.func10, Tryd.ntmps10
  go_wp2_with fail
  refine (HH.out _).mono ?_
  rintro e w' ⟨rfl, rfl⟩
  go_wp2_with fail
  refine (D1.out _ HT.out).mono ?_
  rintro e w' ⟨rfl, hb⟩
  go_wp2_with fail
  refine (HL.out _).mono ?_
  rintro e w' ⟨rfl, rfl⟩
  go_wp2_with fail
  refine (D2.out _ (tens_later HT.out hb)).mono ?_
  rintro e w' ⟨rfl, hb2⟩
  go_wp2
  go_ret
  exact ⟨ret_ba HE.out, hb.trans (hb2.mono hb.size)⟩
/-- The boxes of cut: the two numbers, the error, whether all is right so far; nothing older has turned. -/
structure Cut (w : World) (k : Nat) (g i e : Int) (r : Bool) (W : World) : Prop where
  gen : W.heap[w.heap.size]? = some (.cells #[.int .u64 g] 22 (0, 0))
  ind : W.heap[w.heap.size + 1]? = some (.cells #[.int .u64 i] 22 (0, 0))
  err : W.heap[w.heap.size + 1 + 1]? = some (.cells #[.int .i64 e] 31 (0, 0))
  right : W.heap[k]? = some (.cells #[.bool r] 4 (0, 0))
  late : w.heap.size + 3 ≤ k
  below : Below w.heap.size w W
section
variable {w W W' : World} {k : Nat} {g i e : Int} {r : Bool}
theorem keep_heap {o : Obj} {j : Nat} (h : W.heap[j]? = some o) (hb : Below W.heap.size W W') : W'.heap[j]? = some o := (hb.block j (Array.getElem?_eq_some_iff.1 h).1).trans h
theorem keep_set {o : Obj} {p : Addr} {j : Nat} (h : W.heap[j]? = some o) (hj : p.block ≠ j) (v : Value) : (W.setCell p v).heap[j]? = some o := (Below.heap_setCell _ _ _ _ (fun e => hj e.symm)).trans h
theorem Cut.later (h : Cut w k g i e r W) (hb : Below W.heap.size W W') : Cut w k g i e r W' :=
  ⟨keep_heap h.gen hb, keep_heap h.ind hb, keep_heap h.err hb, keep_heap h.right hb, h.late, h.below.trans (hb.mono h.below.size)⟩
theorem Cut.drew (h : Cut w k g i e r W) : Cut w k g i e r W.drew := h.later ((Below.refl _ _).drew)
theorem below_set (hb : Below w.heap.size w W) {p : Addr} (hp : w.heap.size ≤ p.block) (v : Value) : Below w.heap.size w (W.setCell p v) :=
  ((only_below (fun _ => False) hb).setCell (p := p) (.inr hp) v).below (Nat.le_refl _) (fun _ h => h.elim)
theorem Cut.set_gen (h : Cut w k g i e r W) (g' : Int) : Cut w k g' i e r (W.setCell ⟨w.heap.size, 0, none⟩ (.int .u64 g')) :=
  ⟨by have := set_heap (j := 0) h.gen (.int .u64 g'); simpa using this, keep_set h.ind (by dsimp only; omega) _, keep_set h.err (by dsimp only; omega) _, keep_set h.right (by have := h.late; dsimp only; omega) _, h.late, below_set h.below (by dsimp only; omega) _⟩
theorem Cut.set_ind (h : Cut w k g i e r W) (i' : Int) : Cut w k g i' e r (W.setCell ⟨w.heap.size + 1, 0, none⟩ (.int .u64 i')) :=
  ⟨keep_set h.gen (by dsimp only; omega) _, by have := set_heap (j := 0) h.ind (.int .u64 i'); simpa using this, keep_set h.err (by dsimp only; omega) _, keep_set h.right (by have := h.late; dsimp only; omega) _, h.late, below_set h.below (by dsimp only; omega) _⟩
theorem Cut.set_err (h : Cut w k g i e r W) (e' : Int) : Cut w k g i e' r (W.setCell ⟨w.heap.size + 1 + 1, 0, none⟩ (.int .i64 e')) :=
  ⟨keep_set h.gen (by dsimp only; omega) _, keep_set h.ind (by dsimp only; omega) _, by have := set_heap (j := 0) h.err (.int .i64 e'); simpa using this, keep_set h.right (by have := h.late; dsimp only; omega) _, h.late, below_set h.below (by dsimp only; omega) _⟩
theorem Cut.set_right (h : Cut w k g i e r W) (r' : Bool) : Cut w k g i e r' (W.setCell ⟨k, 0, none⟩ (.bool r')) :=
  ⟨keep_set h.gen (by have := h.late; dsimp only; omega) _, keep_set h.ind (by have := h.late; dsimp only; omega) _, keep_set h.err (by have := h.late; dsimp only; omega) _, by have := set_heap (j := 0) h.right (.bool r'); simpa using this, h.late, below_set h.below (by have := h.late; dsimp only; omega) _⟩
theorem Cut.all (h : Cut w k g i e r W) : W.cell? ⟨w.heap.size, 0, none⟩ = some (.int .u64 g) ∧ W.frozen? ⟨w.heap.size, 0, none⟩ = false ∧ W.cell? ⟨w.heap.size + 1, 0, none⟩ = some (.int .u64 i) ∧ W.frozen? ⟨w.heap.size + 1, 0, none⟩ = false ∧
    W.cell? ⟨w.heap.size + 1 + 1, 0, none⟩ = some (.int .i64 e) ∧ W.frozen? ⟨w.heap.size + 1 + 1, 0, none⟩ = false ∧ W.cell? ⟨k, 0, none⟩ = some (.bool r) ∧ W.frozen? ⟨k, 0, none⟩ = false ∧ Cut w k g i e r W :=
  ⟨(cell_heap h.gen 0).1, (cell_heap h.gen 0).2, (cell_heap h.ind 0).1, (cell_heap h.ind 0).2, (cell_heap h.err 0).1, (cell_heap h.err 0).2, (cell_heap h.right 0).1, (cell_heap h.right 0).2, h⟩
end
theorem cut1_yes {w W : World} {k : Nat} {g i e : Int} (u : FrameMode) (h : Cut w k g i e true W) :
    CallsD Tryd.prog 38 #[.pointer (some ⟨k, 0, none⟩), .pointer (some ⟨w.heap.size, 0, none⟩), .pointer (some ⟨w.heap.size + 1, 0, none⟩), .pointer (some ⟨w.heap.size + 1 + 1, 0, none⟩)] u W fun E u' W' => u' = u ∧ (E = .returned (.tuple #[]) ∧ W' = W) := by
  obtain ⟨-, -, -, -, -, -, c0, -, -⟩ := h.all
  clear h
  go_enter_d Tryd.func38, Tryd.ntmps38
  go_wp2
  go_end0
  exact ⟨rfl, rfl⟩
theorem cut1_no {w W : World} {k : Nat} {g i e : Int} (u : FrameMode) (h : Cut w k g i e false W) :
    CallsD Tryd.prog 38 #[.pointer (some ⟨k, 0, none⟩), .pointer (some ⟨w.heap.size, 0, none⟩), .pointer (some ⟨w.heap.size + 1, 0, none⟩), .pointer (some ⟨w.heap.size + 1 + 1, 0, none⟩)] u W fun E u' W' => u' = u ∧ (E = .returned (.tuple #[]) ∧ Cut w k 0 0 8 false W') := by
  obtain ⟨c0, c1, c2, c3, c4, c5, c6, c7, -⟩ := h.all
  have HC := Lib.hid (((h.set_gen 0).set_ind 0).set_err 8)
  clear h
  go_enter_d Tryd.func38, Tryd.ntmps38
  go_wp2
  go_end0
  exact ⟨rfl, HC.out⟩
theorem hmf : ∀ (fn : Fn) (first cap : Array Value) (w : World), (Instr.makeFunc fn first cap).run Tryd.prog w = .ok (.func fn first cap) w := fun _ _ _ _ => rfl
/-- What cut tells. -/
def cutT : Option (Nat × Nat) → Value
  | none => .tuple #[.int .u64 0, .int .u64 0, .int .i64 8]
  | some (g, n) => .tuple #[.int .u64 (g : Int), .int .u64 (n : Int), .int .i64 0]
theorem three_boxes (w : World) : ((((w.alloc (.cells #[.int .u64 0] 22)).alloc (.cells #[.int .u64 0] 22)).alloc (.cells #[.int .i64 0] 31))).heap[w.heap.size]? = some (.cells #[.int .u64 0] 22 (0, 0)) ∧ ((((w.alloc (.cells #[.int .u64 0] 22)).alloc (.cells #[.int .u64 0] 22)).alloc (.cells #[.int .i64 0] 31))).heap[w.heap.size + 1]? = some (.cells #[.int .u64 0] 22 (0, 0)) ∧ ((((w.alloc (.cells #[.int .u64 0] 22)).alloc (.cells #[.int .u64 0] 22)).alloc (.cells #[.int .i64 0] 31))).heap[w.heap.size + 1 + 1]? = some (.cells #[.int .i64 0] 31 (0, 0)) ∧ Below w.heap.size w ((((w.alloc (.cells #[.int .u64 0] 22)).alloc (.cells #[.int .u64 0] 22)).alloc (.cells #[.int .i64 0] 31))) ∧ ((((w.alloc (.cells #[.int .u64 0] 22)).alloc (.cells #[.int .u64 0] 22)).alloc (.cells #[.int .i64 0] 31))).heap.size = w.heap.size + 3 := by
  refine ⟨?_, ?_, ?_, (((Below.refl _ _).alloc (Nat.le_refl _) _).alloc (by simp) _).alloc (by simp; omega) _, by simp⟩
  · exact (Below.heap_alloc _ _ _ (by simp; omega)).trans ((Below.heap_alloc _ _ _ (by simp)).trans (new_heap w _))
  · refine (Below.heap_alloc _ _ _ (by simp)).trans ?_
    have := new_heap (w.alloc (.cells #[.int .u64 0] 22)) (.cells #[.int .u64 0] 22)
    rwa [World.size_alloc] at this
  · have := new_heap ((w.alloc (.cells #[.int .u64 0] 22)).alloc (.cells #[.int .u64 0] 22)) (.cells #[.int .i64 0] 31)
    rwa [World.size_alloc, World.size_alloc] at this
/-- Behind Go's own cut the fourth box is made. -/
theorem Cut.begin {w W : World} (hb : Below ((((w.alloc (.cells #[.int .u64 0] 22)).alloc (.cells #[.int .u64 0] 22)).alloc (.cells #[.int .i64 0] 31))).heap.size ((((w.alloc (.cells #[.int .u64 0] 22)).alloc (.cells #[.int .u64 0] 22)).alloc (.cells #[.int .i64 0] 31))) W) (r : Bool) : Cut w W.heap.size 0 0 0 r (W.alloc (.cells #[.bool r] 4)) := by
  obtain ⟨h0, h1, h2, h3, h4⟩ := three_boxes w
  have hs := hb.size
  rw [h4] at hs
  have hA : Below W.heap.size W (W.alloc (.cells #[.bool r] 4)) := (Below.refl _ _).alloc (Nat.le_refl _) _
  exact ⟨keep_heap (keep_heap h0 hb) hA, keep_heap (keep_heap h1 hb) hA, keep_heap (keep_heap h2 hb) hA, new_heap _ _, hs, (h3.trans (hb.mono h3.size)).trans (hA.mono (by omega))⟩
theorem cut_miss {s : List UInt8} (hl : s.length ≤ 10000) (hc : (Lib.cut s [46]).2.2 = false) (w : World) :
    Calls Tryd.prog 29 #[.string (bs s)] w fun e w' => e = .returned (cutT none) ∧ Below w.heap.size w w' := by
  have HC := Lib.hid fun w => Cut_dot s hl w
  unfold cutV at HC
  rw [hc] at HC
  clear hl hc
  go_enter_defers Tryd.func29, Tryd.ntmps29
  have hf := hmf
  have mixed : Tryd.prog.follows .mixedOrders = true := by kernel_rfl
  go_wp2_with fail
  refine (HC.out _).mono ?_
  rintro e w1 ⟨rfl, hb⟩
  have C0 := Lib.hid (Cut.begin hb false)
  have hk : w.heap.size + 3 ≤ w1.heap.size := C0.out.late
  obtain ⟨c0, d0, c1, d1, c2, d2, c3, d3, -⟩ := C0.out.all
  clear hb
  go_wp2
  obtain ⟨gV, hg⟩ : ∃ x : Int, x = 0 := ⟨_, rfl⟩
  obtain ⟨iV, hi⟩ : ∃ x : Int, x = 0 := ⟨_, rfl⟩
  obtain ⟨rV, hr⟩ : ∃ x : Bool, x = false := ⟨_, rfl⟩
  have CE := Lib.hid (show Cut w w1.heap.size gV iV 0 rV _ by rw [hg, hi, hr]; exact C0.out)
  clear c0 d0 c1 d1 c2 d2 c3 d3 hg hi
  go_region_held3 (fun W => W.cell? ⟨w.heap.size, 0, none⟩ = some (.int .u64 gV) ∧ W.frozen? ⟨w.heap.size, 0, none⟩ = false ∧ W.cell? ⟨w.heap.size + 1, 0, none⟩ = some (.int .u64 iV) ∧ W.frozen? ⟨w.heap.size + 1, 0, none⟩ = false ∧ W.cell? ⟨w.heap.size + 1 + 1, 0, none⟩ = some (.int .i64 0) ∧ W.frozen? ⟨w.heap.size + 1 + 1, 0, none⟩ = false ∧ W.cell? ⟨w1.heap.size, 0, none⟩ = some (.bool rV) ∧ W.frozen? ⟨w1.heap.size, 0, none⟩ = false ∧ Cut w w1.heap.size gV iV 0 rV W) ((first | (with_reducible exact (CE.out.drew).all) | (with_reducible exact ((CE.out.set_gen gV).drew).all) | (with_reducible exact (((CE.out.set_gen gV).set_ind iV).drew).all) | (with_reducible exact ((((CE.out.set_gen gV).set_ind iV).set_err 0).drew).all))) (fail)
  all_goals go_wp2
  rename_i hh
  have CF := hh.2.2.2.2.2.2.2.2
  rw [hr] at CF
  clear hh CE C0
  refine leaves_cons (f := 38) (args := #[.pointer (some ⟨w1.heap.size, 0, none⟩), .pointer (some ⟨w.heap.size, 0, none⟩), .pointer (some ⟨w.heap.size + 1, 0, none⟩), .pointer (some ⟨w.heap.size + 1 + 1, 0, none⟩)]) (by simp) (by simp [go_sem]) ?_
  refine (cut1_no .returning CF).mono ?_
  rintro e u' w'' ⟨rfl, rfl, hC⟩
  obtain ⟨s0, -, s1, -, s2, -, -, -, -⟩ := hC.all
  exact ⟨cutT none, by simp [results, Tryd.f29, go_sem, s0, s1, s2, cutT], rfl, hC.below⟩
theorem cut_bad1 {s : List UInt8}  (hl : s.length ≤ 10000) (hc : (Lib.cut s [46]).2.2 = true) (h1 : numP (Lib.cut s [46]).1 = none) (w : World) (hT : Tens w) (hE : Errs w) :
    Calls Tryd.prog 29 #[.string (bs s)] w fun e w' => e = .returned (cutT none) ∧ Below w.heap.size w w' := by
  have HC := Lib.hid fun w => Cut_dot s hl w
  unfold cutV at HC
  rw [hc] at HC
  have HT := Lib.hid hT
  have HE := Lib.hid hE
  have H1 := Lib.hid (show (numP (Lib.cut s [46]).1).isSome = false by rw [h1]; rfl)
  clear h1
  generalize (Lib.cut s [46]).1 = a at *
  generalize (Lib.cut s [46]).2.1 = b at *
  clear hl hc hT hE
  go_enter_defers Tryd.func29, Tryd.ntmps29
  have hf := hmf
  have mixed : Tryd.prog.follows .mixedOrders = true := by kernel_rfl
  go_wp2_with fail
  refine (HC.out _).mono ?_
  rintro e w1 ⟨rfl, hb⟩
  have C0 := Lib.hid (Cut.begin hb true)
  have hk : w.heap.size + 3 ≤ w1.heap.size := C0.out.late
  have HB0 := Lib.hid C0.out.below
  obtain ⟨c0, d0, c1, d1, c2, d2, c3, d3, -⟩ := C0.out.all
  clear hb
  go_wp2_with fail
  refine (number_any _ _ (tens_later HT.out HB0.out) (HE.out.later HB0.out)).mono ?_
  rintro e w2 ⟨v1, rfl, hv1, hb⟩
  have C1 := Lib.hid (C0.out.later hb)
  clear c0 d0 c1 d1 c2 d2 c3 d3 hb C0
  obtain ⟨c0, d0, c1, d1, c2, d2, c3, d3, -⟩ := C1.out.all
  rw [H1.out]
  have C2 := Lib.hid ((C1.out.set_gen v1).set_right false)
  go_wp2
  obtain ⟨gV, hg⟩ : ∃ x : Int, x = v1 := ⟨_, rfl⟩
  obtain ⟨iV, hi⟩ : ∃ x : Int, x = 0 := ⟨_, rfl⟩
  obtain ⟨rV, hr⟩ : ∃ x : Bool, x = false := ⟨_, rfl⟩
  have CE := Lib.hid (show Cut w w1.heap.size gV iV 0 rV _ by rw [hg, hi, hr]; exact C2.out)
  clear c0 d0 c1 d1 c2 d2 c3 d3 hg hi C1 C2
  go_region_held3 (fun W => W.cell? ⟨w.heap.size, 0, none⟩ = some (.int .u64 gV) ∧ W.frozen? ⟨w.heap.size, 0, none⟩ = false ∧ W.cell? ⟨w.heap.size + 1, 0, none⟩ = some (.int .u64 iV) ∧ W.frozen? ⟨w.heap.size + 1, 0, none⟩ = false ∧ W.cell? ⟨w.heap.size + 1 + 1, 0, none⟩ = some (.int .i64 0) ∧ W.frozen? ⟨w.heap.size + 1 + 1, 0, none⟩ = false ∧ W.cell? ⟨w1.heap.size, 0, none⟩ = some (.bool rV) ∧ W.frozen? ⟨w1.heap.size, 0, none⟩ = false ∧ Cut w w1.heap.size gV iV 0 rV W) ((first | (with_reducible exact (CE.out.drew).all) | (with_reducible exact ((CE.out.set_gen gV).drew).all) | (with_reducible exact (((CE.out.set_gen gV).set_ind iV).drew).all) | (with_reducible exact ((((CE.out.set_gen gV).set_ind iV).set_err 0).drew).all))) (fail)
  all_goals go_wp2
  rename_i hh
  have CF := hh.2.2.2.2.2.2.2.2
  rw [hr] at CF
  clear hh CE
  refine leaves_cons (f := 38) (args := #[.pointer (some ⟨w1.heap.size, 0, none⟩), .pointer (some ⟨w.heap.size, 0, none⟩), .pointer (some ⟨w.heap.size + 1, 0, none⟩), .pointer (some ⟨w.heap.size + 1 + 1, 0, none⟩)]) (by simp) (by simp [go_sem]) ?_
  refine (cut1_no .returning CF).mono ?_
  rintro e u' w'' ⟨rfl, rfl, hC⟩
  obtain ⟨s0, -, s1, -, s2, -, -, -, -⟩ := hC.all
  exact ⟨cutT none, by simp [results, Tryd.f29, go_sem, s0, s1, s2, cutT], rfl, hC.below⟩
set_option maxHeartbeats 1000000 in
theorem cut_bad2 {s : List UInt8} {g : Nat} (hl : s.length ≤ 10000) (hc : (Lib.cut s [46]).2.2 = true) (h1 : numP (Lib.cut s [46]).1 = some g) (h2 : numP (Lib.cut s [46]).2.1 = none) (w : World) (hT : Tens w) (hE : Errs w) :
    Calls Tryd.prog 29 #[.string (bs s)] w fun e w' => e = .returned (cutT none) ∧ Below w.heap.size w w' := by
  have HC := Lib.hid fun w => Cut_dot s hl w
  unfold cutV at HC
  rw [hc] at HC
  have HT := Lib.hid hT
  have HE := Lib.hid hE
  have H1 := Lib.hid h1
  have H2 := Lib.hid h2
  clear h1 h2
  generalize (Lib.cut s [46]).1 = a at *
  generalize (Lib.cut s [46]).2.1 = b at *
  clear hl hc hT hE
  go_enter_defers Tryd.func29, Tryd.ntmps29
  have hf := hmf
  have mixed : Tryd.prog.follows .mixedOrders = true := by kernel_rfl
  go_wp2_with fail
  refine (HC.out _).mono ?_
  rintro e w1 ⟨rfl, hb⟩
  have C0 := Lib.hid (Cut.begin hb true)
  have hk : w.heap.size + 3 ≤ w1.heap.size := C0.out.late
  have HB0 := Lib.hid C0.out.below
  obtain ⟨c0, d0, c1, d1, c2, d2, c3, d3, -⟩ := C0.out.all
  clear hb
  go_wp2_with fail
  refine (number_any _ _ (tens_later HT.out HB0.out) (HE.out.later HB0.out)).mono ?_
  rintro e w2 ⟨v1, rfl, hv1, hb⟩
  have C1 := Lib.hid (C0.out.later hb)
  clear c0 d0 c1 d1 c2 d2 c3 d3 hb C0
  obtain ⟨c0, d0, c1, d1, c2, d2, c3, d3, -⟩ := C1.out.all
  rw [show (numP a).isSome = true by rw [H1.out]; rfl]
  obtain rfl := hv1 g H1.out
  have C2 := Lib.hid ((C1.out.set_gen (g : Int)).set_right true)
  have HB2 := Lib.hid C2.out.below
  go_wp2_with fail
  refine (number_any _ _ (tens_later HT.out HB2.out) (HE.out.later HB2.out)).mono ?_
  rintro e w3 ⟨v2, rfl, hv2, hb⟩
  have C3 := Lib.hid (C2.out.later hb)
  clear c0 d0 c1 d1 c2 d2 c3 d3 hb C1 C2
  obtain ⟨c0, d0, c1, d1, c2, d2, c3, d3, -⟩ := C3.out.all
  rw [show (numP b).isSome = false by rw [H2.out]; rfl]
  have C4 := Lib.hid ((C3.out.set_ind v2).set_right false)
  go_wp2
  obtain ⟨gV, hg⟩ : ∃ x : Int, x = (g : Int) := ⟨_, rfl⟩
  obtain ⟨iV, hi⟩ : ∃ x : Int, x = v2 := ⟨_, rfl⟩
  obtain ⟨rV, hr⟩ : ∃ x : Bool, x = false := ⟨_, rfl⟩
  have CE := Lib.hid (show Cut w w1.heap.size gV iV 0 rV _ by rw [hg, hi, hr]; exact C4.out)
  clear c0 d0 c1 d1 c2 d2 c3 d3 hg hi C3 C4
  go_region_held3 (fun W => W.cell? ⟨w.heap.size, 0, none⟩ = some (.int .u64 gV) ∧ W.frozen? ⟨w.heap.size, 0, none⟩ = false ∧ W.cell? ⟨w.heap.size + 1, 0, none⟩ = some (.int .u64 iV) ∧ W.frozen? ⟨w.heap.size + 1, 0, none⟩ = false ∧ W.cell? ⟨w.heap.size + 1 + 1, 0, none⟩ = some (.int .i64 0) ∧ W.frozen? ⟨w.heap.size + 1 + 1, 0, none⟩ = false ∧ W.cell? ⟨w1.heap.size, 0, none⟩ = some (.bool rV) ∧ W.frozen? ⟨w1.heap.size, 0, none⟩ = false ∧ Cut w w1.heap.size gV iV 0 rV W) ((first | (with_reducible exact (CE.out.drew).all) | (with_reducible exact ((CE.out.set_gen gV).drew).all) | (with_reducible exact (((CE.out.set_gen gV).set_ind iV).drew).all) | (with_reducible exact ((((CE.out.set_gen gV).set_ind iV).set_err 0).drew).all))) (fail)
  all_goals go_wp2
  rename_i hh
  have CF := hh.2.2.2.2.2.2.2.2
  rw [hr] at CF
  clear hh CE
  refine leaves_cons (f := 38) (args := #[.pointer (some ⟨w1.heap.size, 0, none⟩), .pointer (some ⟨w.heap.size, 0, none⟩), .pointer (some ⟨w.heap.size + 1, 0, none⟩), .pointer (some ⟨w.heap.size + 1 + 1, 0, none⟩)]) (by simp) (by simp [go_sem]) ?_
  refine (cut1_no .returning CF).mono ?_
  rintro e u' w'' ⟨rfl, rfl, hC⟩
  obtain ⟨s0, -, s1, -, s2, -, -, -, -⟩ := hC.all
  exact ⟨cutT none, by simp [results, Tryd.f29, go_sem, s0, s1, s2, cutT], rfl, hC.below⟩
set_option maxHeartbeats 1000000 in
theorem cut_good {s : List UInt8} {g n : Nat} (hl : s.length ≤ 10000) (hc : (Lib.cut s [46]).2.2 = true) (h1 : numP (Lib.cut s [46]).1 = some g) (h2 : numP (Lib.cut s [46]).2.1 = some n) (w : World) (hT : Tens w) (hE : Errs w) :
    Calls Tryd.prog 29 #[.string (bs s)] w fun e w' => e = .returned (cutT (some (g, n))) ∧ Below w.heap.size w w' := by
  have HC := Lib.hid fun w => Cut_dot s hl w
  unfold cutV at HC
  rw [hc] at HC
  have HT := Lib.hid hT
  have HE := Lib.hid hE
  have H1 := Lib.hid h1
  have H2 := Lib.hid h2
  clear h1 h2
  generalize (Lib.cut s [46]).1 = a at *
  generalize (Lib.cut s [46]).2.1 = b at *
  clear hl hc hT hE
  go_enter_defers Tryd.func29, Tryd.ntmps29
  have hf := hmf
  have mixed : Tryd.prog.follows .mixedOrders = true := by kernel_rfl
  go_wp2_with fail
  refine (HC.out _).mono ?_
  rintro e w1 ⟨rfl, hb⟩
  have C0 := Lib.hid (Cut.begin hb true)
  have hk : w.heap.size + 3 ≤ w1.heap.size := C0.out.late
  have HB0 := Lib.hid C0.out.below
  obtain ⟨c0, d0, c1, d1, c2, d2, c3, d3, -⟩ := C0.out.all
  clear hb
  go_wp2_with fail
  refine (number_any _ _ (tens_later HT.out HB0.out) (HE.out.later HB0.out)).mono ?_
  rintro e w2 ⟨v1, rfl, hv1, hb⟩
  have C1 := Lib.hid (C0.out.later hb)
  clear c0 d0 c1 d1 c2 d2 c3 d3 hb C0
  obtain ⟨c0, d0, c1, d1, c2, d2, c3, d3, -⟩ := C1.out.all
  rw [show (numP a).isSome = true by rw [H1.out]; rfl]
  obtain rfl := hv1 g H1.out
  have C2 := Lib.hid ((C1.out.set_gen (g : Int)).set_right true)
  have HB2 := Lib.hid C2.out.below
  go_wp2_with fail
  refine (number_any _ _ (tens_later HT.out HB2.out) (HE.out.later HB2.out)).mono ?_
  rintro e w3 ⟨v2, rfl, hv2, hb⟩
  have C3 := Lib.hid (C2.out.later hb)
  clear c0 d0 c1 d1 c2 d2 c3 d3 hb C1 C2
  obtain ⟨c0, d0, c1, d1, c2, d2, c3, d3, -⟩ := C3.out.all
  rw [show (numP b).isSome = true by rw [H2.out]; rfl]
  obtain rfl := hv2 n H2.out
  have C4 := Lib.hid ((C3.out.set_ind (n : Int)).set_right true)
  go_wp2
  obtain ⟨gV, hg⟩ : ∃ x : Int, x = (g : Int) := ⟨_, rfl⟩
  obtain ⟨iV, hi⟩ : ∃ x : Int, x = (n : Int) := ⟨_, rfl⟩
  obtain ⟨rV, hr⟩ : ∃ x : Bool, x = true := ⟨_, rfl⟩
  have CE := Lib.hid (show Cut w w1.heap.size gV iV 0 rV _ by rw [hg, hi, hr]; exact C4.out)
  have HG := Lib.hid hg
  have HI := Lib.hid hi
  have HR := Lib.hid hr
  clear c0 d0 c1 d1 c2 d2 c3 d3 C3 C4 hg hi hr
  go_region_held3 (fun W => W.cell? ⟨w.heap.size, 0, none⟩ = some (.int .u64 gV) ∧ W.frozen? ⟨w.heap.size, 0, none⟩ = false ∧ W.cell? ⟨w.heap.size + 1, 0, none⟩ = some (.int .u64 iV) ∧ W.frozen? ⟨w.heap.size + 1, 0, none⟩ = false ∧ W.cell? ⟨w.heap.size + 1 + 1, 0, none⟩ = some (.int .i64 0) ∧ W.frozen? ⟨w.heap.size + 1 + 1, 0, none⟩ = false ∧ W.cell? ⟨w1.heap.size, 0, none⟩ = some (.bool rV) ∧ W.frozen? ⟨w1.heap.size, 0, none⟩ = false ∧ Cut w w1.heap.size gV iV 0 rV W) ((first | (with_reducible exact (CE.out.drew).all) | (with_reducible exact ((CE.out.set_gen gV).drew).all) | (with_reducible exact (((CE.out.set_gen gV).set_ind iV).drew).all) | (with_reducible exact ((((CE.out.set_gen gV).set_ind iV).set_err 0).drew).all))) (fail)
  all_goals go_wp2
  rename_i hh
  have CF := hh.2.2.2.2.2.2.2.2
  rw [HR.out] at CF
  clear hh CE
  refine leaves_cons (f := 38) (args := #[.pointer (some ⟨w1.heap.size, 0, none⟩), .pointer (some ⟨w.heap.size, 0, none⟩), .pointer (some ⟨w.heap.size + 1, 0, none⟩), .pointer (some ⟨w.heap.size + 1 + 1, 0, none⟩)]) (by simp) (by simp [go_sem]) ?_
  refine (cut1_yes .returning CF).mono ?_
  rintro e u' w'' ⟨rfl, rfl, rfl⟩
  obtain ⟨s0, -, s1, -, s2, -, -, -, -⟩ := CF.all
  exact ⟨.tuple #[.int .u64 gV, .int .u64 iV, .int .i64 0], by simp [results, Tryd.f29, go_sem, s0, s1, s2], by rw [HG.out, HI.out]; rfl, CF.below⟩
theorem cut_any {s : List UInt8} (hl : s.length ≤ 10000) (w : World) (hT : Tens w) (hE : Errs w) :
    Calls Tryd.prog 29 #[.string (bs s)] w fun e w' => e = .returned (cutT (parts s)) ∧ Below w.heap.size w w' := by
  rw [← cutP_parts]
  unfold cutP
  split
  · rename_i hc
    cases h1 : numP (Lib.cut s [46]).1 with
    | none => exact cut_bad1 hl hc h1 w hT hE
    | some g =>
      cases h2 : numP (Lib.cut s [46]).2.1 with
      | none => exact cut_bad2 hl hc h1 h2 w hT hE
      | some n => exact cut_good hl hc h1 h2 w hT hE
  · rename_i hc
    exact cut_miss hl (Bool.eq_false_iff.2 hc) w
/-- What Parse tells. -/
def parseT : Option (Nat × Nat) → Value
  | none => .tuple #[.int .u64 0, .int .i64 8]
  | some (g, n) => .tuple #[.int .u64 ((g : Int) * 4294967296 + (n : Int)), .int .i64 0]
theorem Parse_is {s : List UInt8} (hl : s.length ≤ 10000) (w : World) (hT : Tens w) (hE : Errs w) :
    Calls Tryd.prog 13 #[.string (bs s)] w fun e w' => e = .returned (parseT (parts s)) ∧ Below w.heap.size w w' := by
  have HC := Lib.hid fun w hT hE => cut_any hl w hT hE
  have HT := Lib.hid hT
  have HE := Lib.hid hE
  cases hp : parts s with
  | none =>
    rw [hp] at HC
    unfold cutT at HC
    clear hT hE hp
    have HP := Lib.hid fun w => Field.Pair_any 0 0 (by decide) (by decide) (by decide) w
    go_enter Tryd.func13, Tryd.ntmps13
    go_wp2_with fail
    refine (HC.out _ HT.out HE.out).mono ?_
    rintro e w' ⟨rfl, hb⟩
    go_wp2_with fail
    refine (HP.out _).mono ?_
    rintro e w' ⟨rfl, rfl⟩
    go_wp2
    go_ret2
    exact ⟨rfl, hb⟩
  | some x =>
    obtain ⟨g, n⟩ := x
    obtain ⟨hg, hn, -⟩ := parts_is hp
    rw [hp] at HC
    have HQ := Lib.hid (show (g : Int) % 4294967296 * 4294967296 + (n : Int) % 4294967296 = (g : Int) * 4294967296 + (n : Int) by omega)
    have HP := Lib.hid fun w => Field.Pair_any (g : Int) (n : Int) (by omega) (by omega) (by omega) w
    rw [HQ.out] at HP
    unfold cutT at HC
    clear hT hE hp hg hn hl
    go_enter Tryd.func13, Tryd.ntmps13
    go_wp2_with fail
    refine (HC.out _ HT.out HE.out).mono ?_
    rintro e w' ⟨rfl, hb⟩
    go_wp2_with fail
    refine (HP.out _).mono ?_
    rintro e w' ⟨rfl, rfl⟩
    go_wp2
    go_ret2
    exact ⟨rfl, hb⟩
end Go.Proofs.YtjbfhnkjcfpfpaaDoor.Handle
