/- Package claim (layer 24), held to plain arithmetic: what a claimer asks for, what it becomes, whether it has won; all else in memory stays as it was. -/
import Derived.Test.YtoeiiodnpoldbaaDoorClaimMath
import Derived.Test.YtoeiiodnpoldbaaDoorPlanWalks
import Derived.Test.YtoeiiodnpoldbaaDoorReferWalks
import Derived.Test.YtoeiiodnpoldbaaDoorStateWalks
import Derived.Test.YtoeiiodnpoldbaaDoorDeeds
import Derived.Deep.DeepCutAuto
import Derived.Deep.RegionHeld3
namespace Go.Proofs.YtoeiiodnpoldbaaDoor.Clm
set_option maxRecDepth 20000
open Go.ChangeShapes Go.WideShapes Go.RowKit CM DM PM KM ClM Lay Plan Go.Proofs.YtoeiiodnpoldbaaDoor.Task
set_option linter.unusedVariables false
set_option linter.unusedSimpArgs false

/-- What a task is asked for. -/
def ToldD (w : World) (d : D) (more : Bool) (e : Ending) (w' : World) : Prop :=
  e = .returned (.tuple #[.agg #[.int .i64 d.1, .int .i64 d.2.1, .int .u64 d.2.2.1, .int .u64 d.2.2.2.1, .int .u64 d.2.2.2.2], .bool more]) ∧ Below w.heap.size w w'
def Told (w : World) (x : Option D) : Ending → World → Prop := ToldD w (x.getD (0, 0, 0, 0, 0)) x.isSome

/-- A claimer in block p, word by word. -/
def Raw (w : World) (p : Nat) (T N L G r : Int) (dn wn : Bool) : Prop := w.heap[p]? = some (.cells #[.int .i64 T, .int .i64 N, .int .i64 L, .int .u64 G, .int .u64 r, .bool true, .bool dn, .bool wn] 56 (0, 0))
/-- A claimer in block p. -/
def Claims (w : World) (p : Nat) (T N L G r : Int) (s : ClM.St) : Prop := Raw w p T N L G r s.dn s.wn ∧ ClM.Ok s ∧ 0 ≤ r ∧ r < 18446744073709551616
section
variable {w w' : World} {p : Nat} {T N L G r : Int} {dn wn : Bool}
theorem Raw.lt (h : Raw w p T N L G r dn wn) : p < w.heap.size := (Array.getElem?_eq_some_iff.1 h).1
theorem Raw.only {R : Nat → Prop} (h : Raw w p T N L G r dn wn) (ho : Only R w w') (hp : ¬ R p) : Raw w' p T N L G r dn wn := ho.heap h hp
theorem Raw.cells (h : Raw w p T N L G r dn wn) : w.cell? ⟨p, 0, none⟩ = some (.int .i64 T) ∧ w.cell? ⟨p, 1, none⟩ = some (.int .i64 N) ∧ w.cell? ⟨p, 2, none⟩ = some (.int .i64 L) ∧ w.cell? ⟨p, 3, none⟩ = some (.int .u64 G) ∧
    w.cell? ⟨p, 4, none⟩ = some (.int .u64 r) ∧ w.cell? ⟨p, 5, none⟩ = some (.bool true) ∧ w.cell? ⟨p, 6, none⟩ = some (.bool dn) ∧ w.cell? ⟨p, 7, none⟩ = some (.bool wn) := by
  have hc := fun j => (cell_heap h j).1
  exact ⟨hc 0, hc 1, hc 2, hc 3, hc 4, hc 5, hc 6, hc 7⟩
theorem Raw.thawed (h : Raw w p T N L G r dn wn) (j : Nat) : w.frozen? ⟨p, j, none⟩ = false := (cell_heap h j).2
theorem Raw.set_dn (h : Raw w p T N L G r dn wn) (v : Bool) : Raw (w.setCell ⟨p, 6, none⟩ (.bool v)) p T N L G r v wn := set_heap (j := 6) h (.bool v)
theorem Raw.set_wn (h : Raw w p T N L G r dn wn) (v : Bool) : Raw (w.setCell ⟨p, 7, none⟩ (.bool v)) p T N L G r dn v := set_heap (j := 7) h (.bool v)
theorem Raw.drew (h : Raw w p T N L G r dn wn) : Raw w.drew p T N L G r dn wn := h
theorem Claims.only {s : ClM.St} {R : Nat → Prop} (h : Claims w p T N L G r s) (ho : Only R w w') (hp : ¬ R p) : Claims w' p T N L G r s := ⟨h.1.only ho hp, h.2⟩
theorem Claims.later {s : ClM.St} (h : Claims w p T N L G r s) (hb : Below w.heap.size w w') : Claims w' p T N L G r s := h.only (only_below (fun _ => False) hb) id
theorem Claims.lt {s : ClM.St} (h : Claims w p T N L G r s) : p < w.heap.size := h.1.lt
theorem only_set (w : World) (p j : Nat) (v : Value) : Only (fun k => k = p) w (w.setCell ⟨p, j, none⟩ v) := only_setCell (R := fun k => k = p) w (p := ⟨p, j, none⟩) rfl v
end

/-- Two claimers of one timer, one of which has not begun, as the language compares structs. -/
theorem eqlC (T N L G r : Int) (dn wn : Bool) (w : World) : (binOp .eql 56 (.agg #[.int .i64 T, .int .i64 N, .int .i64 L, .int .u64 G, .int .u64 r, .bool true, .bool dn, .bool wn]) (.agg #[.int .i64 T, .int .i64 N, .int .i64 L, .int .u64 G, .int .u64 r, .bool true, .bool false, .bool false])).run Tryd.prog w = .ok (.bool (!dn && !wn)) w := by
  have u3 := Tryd.underlying3
  have a3 := Tryd.isAgg3
  have z3 := Tryd.sizeOf3
  have u4 := Tryd.underlying22
  have a4 := Tryd.isAgg22
  have z4 := Tryd.sizeOf22
  have u5 := Tryd.underlying4
  have a5 := Tryd.isAgg4
  have z5 := Tryd.sizeOf4
  have u6 := Tryd.underlying24
  have a6 := Tryd.isAgg24
  have z6 := Tryd.sizeOf24
  have hS : Tryd.prog.underlying 56 = some (.struct (Tryd.prog.fieldsOf 56)) := by kernel_rfl
  have hp : Tryd.prog.stoodInHeld 56 = false := by kernel_rfl
  have hS2 : Tryd.prog.underlying 24 = some (.struct (Tryd.prog.fieldsOf 24)) := by kernel_rfl
  have hp2 : Tryd.prog.stoodInHeld 24 = false := by kernel_rfl
  have hE : ∀ d : Nat, (Op.equalIn (d + 2) 24 (.agg #[.int .i64 T, .int .i64 N, .int .i64 L, .int .u64 G]) (.agg #[.int .i64 T, .int .i64 N, .int .i64 L, .int .u64 G])).run Tryd.prog w = .ok true w := fun d => by
    rw [run_equalIn_agg w (d + 1) 24 _ _ hS2 hp2]
    simp only [Program.fieldsOf, Tryd.underlying24]
    go_simp
  rw [run_eql_struct, show (10000 : Nat) = 9999 + 1 from rfl, run_equalIn_agg w 9999 56 _ _ hS hp]
  simp only [Program.fieldsOf, Tryd.underlying56]
  go_simp
  cases dn <;> cases wn <;> simp
theorem fresh_any (T N L G r : Int) (w : World) : Calls Tryd.prog 27 #[.agg #[.int .i64 T, .int .i64 N, .int .i64 L, .int .u64 G], .int .u64 r] w fun e w' => e = .returned (.agg #[.int .i64 T, .int .i64 N, .int .i64 L, .int .u64 G, .int .u64 r, .bool true, .bool false, .bool false]) ∧ Below w.heap.size w w' := by
  obtain ⟨c_0, c_1, c_2, c_3⟩ := box4 w (.int .i64 T) (.int .i64 N) (.int .i64 L) (.int .u64 G) 24
  have HB := Lib.hid (box_below w (.cells #[.int .i64 T, .int .i64 N, .int .i64 L, .int .u64 G] 24))
  go_enter Tryd.func27, Tryd.ntmps27
  go_wp2
  exact bodyPost_ret (v := .agg #[.int .i64 T, .int .i64 N, .int .i64 L, .int .u64 G, .int .u64 r, .bool true, .bool false, .bool false]) (by simp [results, Tryd.results27, go_sem]) rfl ⟨rfl, HB.out.trans ((box_below _ _).mono HB.out.size)⟩
theorem guardC : Tryd.prog.eqGuardType Tryd.prog.depth 56 = false := by kernel_rfl
theorem isFresh_any {w : World} {p : Nat} {T N L G r : Int} {dn wn : Bool} (h : Raw w p T N L G r dn wn) : Calls Tryd.prog 28 #[.pointer (some ⟨p, 0, none⟩)] w fun e w' => e = .returned (.bool (!dn && !wn)) ∧ Below w.heap.size w w' := by
  have HS0 := Lib.hid (show (fun W : World => W.cell? ⟨p, 0, none⟩ = some (.int .i64 T) ∧ W.cell? ⟨p, 1, none⟩ = some (.int .i64 N) ∧ W.cell? ⟨p, 2, none⟩ = some (.int .i64 L) ∧ W.cell? ⟨p, 3, none⟩ = some (.int .u64 G) ∧ W.cell? ⟨p, 4, none⟩ = some (.int .u64 r) ∧ W.cell? ⟨p, 5, none⟩ = some (.bool true) ∧ W.cell? ⟨p, 6, none⟩ = some (.bool dn) ∧ W.cell? ⟨p, 7, none⟩ = some (.bool wn)) w.drew from h.cells)
  have HK := Lib.hid (show ∀ W, Below w.heap.size w W → (fun W : World => W.cell? ⟨p, 0, none⟩ = some (.int .i64 T) ∧ W.cell? ⟨p, 1, none⟩ = some (.int .i64 N) ∧ W.cell? ⟨p, 2, none⟩ = some (.int .i64 L) ∧ W.cell? ⟨p, 3, none⟩ = some (.int .u64 G) ∧ W.cell? ⟨p, 4, none⟩ = some (.int .u64 r) ∧ W.cell? ⟨p, 5, none⟩ = some (.bool true) ∧ W.cell? ⟨p, 6, none⟩ = some (.bool dn) ∧ W.cell? ⟨p, 7, none⟩ = some (.bool wn)) W from fun W hb => (h.only (only_below (fun _ => False) hb) id).cells)
  have HF := Lib.hid fun W => fresh_any T N L G r W
  have HQ := eqlC T N L G r dn wn
  have hg := guardC
  generalize (!dn && !wn) = b at HQ ⊢
  clear h
  go_enter Tryd.func28, Tryd.ntmps28
  go_wp2_with fail
  go_region_held3 (fun W => W.cell? ⟨p, 0, none⟩ = some (.int .i64 T) ∧ W.cell? ⟨p, 1, none⟩ = some (.int .i64 N) ∧ W.cell? ⟨p, 2, none⟩ = some (.int .i64 L) ∧ W.cell? ⟨p, 3, none⟩ = some (.int .u64 G) ∧ W.cell? ⟨p, 4, none⟩ = some (.int .u64 r) ∧ W.cell? ⟨p, 5, none⟩ = some (.bool true) ∧ W.cell? ⟨p, 6, none⟩ = some (.bool dn) ∧ W.cell? ⟨p, 7, none⟩ = some (.bool wn))
    ((first | (with_reducible exact HS0.out) | (with_reducible assumption) | (with_reducible exact HS2.out)))
    ((go_at_call 27; refine (HF.out _).mono ?_; rintro e w2 ⟨rfl, hb⟩; have HB2 := Lib.hid ((Below.refl w.heap.size w).drew.trans hb); have HS2 := Lib.hid (HK.out _ HB2.out); clear hb))
  go_wp2
  go_ret
  exact ⟨rfl, HB2.out⟩
theorem Claim_any (T N L G r : Int) (hr : 0 ≤ r ∧ r < 18446744073709551616) (w : World) : Calls Tryd.prog 9 #[.agg #[.int .i64 T, .int .i64 N, .int .i64 L, .int .u64 G], .int .u64 r] w fun e w' => ∃ p, e = .returned (.pointer (some ⟨p, 0, none⟩)) ∧ Claims w' p T N L G r ⟨false, false⟩ ∧ w.heap.size ≤ p ∧ Below w.heap.size w w' := by
  obtain ⟨c_0, c_1, c_2, c_3⟩ := box4 w (.int .i64 T) (.int .i64 N) (.int .i64 L) (.int .u64 G) 24
  have HB := Lib.hid (box_below w (.cells #[.int .i64 T, .int .i64 N, .int .i64 L, .int .u64 G] 24))
  have HR := Lib.hid hr
  have HF := Lib.hid fun W => fresh_any T N L G r W
  clear hr
  go_enter Tryd.func9, Tryd.ntmps9
  go_wp2_with fail
  refine (HF.out _).mono ?_
  rintro e w1 ⟨rfl, b1⟩
  have HB1 := Lib.hid (HB.out.trans (b1.mono HB.out.size))
  have HE := Lib.hid (show Raw (w1.alloc (.cells #[.int .i64 T, .int .i64 N, .int .i64 L, .int .u64 G, .int .u64 r, .bool true, .bool false, .bool false] 56)) w1.heap.size T N L G r false false from new_heap w1 _)
  clear b1 c_0 c_1 c_2 c_3
  go_wp2
  go_ret
  exact ⟨_, rfl, ⟨HE.out, new_ok, HR.out⟩, HB1.out.size, HB1.out.trans ((box_below _ _).mono HB1.out.size)⟩
theorem raw_past {w W : World} {p : Nat} {T N L G r : Int} {dn wn : Bool} (h : Raw w p T N L G r dn wn) (hb : Below (w.alloc (.cells #[.int .i64 0, .int .i64 0, .int .u64 0, .int .u64 0, .int .u64 0] 39)).heap.size (w.alloc (.cells #[.int .i64 0, .int .i64 0, .int .u64 0, .int .u64 0, .int .u64 0] 39)) W) : Raw W p T N L G r dn wn := h.only (only_below (fun _ => False) ((box_below w (.cells #[.int .i64 0, .int .i64 0, .int .u64 0, .int .u64 0, .int .u64 0] 39)).trans (hb.mono (by simp)))) id
theorem stay_past {w W : World} {p : Nat} {T N L G r : Int} {dn wn : Bool} (h : Raw w p T N L G r dn wn) (hb : Below (w.alloc (.cells #[.int .i64 0, .int .i64 0, .int .u64 0, .int .u64 0, .int .u64 0] 39)).heap.size (w.alloc (.cells #[.int .i64 0, .int .i64 0, .int .u64 0, .int .u64 0, .int .u64 0] 39)) W) : (fun W : World => W.cell? ⟨p, 0, none⟩ = some (.int .i64 T) ∧ W.cell? ⟨p, 1, none⟩ = some (.int .i64 N) ∧ W.cell? ⟨p, 2, none⟩ = some (.int .i64 L) ∧ W.cell? ⟨p, 3, none⟩ = some (.int .u64 G) ∧ W.cell? ⟨p, 4, none⟩ = some (.int .u64 r)) W := by
  obtain ⟨e0, e1, e2, e3, e4, -⟩ := (raw_past h hb).cells
  exact ⟨e0, e1, e2, e3, e4⟩
theorem stay_drew {w W : World} {p : Nat} {T N L G r : Int} {dn wn : Bool} (h : Raw w p T N L G r dn wn) (hb : Below (w.alloc (.cells #[.int .i64 0, .int .i64 0, .int .u64 0, .int .u64 0, .int .u64 0] 39)).heap.size (w.alloc (.cells #[.int .i64 0, .int .i64 0, .int .u64 0, .int .u64 0, .int .u64 0] 39)) W) : (fun W : World => W.cell? ⟨p, 0, none⟩ = some (.int .i64 T) ∧ W.cell? ⟨p, 1, none⟩ = some (.int .i64 N) ∧ W.cell? ⟨p, 2, none⟩ = some (.int .i64 L) ∧ W.cell? ⟨p, 3, none⟩ = some (.int .u64 G) ∧ W.cell? ⟨p, 4, none⟩ = some (.int .u64 r)) W.drew := stay_past h hb.drew
theorem stay_set {w W : World} {p : Nat} {T N L G r : Int} {dn wn : Bool} (h : Raw w p T N L G r dn wn) (hb : Below (w.alloc (.cells #[.int .i64 0, .int .i64 0, .int .u64 0, .int .u64 0, .int .u64 0] 39)).heap.size (w.alloc (.cells #[.int .i64 0, .int .i64 0, .int .u64 0, .int .u64 0, .int .u64 0] 39)) W) (u0 u1 u2 u3 u4 : Value) : (fun W : World => W.cell? ⟨p, 0, none⟩ = some (.int .i64 T) ∧ W.cell? ⟨p, 1, none⟩ = some (.int .i64 N) ∧ W.cell? ⟨p, 2, none⟩ = some (.int .i64 L) ∧ W.cell? ⟨p, 3, none⟩ = some (.int .u64 G) ∧ W.cell? ⟨p, 4, none⟩ = some (.int .u64 r)) ((((((W.setCell ⟨w.heap.size, 0, none⟩ u0).setCell ⟨w.heap.size, 1, none⟩ u1).setCell ⟨w.heap.size, 2, none⟩ u2).setCell ⟨w.heap.size, 3, none⟩ u3).setCell ⟨w.heap.size, 4, none⟩ u4)) := by
  have hp := h.lt
  have ho : ∀ (W : World) (j : Nat) (v : Value), Only (fun k => k = w.heap.size) W (W.setCell ⟨w.heap.size, j, none⟩ v) := fun W j v => only_set W w.heap.size j v
  have h2 := (raw_past h hb).only ((((((ho W 0 u0).trans (ho _ 1 u1)).trans (ho _ 2 u2)).trans (ho _ 3 u3)).trans (ho _ 4 u4))) (show ¬ p = w.heap.size by omega)
  obtain ⟨e0, e1, e2, e3, e4, -⟩ := h2.cells
  exact ⟨e0, e1, e2, e3, e4⟩
theorem next_done {w : World} {p : Nat} {T N L G r : Int} {wn : Bool} (h : Raw w p T N L G r true wn) : Calls Tryd.prog 10 #[.pointer (some ⟨p, 0, none⟩)] w (Told w none) := by
  have HD := Lib.hid fun o => isFresh_any (h.only (only_below (fun _ => False) (box_below w o)) id)
  clear h
  go_enter Tryd.func10, Tryd.ntmps10
  go_wp2_with fail
  refine (HD.out _).mono ?_
  rintro e w1 ⟨rfl, b1⟩
  simp only [Bool.not_true, Bool.false_and]
  obtain ⟨⟨r0, r1, r2, r3, r4⟩, g0, g1, g2, g3, g4⟩ := res5 b1
  obtain ⟨⟨s0, s1, s2, s3, s4⟩, hB⟩ := set5 b1 (.int .i64 0) (.int .i64 0) (.int .u64 0) (.int .u64 0) (.int .u64 0)
  have HB := Lib.hid hB
  clear hB b1
  go_wp2
  exact bodyPost_ret (v := .tuple #[.agg #[.int .i64 0, .int .i64 0, .int .u64 0, .int .u64 0, .int .u64 0], .bool false]) (by simp [results, Tryd.results10, go_sem, s0, s1, s2, s3, s4]) rfl ⟨rfl, HB.out⟩
set_option maxHeartbeats 1000000 in
theorem next_new {w : World} {p : Nat} {T N L G r : Int} (h : Raw w p T N L G r false false) (hr : 0 ≤ r ∧ r < 18446744073709551616) : Calls Tryd.prog 10 #[.pointer (some ⟨p, 0, none⟩)] w (Told w (some (3, atI T L (idx r) 0, SM.stI (genI r) 2, SM.stI (genI r) 3, 0))) := by
  have HD := Lib.hid (show ∀ o, Calls Tryd.prog 28 #[.pointer (some ⟨p, 0, none⟩)] (w.alloc o) fun e w' => e = .returned (.bool true) ∧ Below (w.alloc o).heap.size (w.alloc o) w' from fun o => isFresh_any (h.only (only_below (fun _ => False) (box_below w o)) id))
  have HX := Lib.hid h
  have HGN := Lib.hid fun W => Refer.Gen_any r hr.1 hr.2 W
  have HIX := Lib.hid fun W => Refer.Index_any r hr.1 hr.2 W
  have hg := gen_ok hr
  have HO2 := Lib.hid fun W => State.Of_any (genI r) 2 hg.1 W
  have HO3 := Lib.hid fun W => State.Of_any (genI r) 3 hg.1 W
  have HSL := Lib.hid fun W => Plan.State_any T N L G (idx r) W
  rw [show r / 4294967296 = genI r from rfl] at HGN
  rw [show r % 4294967296 / 2 = idx r from rfl] at HIX
  obtain ⟨g0, g1⟩ := hg
  generalize genI r = g at HGN HO2 HO3 g0 g1 ⊢
  generalize atI T L (idx r) 0 = pl at HSL ⊢
  generalize idx r = i at HIX HSL
  generalize SM.stI g 2 = av at HO2 ⊢
  generalize SM.stI g 3 = bv at HO3 ⊢
  clear h hr
  go_enter Tryd.func10, Tryd.ntmps10
  go_wp2_with fail
  refine (HD.out _).mono ?_
  rintro e w1 ⟨rfl, b1⟩
  have HB1 := Lib.hid b1
  obtain ⟨c_0, c_1, c_2, c_3, c_4⟩ := stay_past HX.out b1
  have HS0 := Lib.hid (stay_drew HX.out b1)
  clear b1
  go_wp2_with fail
  refine (HGN.out _).mono ?_
  rintro e w2 ⟨rfl, rfl⟩
  clear c_0 c_1 c_2 c_3 c_4
  go_wp2_with fail
  go_region_held3 (fun W => W.cell? ⟨p, 0, none⟩ = some (.int .i64 T) ∧ W.cell? ⟨p, 1, none⟩ = some (.int .i64 N) ∧ W.cell? ⟨p, 2, none⟩ = some (.int .i64 L) ∧ W.cell? ⟨p, 3, none⟩ = some (.int .u64 G) ∧ W.cell? ⟨p, 4, none⟩ = some (.int .u64 r))
    ((first | (with_reducible exact HS0.out) | (with_reducible assumption) | (with_reducible exact stay_past HX.out HB4.out) | (with_reducible exact stay_set HX.out HB4.out _ _ _ _ _)))
    (first
      | (go_at_call 8; refine (HIX.out _).mono ?_; rintro e w3 ⟨rfl, rfl⟩)
      | (go_at_call 7; refine (HSL.out _).mono ?_; rintro e w4 ⟨rfl, hb⟩; have HB4 := Lib.hid (show Below (w.alloc (.cells #[.int .i64 0, .int .i64 0, .int .u64 0, .int .u64 0, .int .u64 0] 39)).heap.size (w.alloc (.cells #[.int .i64 0, .int .i64 0, .int .u64 0, .int .u64 0, .int .u64 0] 39)) w4 from HB1.out.drew.trans (hb.mono HB1.out.size)); obtain ⟨⟨r0, r1, r2, r3, r4⟩, q0, q1, q2, q3, q4⟩ := res5 HB4.out; clear hb)
      | (go_at_call 13; refine (HO2.out _).mono ?_; rintro e w3 ⟨rfl, rfl⟩)
      | (go_at_call 13; refine (HO3.out _).mono ?_; rintro e w3 ⟨rfl, rfl⟩))
  obtain ⟨⟨s0, s1, s2, s3, s4⟩, hB⟩ := set5 HB4.out (.int .i64 3) (.int .i64 pl) (.int .u64 av) (.int .u64 bv) (.int .u64 0)
  have HB := Lib.hid hB
  clear hB r0 r1 r2 r3 r4 q0 q1 q2 q3 q4
  go_wp2
  exact bodyPost_ret (v := .tuple #[.agg #[.int .i64 3, .int .i64 pl, .int .u64 av, .int .u64 bv, .int .u64 0], .bool true]) (by simp [results, Tryd.results10, go_sem, s0, s1, s2, s3, s4]) rfl ⟨rfl, HB.out⟩
theorem Claim_next {w : World} {p : Nat} {T N L G r : Int} {s : ClM.St} (h : Claims w p T N L G r s) : Calls Tryd.prog 10 #[.pointer (some ⟨p, 0, none⟩)] w (Told w (claimA T L r s)) := by
  obtain ⟨h1, h2, hr⟩ := h
  obtain ⟨dn, wn⟩ := s
  cases dn
  · obtain rfl : wn = false := h2 rfl
    rw [claimA_new]
    exact next_new h1 hr
  · rw [claimA_done]
    exact next_done h1
theorem tell_done {w : World} {p : Nat} {T N L G r f : Int} {wn : Bool} (h : Raw w p T N L G r true wn) : Calls Tryd.prog 11 #[.pointer (some ⟨p, 0, none⟩), .int .u64 f] w fun e w' => e = .returned (.tuple #[]) ∧ Below w.heap.size w w' := by
  have HD := Lib.hid (isFresh_any h)
  clear h
  go_enter Tryd.func11, Tryd.ntmps11
  go_wp2_with fail
  refine HD.out.mono ?_
  rintro e w1 ⟨rfl, b1⟩
  simp only [Bool.not_true, Bool.false_and]
  have HB1 := Lib.hid b1
  clear b1
  go_wp2
  refine bodyPost_end (results_none rfl _ _ _) rfl ?_
  exact ⟨rfl, HB1.out⟩
theorem tell_new {w : World} {p : Nat} {T N L G r f : Int} (h : Raw w p T N L G r false false) (hr : 0 ≤ r ∧ r < 18446744073709551616) : Calls Tryd.prog 11 #[.pointer (some ⟨p, 0, none⟩), .int .u64 f] w fun e w' => e = .returned (.tuple #[]) ∧ Raw w' p T N L G r true (decide (f = SM.stI (genI r) 2)) ∧ Only (fun k => k = p) w w' := by
  have HD := Lib.hid (show Calls Tryd.prog 28 #[.pointer (some ⟨p, 0, none⟩)] w fun e w' => e = .returned (.bool true) ∧ Below w.heap.size w w' from isFresh_any h)
  have HX := Lib.hid h
  have HGN := Lib.hid fun W => Refer.Gen_any r hr.1 hr.2 W
  have hg := gen_ok hr
  have HIS := Lib.hid fun W => State.Is_any f (genI r) 2 hg.1 W
  rw [is_live hg.2] at HIS
  rw [show r / 4294967296 = genI r from rfl] at HGN
  obtain ⟨g0, g1⟩ := hg
  generalize decide (f = SM.stI (genI r) 2) = b at HIS ⊢
  generalize genI r = g at HGN HIS g0 g1
  clear h hr
  go_enter Tryd.func11, Tryd.ntmps11
  go_wp2_with fail
  refine HD.out.mono ?_
  rintro e w1 ⟨rfl, b1⟩
  have hw1 := HX.out.only (only_below (fun _ => False) b1) id
  obtain ⟨c_0, c_1, c_2, c_3, c_4, c_5, c_6, c_7⟩ := hw1.cells
  have f6 := hw1.thawed 6
  have f7 := (hw1.set_dn true).thawed 7
  have HE := Lib.hid (And.intro ((hw1.set_dn true).set_wn b) ((only_below (fun k => k = p) b1).trans ((only_set w1 p 6 (.bool true)).trans (only_set _ p 7 (.bool b)))))
  clear b1 hw1
  go_wp2_with fail
  refine (HGN.out _).mono ?_
  rintro e w2 ⟨rfl, rfl⟩
  go_wp2_with fail
  refine (HIS.out _).mono ?_
  rintro e w2 ⟨rfl, rfl⟩
  go_wp2
  refine bodyPost_end (results_none rfl _ _ _) rfl ?_
  exact ⟨rfl, HE.out⟩
theorem Claim_tell {w : World} {p : Nat} {T N L G r : Int} {s : ClM.St} (h : Claims w p T N L G r s) {f : Int} (hf : 0 ≤ f ∧ f < 18446744073709551616) : Calls Tryd.prog 11 #[.pointer (some ⟨p, 0, none⟩), .int .u64 f] w fun e w' => e = .returned (.tuple #[]) ∧ Claims w' p T N L G r (claimT r s f) ∧ Only (fun k => k = p) w w' := by
  have hok := claimT_ok (r := r) (f := f) h.2.1
  have hc := h
  obtain ⟨h1, h2, hr⟩ := h
  obtain ⟨dn, wn⟩ := s
  cases dn
  · obtain rfl : wn = false := h2 rfl
    rw [claimT_new] at hok ⊢
    refine (tell_new h1 hr).mono ?_
    rintro e w' ⟨rfl, h3, h4⟩
    exact ⟨rfl, ⟨h3, hok, hr⟩, h4⟩
  · rw [claimT_done]
    refine (tell_done h1).mono ?_
    rintro e w' ⟨rfl, hb⟩
    exact ⟨rfl, hc.later hb, only_below _ hb⟩
theorem Won_cell {w : World} {p : Nat} {b : Bool} (c_7 : w.cell? ⟨p, 7, none⟩ = some (.bool b)) : Calls Tryd.prog 15 #[.pointer (some ⟨p, 0, none⟩)] w fun e w' => e = .returned (.bool b) ∧ w = w' := by
  go_enter Tryd.func15, Tryd.ntmps15
  go_wp2
  go_ret
  exact ⟨rfl, rfl⟩
theorem Won_any {w : World} {p : Nat} {T N L G r : Int} {s : ClM.St} (h : Claims w p T N L G r s) : Calls Tryd.prog 15 #[.pointer (some ⟨p, 0, none⟩)] w fun e w' => e = .returned (.bool s.wn) ∧ w = w' := Won_cell h.1.cells.2.2.2.2.2.2.2
end Go.Proofs.YtoeiiodnpoldbaaDoor.Clm
