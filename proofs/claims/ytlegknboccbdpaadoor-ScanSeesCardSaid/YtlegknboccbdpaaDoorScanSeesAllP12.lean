import Derived.Test.YtlegknboccbdpaaDoorScanSeesAllP1
import Derived.Test.YtlegknboccbdpaaDoorScanSeesAllP3
import Derived.Test.YtlegknboccbdpaaDoorScanSeesAllP7
import Derived.Test.YtlegknboccbdpaaDoorScanSeesAllP8
import Derived.Test.YtlegknboccbdpaaDoorScanSeesAllP11
import Derived.Deep.DeepCutAuto
import Derived.Deep.RegionHeld3
/- Package scan (layer 27), held to plain arithmetic: what a scanner asks for, what it becomes when it is told, whether it has seen something; a new one; all else in memory stays as it was. -/
namespace Go.Proofs.YtlegknboccbdpaaDoor.Scn
set_option maxRecDepth 20000
open Go.ChangeShapes Go.WideShapes Go.RowKit CM DM PM KM ScM Lay Plan Go.Proofs.YtlegknboccbdpaaDoor.Task
open ClM (genI)
set_option linter.unusedVariables false
set_option linter.unusedSimpArgs false

/-- What a task is asked for. -/
def ToldD (w : World) (d : D) (more : Bool) (e : Ending) (w' : World) : Prop :=
  e = .returned (.tuple #[.agg #[.int .i64 d.1, .int .i64 d.2.1, .int .u64 d.2.2.1, .int .u64 d.2.2.2.1, .int .u64 d.2.2.2.2], .bool more]) ∧ Below w.heap.size w w'
def Told (w : World) (x : Option D) : Ending → World → Prop := ToldD w (x.getD (0, 0, 0, 0, 0)) x.isSome

/-- A scanner in block p, word by word. -/
def Raw (w : World) (p : Nat) (T N L G lm a cu : Int) (sn : Bool) : Prop := w.heap[p]? = some (.cells #[.int .i64 T, .int .i64 N, .int .i64 L, .int .u64 G, .int .i64 lm, .int .i64 a, .int .u64 cu, .bool sn] 62 (0, 0))
theorem only_set (w : World) (p j : Nat) (v : Value) : Only (fun k => k = p) w (w.setCell ⟨p, j, none⟩ v) := only_setCell (R := fun k => k = p) w (p := ⟨p, j, none⟩) rfl v
section
variable {w w' : World} {p : Nat} {T N L G lm a cu : Int} {sn : Bool}
theorem Raw.lt (h : Raw w p T N L G lm a cu sn) : p < w.heap.size := (Array.getElem?_eq_some_iff.1 h).1
theorem Raw.only {R : Nat → Prop} (h : Raw w p T N L G lm a cu sn) (ho : Only R w w') (hp : ¬ R p) : Raw w' p T N L G lm a cu sn := ho.heap h hp
theorem Raw.later (h : Raw w p T N L G lm a cu sn) (hb : Below w.heap.size w w') : Raw w' p T N L G lm a cu sn := h.only (only_below (fun _ => False) hb) id
theorem Raw.cells (h : Raw w p T N L G lm a cu sn) : w.cell? ⟨p, 0, none⟩ = some (.int .i64 T) ∧ w.cell? ⟨p, 1, none⟩ = some (.int .i64 N) ∧ w.cell? ⟨p, 2, none⟩ = some (.int .i64 L) ∧ w.cell? ⟨p, 3, none⟩ = some (.int .u64 G) ∧
    w.cell? ⟨p, 4, none⟩ = some (.int .i64 lm) ∧ w.cell? ⟨p, 5, none⟩ = some (.int .i64 a) ∧ w.cell? ⟨p, 6, none⟩ = some (.int .u64 cu) ∧ w.cell? ⟨p, 7, none⟩ = some (.bool sn) := by
  have hc := fun j => (cell_heap h j).1
  exact ⟨hc 0, hc 1, hc 2, hc 3, hc 4, hc 5, hc 6, hc 7⟩
theorem Raw.thawed (h : Raw w p T N L G lm a cu sn) (j : Nat) : w.frozen? ⟨p, j, none⟩ = false := (cell_heap h j).2
theorem Raw.set_a (h : Raw w p T N L G lm a cu sn) (v : Int) : Raw (w.setCell ⟨p, 5, none⟩ (.int .i64 v)) p T N L G lm v cu sn := set_heap (j := 5) h (.int .i64 v)
theorem Raw.set_cu (h : Raw w p T N L G lm a cu sn) (v : Int) : Raw (w.setCell ⟨p, 6, none⟩ (.int .u64 v)) p T N L G lm a v sn := set_heap (j := 6) h (.int .u64 v)
theorem Raw.set_sn (h : Raw w p T N L G lm a cu sn) (v : Bool) : Raw (w.setCell ⟨p, 7, none⟩ (.bool v)) p T N L G lm a cu v := set_heap (j := 7) h (.bool v)
end

theorem load_any (i y : Int) (w : World) : Calls Tryd.prog 32 #[.int .i64 i, .int .u64 y] w fun e w' => e = .returned (.agg #[.int .i64 1, .int .i64 i, .int .u64 0, .int .u64 0, .int .u64 y]) ∧ Below w.heap.size w w' := by
  have HB := Lib.hid (box_below w (.cells #[.int .i64 1, .int .i64 i, .int .u64 0, .int .u64 0, .int .u64 y] 38))
  obtain ⟨⟨s0, s1, s2, s3, s4⟩, -⟩ := res5 (Below.refl (w.alloc (.cells #[.int .i64 1, .int .i64 i, .int .u64 0, .int .u64 0, .int .u64 y] 38)).heap.size (w.alloc (.cells #[.int .i64 1, .int .i64 i, .int .u64 0, .int .u64 0, .int .u64 y] 38)))
  go_enter Tryd.func32, Tryd.ntmps32
  go_wp2
  exact bodyPost_ret (v := .agg #[.int .i64 1, .int .i64 i, .int .u64 0, .int .u64 0, .int .u64 y]) (by simp [results, Tryd.results32, go_sem, s0, s1, s2, s3, s4]) rfl ⟨rfl, HB.out⟩
theorem end_any {w : World} {p : Nat} {T N L G lm a cu : Int} {sn : Bool} (h : Raw w p T N L G lm a cu sn) (over : Bool) (o : Int) {n : Int} (hn : (if over = true then 0 else o) = n) : Calls Tryd.prog 36 #[.pointer (some ⟨p, 5, none⟩), .bool over, .int .i64 o] w fun e w' => e = .returned (.tuple #[]) ∧ Raw w' p T N L G lm n cu sn ∧ Only (fun k => k = p) w w' := by
  have c_5 := h.cells.2.2.2.2.2.1
  have f_5 := h.thawed 5
  have HA := Lib.hid (h.set_a o)
  have HB := Lib.hid ((h.set_a o).set_a 0)
  have HO := Lib.hid (only_set w p 5 (.int .i64 o))
  have HP := Lib.hid ((only_set w p 5 (.int .i64 o)).trans (only_set _ p 5 (.int .i64 0)))
  have d_5 := (h.set_a o).cells.2.2.2.2.2.1
  have g_5 := (h.set_a o).thawed 5
  subst hn
  clear h
  cases over
  · go_enter Tryd.func36, Tryd.ntmps36
    go_wp2
    exact bodyPost_end (results_none rfl _ _ _) rfl ⟨rfl, HA.out, HO.out⟩
  · go_enter Tryd.func36, Tryd.ntmps36
    go_wp2
    exact bodyPost_end (results_none rfl _ _ _) rfl ⟨rfl, HB.out, HP.out⟩

theorem stay {w : World} {p : Nat} {T N L G lm a cu : Int} {sn : Bool} (h : Raw w p T N L G lm a cu sn) : (fun W : World => W.cell? ⟨p, 0, none⟩ = some (.int .i64 T) ∧ W.cell? ⟨p, 1, none⟩ = some (.int .i64 N) ∧ W.cell? ⟨p, 2, none⟩ = some (.int .i64 L) ∧ W.cell? ⟨p, 3, none⟩ = some (.int .u64 G) ∧ W.cell? ⟨p, 6, none⟩ = some (.int .u64 cu)) w := by
  obtain ⟨e0, e1, e2, e3, e4, e5, e6, e7⟩ := h.cells
  exact ⟨e0, e1, e2, e3, e6⟩
theorem raw_past {w : World} {p : Nat} {T N L G lm a cu : Int} {sn : Bool} {W : World} (h : Raw w p T N L G lm a cu sn) (hb : Below (w.alloc (.cells #[.int .i64 0, .int .i64 0, .int .u64 0, .int .u64 0, .int .u64 0] 38)).heap.size (w.alloc (.cells #[.int .i64 0, .int .i64 0, .int .u64 0, .int .u64 0, .int .u64 0] 38)) W) : Raw W p T N L G lm a cu sn := h.only (only_below (fun _ => False) ((box_below w (.cells #[.int .i64 0, .int .i64 0, .int .u64 0, .int .u64 0, .int .u64 0] 38)).trans (hb.mono (by simp)))) id
theorem stay_past {w : World} {p : Nat} {T N L G lm a cu : Int} {sn : Bool} {W : World} (h : Raw w p T N L G lm a cu sn) (hb : Below (w.alloc (.cells #[.int .i64 0, .int .i64 0, .int .u64 0, .int .u64 0, .int .u64 0] 38)).heap.size (w.alloc (.cells #[.int .i64 0, .int .i64 0, .int .u64 0, .int .u64 0, .int .u64 0] 38)) W) : (fun W : World => W.cell? ⟨p, 0, none⟩ = some (.int .i64 T) ∧ W.cell? ⟨p, 1, none⟩ = some (.int .i64 N) ∧ W.cell? ⟨p, 2, none⟩ = some (.int .i64 L) ∧ W.cell? ⟨p, 3, none⟩ = some (.int .u64 G) ∧ W.cell? ⟨p, 6, none⟩ = some (.int .u64 cu)) W := stay (raw_past h hb)
theorem stay_set {w : World} {p : Nat} {T N L G lm a cu : Int} {sn : Bool} {W : World} (h : Raw w p T N L G lm a cu sn) (hb : Below (w.alloc (.cells #[.int .i64 0, .int .i64 0, .int .u64 0, .int .u64 0, .int .u64 0] 38)).heap.size (w.alloc (.cells #[.int .i64 0, .int .i64 0, .int .u64 0, .int .u64 0, .int .u64 0] 38)) W) (u0 u1 u2 u3 u4 : Value) : (fun W : World => W.cell? ⟨p, 0, none⟩ = some (.int .i64 T) ∧ W.cell? ⟨p, 1, none⟩ = some (.int .i64 N) ∧ W.cell? ⟨p, 2, none⟩ = some (.int .i64 L) ∧ W.cell? ⟨p, 3, none⟩ = some (.int .u64 G) ∧ W.cell? ⟨p, 6, none⟩ = some (.int .u64 cu)) ((((((W.setCell ⟨w.heap.size, 0, none⟩ u0).setCell ⟨w.heap.size, 1, none⟩ u1).setCell ⟨w.heap.size, 2, none⟩ u2).setCell ⟨w.heap.size, 3, none⟩ u3).setCell ⟨w.heap.size, 4, none⟩ u4)) := by
  have hp := h.lt
  have ho : ∀ (W : World) (j : Nat) (v : Value), Only (fun k => k = w.heap.size) W (W.setCell ⟨w.heap.size, j, none⟩ v) := fun W j v => only_set W w.heap.size j v
  exact stay ((raw_past h hb).only ((((((ho W 0 u0).trans (ho _ 1 u1)).trans (ho _ 2 u2)).trans (ho _ 3 u3)).trans (ho _ 4 u4))) (show ¬ p = w.heap.size by omega))
theorem next_0 {w : World} {p : Nat} {T N L G lm cu : Int} {sn : Bool} (h : Raw w p T N L G lm 0 cu sn) (hc : 0 ≤ cu ∧ cu < 18446744073709551616) : Calls Tryd.prog 10 #[.pointer (some ⟨p, 0, none⟩)] w (Told w none) := by
  obtain ⟨-, -, -, -, -, c_5, c_6, -⟩ := (h.later (box_below w (.cells #[.int .i64 0, .int .i64 0, .int .u64 0, .int .u64 0, .int .u64 0] 38))).cells
  have HIX := Lib.hid fun W => Refer.Index_any cu hc.1 hc.2 W
  obtain ⟨⟨s0, s1, s2, s3, s4⟩, -⟩ := res5 (Below.refl (w.alloc (.cells #[.int .i64 0, .int .i64 0, .int .u64 0, .int .u64 0, .int .u64 0] 38)).heap.size (w.alloc (.cells #[.int .i64 0, .int .i64 0, .int .u64 0, .int .u64 0, .int .u64 0] 38)))
  have HB := Lib.hid (box_below w (.cells #[.int .i64 0, .int .i64 0, .int .u64 0, .int .u64 0, .int .u64 0] 38))
  generalize cu % 4294967296 / 2 = i at HIX
  clear h hc
  go_enter Tryd.func10, Tryd.ntmps10
  go_wp2_with fail
  refine (HIX.out _).mono ?_
  rintro e w' ⟨rfl, rfl⟩
  go_wp2
  exact bodyPost_ret (v := .tuple #[.agg #[.int .i64 0, .int .i64 0, .int .u64 0, .int .u64 0, .int .u64 0], .bool false]) (by simp [results, Tryd.results10, go_sem, s0, s1, s2, s3, s4]) rfl ⟨rfl, HB.out⟩
theorem next_1 {w : World} {p : Nat} {T N L G lm cu : Int} {sn : Bool} (h : Raw w p T N L G lm 1 cu sn) (hc : 0 ≤ cu ∧ cu < 18446744073709551616) : Calls Tryd.prog 10 #[.pointer (some ⟨p, 0, none⟩)] w (Told w (some (1, nextI T L 0 0, 0, 0, 0))) := by
  obtain ⟨c_0, c_1, c_2, c_3, -, c_5, c_6, -⟩ := (h.later (box_below w (.cells #[.int .i64 0, .int .i64 0, .int .u64 0, .int .u64 0, .int .u64 0] 38))).cells
  have HIX := Lib.hid fun W => Refer.Index_any cu hc.1 hc.2 W
  rw [show cu % 4294967296 / 2 = idx cu from rfl] at HIX
  have HN := Lib.hid fun W => Plan.Next_any T N L G 0 0 W
  generalize nextI T L 0 0 = pl at HN ⊢
  generalize idx cu = i at HIX HN
  have HL := Lib.hid fun W => load_any pl 0 W
  clear h hc
  go_enter Tryd.func10, Tryd.ntmps10
  go_wp2_with fail
  refine (HIX.out _).mono ?_
  rintro e w' ⟨rfl, rfl⟩
  go_wp2_with fail
  refine (HN.out _).mono ?_
  rintro e w1 ⟨rfl, b0⟩
  have HB0 := Lib.hid b0
  clear b0 c_0 c_1 c_2 c_3 c_5 c_6
  go_wp2_with fail
  refine (HL.out _).mono ?_
  rintro e w2 ⟨rfl, b2⟩
  have b1 := HB0.out.trans (b2.mono HB0.out.size)
  obtain ⟨⟨r0, r1, r2, r3, r4⟩, g0, g1, g2, g3, g4⟩ := res5 b1
  obtain ⟨⟨s0, s1, s2, s3, s4⟩, hB⟩ := set5 b1 (.int .i64 1) (.int .i64 pl) (.int .u64 0) (.int .u64 0) (.int .u64 0)
  have HB := Lib.hid hB
  clear hB b1 b2
  go_wp2
  exact bodyPost_ret (v := .tuple #[.agg #[.int .i64 1, .int .i64 pl, .int .u64 0, .int .u64 0, .int .u64 0], .bool true]) (by simp [results, Tryd.results10, go_sem, s0, s1, s2, s3, s4]) rfl ⟨rfl, HB.out⟩
theorem next_3 {w : World} {p : Nat} {T N L G lm cu : Int} {sn : Bool} (h : Raw w p T N L G lm 3 cu sn) (hc : 0 ≤ cu ∧ cu < 18446744073709551616) : Calls Tryd.prog 10 #[.pointer (some ⟨p, 0, none⟩)] w (Told w (some (1, atI T L (idx cu) 0, 0, 0, 0))) := by
  obtain ⟨c_0, c_1, c_2, c_3, -, c_5, c_6, -⟩ := (h.later (box_below w (.cells #[.int .i64 0, .int .i64 0, .int .u64 0, .int .u64 0, .int .u64 0] 38))).cells
  have HIX := Lib.hid fun W => Refer.Index_any cu hc.1 hc.2 W
  rw [show cu % 4294967296 / 2 = idx cu from rfl] at HIX
  have HN := Lib.hid fun W => Plan.State_any T N L G (idx cu) W
  generalize atI T L (idx cu) 0 = pl at HN ⊢
  generalize idx cu = i at HIX HN
  have HL := Lib.hid fun W => load_any pl 0 W
  clear h hc
  go_enter Tryd.func10, Tryd.ntmps10
  go_wp2_with fail
  refine (HIX.out _).mono ?_
  rintro e w' ⟨rfl, rfl⟩
  go_wp2_with fail
  refine (HN.out _).mono ?_
  rintro e w1 ⟨rfl, b0⟩
  have HB0 := Lib.hid b0
  clear b0 c_0 c_1 c_2 c_3 c_5 c_6
  go_wp2_with fail
  refine (HL.out _).mono ?_
  rintro e w2 ⟨rfl, b2⟩
  have b1 := HB0.out.trans (b2.mono HB0.out.size)
  obtain ⟨⟨r0, r1, r2, r3, r4⟩, g0, g1, g2, g3, g4⟩ := res5 b1
  obtain ⟨⟨s0, s1, s2, s3, s4⟩, hB⟩ := set5 b1 (.int .i64 1) (.int .i64 pl) (.int .u64 0) (.int .u64 0) (.int .u64 0)
  have HB := Lib.hid hB
  clear hB b1 b2
  go_wp2
  exact bodyPost_ret (v := .tuple #[.agg #[.int .i64 1, .int .i64 pl, .int .u64 0, .int .u64 0, .int .u64 0], .bool true]) (by simp [results, Tryd.results10, go_sem, s0, s1, s2, s3, s4]) rfl ⟨rfl, HB.out⟩
theorem next_2 {w : World} {p : Nat} {T N L G lm cu : Int} {sn : Bool} (h : Raw w p T N L G lm 2 cu sn) (hc : 0 ≤ cu ∧ cu < 18446744073709551616) : Calls Tryd.prog 10 #[.pointer (some ⟨p, 0, none⟩)] w (Told w (some (1, atI T L (idx cu) 1, 0, 0, cu))) := by
  obtain ⟨-, -, -, -, -, c_5, c_6, -⟩ := (h.later (box_below w (.cells #[.int .i64 0, .int .i64 0, .int .u64 0, .int .u64 0, .int .u64 0] 38))).cells
  have HX := Lib.hid h
  have HB0 := Lib.hid (show Below (w.alloc (.cells #[.int .i64 0, .int .i64 0, .int .u64 0, .int .u64 0, .int .u64 0] 38)).heap.size (w.alloc (.cells #[.int .i64 0, .int .i64 0, .int .u64 0, .int .u64 0, .int .u64 0] 38)) (w.alloc (.cells #[.int .i64 0, .int .i64 0, .int .u64 0, .int .u64 0, .int .u64 0] 38)) from Below.refl _ _)
  have HS0 := Lib.hid (show (fun W : World => W.cell? ⟨p, 0, none⟩ = some (.int .i64 T) ∧ W.cell? ⟨p, 1, none⟩ = some (.int .i64 N) ∧ W.cell? ⟨p, 2, none⟩ = some (.int .i64 L) ∧ W.cell? ⟨p, 3, none⟩ = some (.int .u64 G) ∧ W.cell? ⟨p, 6, none⟩ = some (.int .u64 cu)) (w.alloc (.cells #[.int .i64 0, .int .i64 0, .int .u64 0, .int .u64 0, .int .u64 0] 38)).drew from stay (raw_past h HB0.out.drew))
  have HIX := Lib.hid fun W => Refer.Index_any cu hc.1 hc.2 W
  have HSL := Lib.hid fun W => Plan.Dead_any T N L G (idx cu) W
  rw [show cu % 4294967296 / 2 = idx cu from rfl] at HIX
  generalize atI T L (idx cu) 1 = pl at HSL ⊢
  generalize idx cu = i at HIX HSL
  have HL := Lib.hid fun W => load_any pl cu W
  clear h hc
  go_enter Tryd.func10, Tryd.ntmps10
  go_wp2_with fail
  refine (HIX.out _).mono ?_
  rintro e w' ⟨rfl, rfl⟩
  go_wp2_with fail
  go_region_held3 (fun W => W.cell? ⟨p, 0, none⟩ = some (.int .i64 T) ∧ W.cell? ⟨p, 1, none⟩ = some (.int .i64 N) ∧ W.cell? ⟨p, 2, none⟩ = some (.int .i64 L) ∧ W.cell? ⟨p, 3, none⟩ = some (.int .u64 G) ∧ W.cell? ⟨p, 6, none⟩ = some (.int .u64 cu))
    ((first | (with_reducible exact HS0.out) | (with_reducible assumption) | (with_reducible exact HS2.out) | (with_reducible exact HS4.out) | (with_reducible exact stay_set HX.out HB4.out _ _ _ _ _)))
    (first
      | (go_at_call 33; refine (HSL.out _).mono ?_; rintro e w3 ⟨rfl, hb⟩; have HB2 := Lib.hid (show Below (w.alloc (.cells #[.int .i64 0, .int .i64 0, .int .u64 0, .int .u64 0, .int .u64 0] 38)).heap.size (w.alloc (.cells #[.int .i64 0, .int .i64 0, .int .u64 0, .int .u64 0, .int .u64 0] 38)) w3 from HB0.out.drew.trans hb); have HS2 := Lib.hid (stay_past HX.out HB2.out); clear hb)
      | (go_at_call 32; refine (HL.out _).mono ?_; rintro e w4 ⟨rfl, hb⟩; have HB4 := Lib.hid (show Below (w.alloc (.cells #[.int .i64 0, .int .i64 0, .int .u64 0, .int .u64 0, .int .u64 0] 38)).heap.size (w.alloc (.cells #[.int .i64 0, .int .i64 0, .int .u64 0, .int .u64 0, .int .u64 0] 38)) w4 from HB2.out.trans (hb.mono HB2.out.size)); have HS4 := Lib.hid (stay_past HX.out HB4.out); obtain ⟨⟨r0, r1, r2, r3, r4⟩, q0, q1, q2, q3, q4⟩ := res5 HB4.out; clear hb))
  all_goals obtain ⟨⟨s0, s1, s2, s3, s4⟩, hB⟩ := set5 HB4.out (.int .i64 1) (.int .i64 pl) (.int .u64 0) (.int .u64 0) (.int .u64 cu)
  all_goals have HB := Lib.hid hB
  all_goals clear hB r0 r1 r2 r3 r4 q0 q1 q2 q3 q4
  all_goals go_wp2
  all_goals exact bodyPost_ret (v := .tuple #[.agg #[.int .i64 1, .int .i64 pl, .int .u64 0, .int .u64 0, .int .u64 cu], .bool true]) (by simp [results, Tryd.results10, go_sem, s0, s1, s2, s3, s4]) rfl ⟨rfl, HB.out⟩
theorem next_4 {w : World} {p : Nat} {T N L G lm cu : Int} {sn : Bool} (h : Raw w p T N L G lm 4 cu sn) (hc : 0 ≤ cu ∧ cu < 18446744073709551616) : Calls Tryd.prog 10 #[.pointer (some ⟨p, 0, none⟩)] w (Told w (some (1, nextI T L (idx cu) 0, 0, 0, cu))) := by
  obtain ⟨-, -, -, -, -, c_5, c_6, -⟩ := (h.later (box_below w (.cells #[.int .i64 0, .int .i64 0, .int .u64 0, .int .u64 0, .int .u64 0] 38))).cells
  have HX := Lib.hid h
  have HB0 := Lib.hid (show Below (w.alloc (.cells #[.int .i64 0, .int .i64 0, .int .u64 0, .int .u64 0, .int .u64 0] 38)).heap.size (w.alloc (.cells #[.int .i64 0, .int .i64 0, .int .u64 0, .int .u64 0, .int .u64 0] 38)) (w.alloc (.cells #[.int .i64 0, .int .i64 0, .int .u64 0, .int .u64 0, .int .u64 0] 38)) from Below.refl _ _)
  have HS0 := Lib.hid (show (fun W : World => W.cell? ⟨p, 0, none⟩ = some (.int .i64 T) ∧ W.cell? ⟨p, 1, none⟩ = some (.int .i64 N) ∧ W.cell? ⟨p, 2, none⟩ = some (.int .i64 L) ∧ W.cell? ⟨p, 3, none⟩ = some (.int .u64 G) ∧ W.cell? ⟨p, 6, none⟩ = some (.int .u64 cu)) (w.alloc (.cells #[.int .i64 0, .int .i64 0, .int .u64 0, .int .u64 0, .int .u64 0] 38)).drew from stay (raw_past h HB0.out.drew))
  have HIX := Lib.hid fun W => Refer.Index_any cu hc.1 hc.2 W
  have HSL := Lib.hid fun W => Plan.Next_any T N L G (idx cu) 0 W
  rw [show cu % 4294967296 / 2 = idx cu from rfl] at HIX
  generalize nextI T L (idx cu) 0 = pl at HSL ⊢
  generalize idx cu = i at HIX HSL
  have HL := Lib.hid fun W => load_any pl cu W
  clear h hc
  go_enter Tryd.func10, Tryd.ntmps10
  go_wp2_with fail
  refine (HIX.out _).mono ?_
  rintro e w' ⟨rfl, rfl⟩
  go_wp2_with fail
  go_region_held3 (fun W => W.cell? ⟨p, 0, none⟩ = some (.int .i64 T) ∧ W.cell? ⟨p, 1, none⟩ = some (.int .i64 N) ∧ W.cell? ⟨p, 2, none⟩ = some (.int .i64 L) ∧ W.cell? ⟨p, 3, none⟩ = some (.int .u64 G) ∧ W.cell? ⟨p, 6, none⟩ = some (.int .u64 cu))
    ((first | (with_reducible exact HS0.out) | (with_reducible assumption) | (with_reducible exact HS2.out) | (with_reducible exact HS4.out) | (with_reducible exact stay_set HX.out HB4.out _ _ _ _ _)))
    (first
      | (go_at_call 29; refine (HSL.out _).mono ?_; rintro e w3 ⟨rfl, hb⟩; have HB2 := Lib.hid (show Below (w.alloc (.cells #[.int .i64 0, .int .i64 0, .int .u64 0, .int .u64 0, .int .u64 0] 38)).heap.size (w.alloc (.cells #[.int .i64 0, .int .i64 0, .int .u64 0, .int .u64 0, .int .u64 0] 38)) w3 from HB0.out.drew.trans hb); have HS2 := Lib.hid (stay_past HX.out HB2.out); clear hb)
      | (go_at_call 32; refine (HL.out _).mono ?_; rintro e w4 ⟨rfl, hb⟩; have HB4 := Lib.hid (show Below (w.alloc (.cells #[.int .i64 0, .int .i64 0, .int .u64 0, .int .u64 0, .int .u64 0] 38)).heap.size (w.alloc (.cells #[.int .i64 0, .int .i64 0, .int .u64 0, .int .u64 0, .int .u64 0] 38)) w4 from HB2.out.trans (hb.mono HB2.out.size)); have HS4 := Lib.hid (stay_past HX.out HB4.out); obtain ⟨⟨r0, r1, r2, r3, r4⟩, q0, q1, q2, q3, q4⟩ := res5 HB4.out; clear hb))
  all_goals obtain ⟨⟨s0, s1, s2, s3, s4⟩, hB⟩ := set5 HB4.out (.int .i64 1) (.int .i64 pl) (.int .u64 0) (.int .u64 0) (.int .u64 cu)
  all_goals have HB := Lib.hid hB
  all_goals clear hB r0 r1 r2 r3 r4 q0 q1 q2 q3 q4
  all_goals go_wp2
  all_goals exact bodyPost_ret (v := .tuple #[.agg #[.int .i64 1, .int .i64 pl, .int .u64 0, .int .u64 0, .int .u64 cu], .bool true]) (by simp [results, Tryd.results10, go_sem, s0, s1, s2, s3, s4]) rfl ⟨rfl, HB.out⟩
theorem tell_0 {w : World} {p : Nat} {T N L G lm cu : Int} {sn : Bool} {x : Int} (h : Raw w p T N L G lm 0 cu sn) : Calls Tryd.prog 11 #[.pointer (some ⟨p, 0, none⟩), .int .u64 x] w fun e w' => e = .returned (.tuple #[]) ∧ w = w' := by
  obtain ⟨-, -, -, -, -, c_5, -⟩ := h.cells
  clear h
  go_enter Tryd.func11, Tryd.ntmps11
  go_wp2
  exact bodyPost_end (results_none rfl _ _ _) rfl ⟨rfl, rfl⟩
/-- The Load of a way on. -/
theorem tell_1 {w : World} {p : Nat} {T N L G lm cu : Int} {sn : Bool} {x : Int} (h : Raw w p T N L G lm 1 cu sn) (hx : 0 ≤ x ∧ x < 18446744073709551616) {b : Bool} {n : Int} (hb : decide (idx x = 0) = b) (hn : (if b = true then 0 else 2) = n) : Calls Tryd.prog 11 #[.pointer (some ⟨p, 0, none⟩), .int .u64 x] w fun e w' => e = .returned (.tuple #[]) ∧ Raw w' p T N L G lm n (plainI x) sn ∧ Only (fun k => k = p) w w' := by
  obtain ⟨-, -, -, -, -, c_5, c_6, -⟩ := h.cells
  have f_6 := h.thawed 6
  have HPL := Lib.hid fun W => Refer.Plain_any x hx.1 hx.2 W
  rw [show x - x % 2 = plainI x from rfl] at HPL
  have HNO := Lib.hid fun W => Refer.None_any x hx.1 hx.2 W
  rw [show x % 4294967296 / 2 = idx x from rfl, hb] at HNO
  generalize plainI x = y at HPL ⊢
  have HEN := Lib.hid (end_any (h.set_cu y) b 2 hn)
  have HO := Lib.hid (only_set w p 6 (.int .u64 y))
  clear h hx hb hn
  go_enter Tryd.func11, Tryd.ntmps11
  go_wp2_with fail
  refine (HPL.out _).mono ?_
  rintro e w' ⟨rfl, rfl⟩
  go_wp2_with fail
  refine (HNO.out _).mono ?_
  rintro e w' ⟨rfl, rfl⟩
  go_wp2_with fail
  refine HEN.out.mono ?_
  rintro e w2 ⟨rfl, h2, o2⟩
  have HE := Lib.hid (And.intro h2 (HO.out.trans o2))
  clear h2 o2
  go_wp2
  exact bodyPost_end (results_none rfl _ _ _) rfl ⟨rfl, HE.out.1, HE.out.2⟩
theorem tell_4 {w : World} {p : Nat} {T N L G lm cu : Int} {sn : Bool} {x : Int} (h : Raw w p T N L G lm 4 cu sn) (hx : 0 ≤ x ∧ x < 18446744073709551616) {b : Bool} {n : Int} (hb : decide (idx x = 0) = b) (hn : (if b = true then 0 else 2) = n) : Calls Tryd.prog 11 #[.pointer (some ⟨p, 0, none⟩), .int .u64 x] w fun e w' => e = .returned (.tuple #[]) ∧ Raw w' p T N L G lm n (plainI x) sn ∧ Only (fun k => k = p) w w' := by
  obtain ⟨-, -, -, -, -, c_5, c_6, -⟩ := h.cells
  have f_6 := h.thawed 6
  have HPL := Lib.hid fun W => Refer.Plain_any x hx.1 hx.2 W
  rw [show x - x % 2 = plainI x from rfl] at HPL
  have HNO := Lib.hid fun W => Refer.None_any x hx.1 hx.2 W
  rw [show x % 4294967296 / 2 = idx x from rfl, hb] at HNO
  generalize plainI x = y at HPL ⊢
  have HEN := Lib.hid (end_any (h.set_cu y) b 2 hn)
  have HO := Lib.hid (only_set w p 6 (.int .u64 y))
  clear h hx hb hn
  go_enter Tryd.func11, Tryd.ntmps11
  go_wp2_with fail
  refine (HPL.out _).mono ?_
  rintro e w' ⟨rfl, rfl⟩
  go_wp2_with fail
  refine (HNO.out _).mono ?_
  rintro e w' ⟨rfl, rfl⟩
  go_wp2_with fail
  refine HEN.out.mono ?_
  rintro e w2 ⟨rfl, h2, o2⟩
  have HE := Lib.hid (And.intro h2 (HO.out.trans o2))
  clear h2 o2
  go_wp2
  exact bodyPost_end (results_none rfl _ _ _) rfl ⟨rfl, HE.out.1, HE.out.2⟩
/-- The Load of Dead. -/
theorem tell_2 {w : World} {p : Nat} {T N L G lm cu : Int} {sn : Bool} {x : Int} (h : Raw w p T N L G lm 2 cu sn) {b : Bool} {n : Int} (hb : decide (lm ≤ wrap64 x) = b) (hn : (if b = true then 0 else 3) = n) : Calls Tryd.prog 11 #[.pointer (some ⟨p, 0, none⟩), .int .u64 x] w fun e w' => e = .returned (.tuple #[]) ∧ Raw w' p T N L G lm n cu sn ∧ Only (fun k => k = p) w w' := by
  obtain ⟨-, -, -, -, c_4, c_5, c_6, -⟩ := h.cells
  have HEN := Lib.hid (end_any h b 3 hn)
  clear h hn
  go_enter Tryd.func11, Tryd.ntmps11
  go_wp2_with fail
  refine HEN.out.mono ?_
  rintro e w2 ⟨rfl, h2, o2⟩
  have HE := Lib.hid (And.intro h2 o2)
  clear h2 o2 hb
  go_wp2
  exact bodyPost_end (results_none rfl _ _ _) rfl ⟨rfl, HE.out.1, HE.out.2⟩
/-- The Load of State. -/
theorem tell_3 {w : World} {p : Nat} {T N L G lm cu : Int} {sn : Bool} {x : Int} (h : Raw w p T N L G lm 3 cu sn) (hc : 0 ≤ cu ∧ cu < 18446744073709551616) {b : Bool} {n : Int} (hb : decide (x = SM.stI (genI cu) 2) = b) (hn : (if b = true then 0 else 4) = n) : Calls Tryd.prog 11 #[.pointer (some ⟨p, 0, none⟩), .int .u64 x] w fun e w' => e = .returned (.tuple #[]) ∧ Raw w' p T N L G lm n cu b ∧ Only (fun k => k = p) w w' := by
  obtain ⟨-, -, -, -, -, c_5, c_6, c_7⟩ := h.cells
  have f_7 := h.thawed 7
  have HGN := Lib.hid fun W => Refer.Gen_any cu hc.1 hc.2 W
  rw [show cu / 4294967296 = genI cu from rfl] at HGN
  have hg := ClM.gen_ok hc
  have HIS := Lib.hid (show ∀ W, Calls Tryd.prog 38 #[.int .u64 x, .int .u64 (genI cu), .int .i64 2] W fun e w' => e = .returned (.bool b) ∧ W = w' from fun W => by
    cases b with
    | true => exact State.Is_yes x (genI cu) 2 hg.1 ⟨by omega, by omega, by omega, of_decide_eq_true hb⟩ W
    | false => exact State.Is_no x (genI cu) 2 hg.1 (fun q => (of_decide_eq_false hb) q.2.2.2) W)
  generalize genI cu = g at HGN HIS
  have HO := Lib.hid (only_set w p 7 (.bool b))
  have HEN := Lib.hid (end_any (h.set_sn b) b 4 hn)
  have d_7 := (h.set_sn b).cells.2.2.2.2.2.2.2
  clear h hc hb hg hn
  go_enter Tryd.func11, Tryd.ntmps11
  go_wp2_with fail
  refine (HGN.out _).mono ?_
  rintro e w' ⟨rfl, rfl⟩
  go_wp2_with fail
  refine (HIS.out _).mono ?_
  rintro e w' ⟨rfl, rfl⟩
  go_wp2_with fail
  refine HEN.out.mono ?_
  rintro e w2 ⟨rfl, h2, o2⟩
  have HE := Lib.hid (And.intro h2 (HO.out.trans o2))
  clear h2 o2
  go_wp2
  exact bodyPost_end (results_none rfl _ _ _) rfl ⟨rfl, HE.out.1, HE.out.2⟩

/-- A step's number in the program. -/
def atO (st : Int) : Int := if st ≤ 1 then st else st - 1
/-- A scanner in block p. -/
def Scans (w : World) (p : Nat) (T N L G lm : Int) (s : ScM.St) : Prop := ScM.Ok s ∧ ∃ cu, Raw w p T N L G lm (atO s.st) cu s.sn ∧ (0 ≤ cu ∧ cu < 18446744073709551616) ∧ (¬ s.st = 0 → cu = s.cu)
section
variable {w w' : World} {p : Nat} {T N L G lm : Int} {s : ScM.St}
theorem Scans.only {R : Nat → Prop} (h : Scans w p T N L G lm s) (ho : Only R w w') (hp : ¬ R p) : Scans w' p T N L G lm s := by
  obtain ⟨h1, cu, h2, h3⟩ := h
  exact ⟨h1, cu, h2.only ho hp, h3⟩
theorem Scans.later (h : Scans w p T N L G lm s) (hb : Below w.heap.size w w') : Scans w' p T N L G lm s := h.only (only_below (fun _ => False) hb) id
theorem Scans.lt (h : Scans w p T N L G lm s) : p < w.heap.size := by
  obtain ⟨h1, cu, h2, -⟩ := h
  exact h2.lt
end
theorem Scan_next {w : World} {p : Nat} {T N L G lm : Int} {s : ScM.St} (h : Scans w p T N L G lm s) : Calls Tryd.prog 10 #[.pointer (some ⟨p, 0, none⟩)] w (Told w (scanA T L s)) := by
  obtain ⟨ho, cu, h1, h2, h3⟩ := h
  obtain ⟨st, c, sn⟩ := s
  have hs := ho.st
  simp only at h1 h3 hs
  rcases hs with rfl | rfl | rfl | rfl | rfl
  · rw [scanA_0]; exact next_0 h1 h2
  · rw [scanA_1]; exact next_1 h1 h2
  · obtain rfl := h3 (by simp)
    rw [scanA_3]; exact next_2 h1 h2
  · obtain rfl := h3 (by simp)
    rw [scanA_4]; exact next_3 h1 h2
  · obtain rfl := h3 (by simp)
    rw [scanA_5]; exact next_4 h1 h2
theorem Scan_tell {w : World} {p : Nat} {T N L G lm x : Int} {s : ScM.St} (h : Scans w p T N L G lm s) (hx : 0 ≤ x ∧ x < 18446744073709551616) : Calls Tryd.prog 11 #[.pointer (some ⟨p, 0, none⟩), .int .u64 x] w fun e w' => e = .returned (.tuple #[]) ∧ Scans w' p T N L G lm (scanT lm s x) ∧ Only (fun k => k = p) w w' := by
  obtain ⟨ho, cu, h1, h2, h3⟩ := h
  have hok := scanT_ok (limit := lm) ho hx
  have hpw := (plain_word hx).1
  obtain ⟨st, c, sn⟩ := s
  have hs := ho.st
  simp only at h1 h3 hs
  rcases hs with rfl | rfl | rfl | rfl | rfl
  · rw [scanT_0]
    refine (tell_0 h1).mono ?_
    rintro e w' ⟨rfl, rfl⟩
    exact ⟨rfl, ⟨ho, cu, h1, h2, h3⟩, Only.refl _ _⟩
  · rw [scanT_1] at hok ⊢
    by_cases q : idx x = 0
    · rw [arrive_done q] at hok ⊢
      exact (tell_1 h1 hx (decide_eq_true q) rfl).mono fun e w' ⟨e1, e2, e3⟩ => ⟨e1, ⟨hok, plainI x, e2, hpw, fun z => absurd rfl z⟩, e3⟩
    · rw [arrive_more q] at hok ⊢
      exact (tell_1 h1 hx (decide_eq_false q) rfl).mono fun e w' ⟨e1, e2, e3⟩ => ⟨e1, ⟨hok, plainI x, e2, hpw, fun _ => rfl⟩, e3⟩
  · obtain rfl := h3 (by simp)
    by_cases q : lm ≤ wrap64 x
    · rw [scanT_3s q] at hok ⊢
      exact (tell_2 h1 (decide_eq_true q) rfl).mono fun e w' ⟨e1, e2, e3⟩ => ⟨e1, ⟨hok, cu, e2, h2, fun z => absurd rfl z⟩, e3⟩
    · rw [scanT_3 q] at hok ⊢
      exact (tell_2 h1 (decide_eq_false q) rfl).mono fun e w' ⟨e1, e2, e3⟩ => ⟨e1, ⟨hok, cu, e2, h2, fun _ => rfl⟩, e3⟩
  · obtain rfl := h3 (by simp)
    have hsn : sn = false := ho.sn (by simp)
    subst hsn
    by_cases q : x = SM.stI (genI cu) 2
    · rw [scanT_4s q] at hok ⊢
      exact (tell_3 h1 h2 (decide_eq_true q) rfl).mono fun e w' ⟨e1, e2, e3⟩ => ⟨e1, ⟨hok, cu, e2, h2, fun z => absurd rfl z⟩, e3⟩
    · rw [scanT_4 q] at hok ⊢
      exact (tell_3 h1 h2 (decide_eq_false q) rfl).mono fun e w' ⟨e1, e2, e3⟩ => ⟨e1, ⟨hok, cu, e2, h2, fun _ => rfl⟩, e3⟩
  · rw [scanT_5] at hok ⊢
    by_cases q : idx x = 0
    · rw [arrive_done q] at hok ⊢
      exact (tell_4 h1 hx (decide_eq_true q) rfl).mono fun e w' ⟨e1, e2, e3⟩ => ⟨e1, ⟨hok, plainI x, e2, hpw, fun z => absurd rfl z⟩, e3⟩
    · rw [arrive_more q] at hok ⊢
      exact (tell_4 h1 hx (decide_eq_false q) rfl).mono fun e w' ⟨e1, e2, e3⟩ => ⟨e1, ⟨hok, plainI x, e2, hpw, fun _ => rfl⟩, e3⟩
theorem Seen_any {w : World} {p : Nat} {T N L G lm : Int} {s : ScM.St} (h : Scans w p T N L G lm s) : Calls Tryd.prog 19 #[.pointer (some ⟨p, 0, none⟩)] w fun e w' => e = .returned (.bool s.sn) ∧ w = w' := by
  obtain ⟨ho, cu, h1, h2, h3⟩ := h
  have c_7 := h1.cells.2.2.2.2.2.2.2
  generalize s.sn = b at c_7 ⊢
  clear ho h1 h2 h3
  go_enter Tryd.func19, Tryd.ntmps19
  go_wp2
  go_ret
  exact ⟨rfl, rfl⟩
theorem Seen_cell {w : World} {p : Nat} {b : Bool} (c_7 : w.cell? ⟨p, 7, none⟩ = some (.bool b)) : Calls Tryd.prog 19 #[.pointer (some ⟨p, 0, none⟩)] w fun e w' => e = .returned (.bool b) ∧ w = w' := by
  go_enter Tryd.func19, Tryd.ntmps19
  go_wp2
  go_ret
  exact ⟨rfl, rfl⟩
theorem Scan_any (T N L G lm : Int) (w : World) : Calls Tryd.prog 9 #[.agg #[.int .i64 T, .int .i64 N, .int .i64 L, .int .u64 G], .int .i64 lm] w fun e w' => ∃ p, e = .returned (.pointer (some ⟨p, 0, none⟩)) ∧ Scans w' p T N L G lm ScM.start ∧ w.heap.size ≤ p ∧ Below w.heap.size w w' := by
  obtain ⟨c_0, c_1, c_2, c_3⟩ := box4 w (.int .i64 T) (.int .i64 N) (.int .i64 L) (.int .u64 G) 24
  have HB := Lib.hid (box_below w (.cells #[.int .i64 T, .int .i64 N, .int .i64 L, .int .u64 G] 24))
  have HE := Lib.hid (new_heap (w.alloc (.cells #[.int .i64 T, .int .i64 N, .int .i64 L, .int .u64 G] 24)) (.cells #[.int .i64 T, .int .i64 N, .int .i64 L, .int .u64 G, .int .i64 lm, .int .i64 1, .int .u64 0, .bool false] 62))
  go_enter Tryd.func9, Tryd.ntmps9
  go_wp2
  go_ret
  refine ⟨w.heap.size + 1, rfl, ⟨start_ok, 0, ?_, ⟨by decide, by decide⟩, fun _ => rfl⟩, by omega, HB.out.trans ((box_below _ _).mono HB.out.size)⟩
  have h := HE.out
  rw [World.size_alloc] at h
  exact h
end Go.Proofs.YtlegknboccbdpaaDoor.Scn
