import Derived.Test.YtlagghghbpbcbaaGreatDoorRows
import Derived.Test.YtlagghghbpbcbaaGreatDoorStartComesAllP8
import Derived.Test.YtlagghghbpbcbaaGreatDoorStartComesAllP1
import Derived.WalkKit
import Derived.ProofKit
import Derived.Lib.Hide
import Derived.Deep.RegionHeld3
/- The functions of package cells (layer 6), each held to a plain list of words: what each call tells, and what stands in the memory behind it; all else in memory stays as it was. -/
namespace Go.Proofs.YtlagghghbpbcbaaGreatDoor.Cells
set_option maxRecDepth 20000
open Go.ChangeShapes Go.WideShapes Go.RowKit CM Lay Ints

theorem ret_i64 {a b : Int} (h : a = b) : Ending.returned (.int .i64 a) = .returned (.int .i64 b) := by rw [h]
theorem ret_u64 {a b : Int} (h : a = b) : Ending.returned (.int .u64 a) = .returned (.int .u64 b) := by rw [h]
theorem ret_bool {a b : Bool} (h : a = b) : Ending.returned (.bool a) = .returned (.bool b) := by rw [h]
theorem mixed : Tryz.prog.follows .mixedOrders = true := by kernel_rfl

/-! Worlds in which all but one block has stayed. -/
theorem grown_refl (w : World) (r : Option Nat) : w.grownBy w r := ⟨rfl, rfl, rfl, Nat.le_refl _, fun _ _ _ => rfl⟩
theorem grown_trans {a b c : World} {r : Option Nat} (h : a.grownBy b r) (k : b.grownBy c r) : a.grownBy c r :=
  ⟨k.os.trans h.os, k.tape.trans h.tape, k.output.trans h.output, Nat.le_trans h.size k.size, fun i hi hr => (k.block i (Nat.lt_of_lt_of_le hi h.size) hr).trans (h.block i hi hr)⟩
theorem grown_below {w w' : World} (r : Option Nat) (h : Below w.heap.size w w') : w.grownBy w' r := ⟨h.os, h.tape, h.output, h.size, fun k hk _ => h.block k hk⟩
theorem grown_setCell (w : World) (h j : Nat) (v : Value) : w.grownBy (w.setCell ⟨h, j, none⟩ v) (some h) :=
  ⟨rfl, rfl, rfl, by simp [World.setCell], fun k _ hr => Below.heap_setCell _ _ _ _ (fun e => hr (by rw [e]))⟩
theorem below_of_grown {B h : Nat} {a w w' : World} (hb : Below B a w) (hg : w.grownBy w' (some h)) (hB : B ≤ w.heap.size) (hh : B ≤ h) : Below B a w' :=
  hb.grown hg hB fun k hk => by cases hk; exact hh
theorem row_grown {w w' : World} {h : Nat} {A : Option Addr} {xs : List Value} (hR : Row w w.heap.size A xs) (hg : w.grownBy w' (some h)) (hA : xs ≠ [] → ∀ a, A = some a → a.block ≠ h) : Row w' w'.heap.size A xs := fun hn => by
  obtain ⟨b, o, e, hb, hc⟩ := hR hn
  have hne : b ≠ h := hA hn _ e
  refine ⟨b, o, e, Nat.lt_of_lt_of_le hb hg.size, fun j v hv => ?_⟩
  rw [World.cell?_of_block (w := w) (hg.block b hb (fun e => hne (by simpa using e)))]
  exact hc j v hv
theorem row_new (w : World) (cs : Array Value) (t : TypeId) : Row (w.alloc (.cells cs t)) (w.alloc (.cells cs t)).heap.size (some ⟨w.heap.size, 0, none⟩) cs.toList := fun _ =>
  ⟨w.heap.size, 0, rfl, by simp, fun j v hv => by rw [Nat.zero_add, cell_of_row _ _ _ _ _ _ (heap_alloc_new w _)]; simpa using hv⟩
theorem own_of_whole {w : World} {base g n : Nat} {e : TypeId} {cs : List Value} (hg : w.heap[g]? = some (.cells cs.toArray e (0, 0))) (hb : base ≤ g) (hn : cs.length = n) (hm : n ≤ maxLen) :
    w.ownsRow base e 1 (.slice (some ⟨g, 0, none⟩) n n) n cs :=
  ⟨by omega, .inr ⟨g, n, cs.toArray, rfl, hb, hg, Nat.le_refl _, hm, by simpa using hn, by rw [List.take_of_length_le (by simp; omega)]⟩⟩

/-- A memory: a struct in block p that holds a row of the words, the whole of block h. -/
def Mem (w : World) (p h n : Nat) (l : List Int) : Prop :=
  p ≠ h ∧ n = l.length ∧ n ≤ 4096 ∧ w.cell? ⟨p, 0, none⟩ = some (.slice (some ⟨h, 0, none⟩) n n) ∧ w.ownsRow 0 22 1 (.slice (some ⟨h, 0, none⟩) n n) n (flat (encZ .u64) l)

theorem Mem.len {w : World} {p h n : Nat} {l : List Int} (hM : Mem w p h n l) : n = l.length := hM.2.1
theorem Mem.most {w : World} {p h n : Nat} {l : List Int} (hM : Mem w p h n l) : n ≤ 4096 := hM.2.2.1
theorem Mem.box {w : World} {p h n : Nat} {l : List Int} (hM : Mem w p h n l) : w.cell? ⟨p, 0, none⟩ = some (.slice (some ⟨h, 0, none⟩) n n) := hM.2.2.2.1
theorem Mem.own {w : World} {p h n : Nat} {l : List Int} (hM : Mem w p h n l) : w.ownsRow 0 22 1 (.slice (some ⟨h, 0, none⟩) n n) n (flat (encZ .u64) l) := hM.2.2.2.2
theorem Mem.row {w : World} {p h n : Nat} {l : List Int} (hM : Mem w p h n l) : Row w w.heap.size (some ⟨h, 0, none⟩) (flat (encZ .u64) l) := Row.of_own hM.own
theorem Mem.lt {w : World} {p h n : Nat} {l : List Int} (hM : Mem w p h n l) : p < w.heap.size ∧ h < w.heap.size :=
  ⟨World.block_lt_of_cell? _ _ hM.box, (hM.own.lt h rfl).2⟩
theorem Mem.grown {w w' : World} {p h n r : Nat} {l : List Int} (hM : Mem w p h n l) (hg : w.grownBy w' (some r)) (hp : p ≠ r) (hh : h ≠ r) : Mem w' p h n l :=
  ⟨hM.1, hM.len, hM.most, hg.cell hM.box (by simpa using hp), hM.own.kept hg (Or.inr (by simpa [Value.ownBlock] using hh))⟩
theorem Mem.later {w w' : World} {p h n : Nat} {l : List Int} (hM : Mem w p h n l) (hb : Below w.heap.size w w') : Mem w' p h n l :=
  ⟨hM.1, hM.len, hM.most, cell_later hb hM.box, own_later hM.own hb⟩
theorem Mem.stored {w : World} {p h n : Nat} {l : List Int} (hM : Mem w p h n l) (j : Nat) (v : Int) : Mem (w.setCell ⟨h, j, none⟩ (.int .u64 v)) p h n (l.set j v) :=
  ⟨hM.1, by simpa using hM.len, hM.most, (grown_setCell w h j _).cell hM.box (by simpa using hM.1), own_int_set hM.own j v⟩
theorem Mem.made {w : World} {h n : Nat} {l : List Int} {base : Nat} {t : TypeId} (hw : w.ownsRow base 22 1 (.slice (some ⟨h, 0, none⟩) n n) n (flat (encZ .u64) l)) (hn : n = l.length) (hm : n ≤ 4096) :
    Mem (w.alloc (.cells #[.slice (some ⟨h, 0, none⟩) n n] t)) w.heap.size h n l := by
  refine ⟨?_, hn, hm, ?_, ?_⟩
  · have := (hw.lt h rfl).2
    omega
  · rw [cell_of_row _ _ _ _ _ _ (heap_alloc_new w _)]
    rfl
  · have h1 := hw.alloc (.cells #[.slice (some ⟨h, 0, none⟩) n n] t)
    refine ⟨h1.1, ?_⟩
    rcases h1.2 with h2 | ⟨g, cap, cur, hv, _, r⟩
    · exact .inl h2
    · exact .inr ⟨g, cap, cur, hv, Nat.zero_le _, r⟩
/-- What stands at a place that there is. -/
theorem Mem.word {w : World} {p h n : Nat} {l : List Int} (hM : Mem w p h n l) {j : Nat} (hj : j < n) : w.cell? ⟨h, j, none⟩ = some (.int .u64 (getI l (j : Int))) ∧ w.frozen? ⟨h, j, none⟩ = false := by
  have hx := List.getElem?_eq_getElem (show j < l.length by rw [← hM.len]; exact hj)
  have := own_int_at hM.own hM.len hx
  rwa [← getI_some hx] at this

theorem Len_any {p h n : Nat} {l : List Int} {w : World} (hM : Mem w p h n l) : Calls Tryz.prog 101 #[.pointer (some ⟨p, 0, none⟩)] w fun e w' => e = .returned (.int .i64 n) ∧ w = w' := by
  have c0 := hM.box
  have hm := hM.most
  clear hM
  go_enter Tryz.func101, Tryz.ntmps101
  go_wp2
  go_ret
  exact ⟨rfl, rfl⟩
theorem has_yes {p h n : Nat} {l : List Int} {w : World} (hM : Mem w p h n l) {j : Nat} (hj : j < n) : Calls Tryz.prog 71 #[.pointer (some ⟨p, 0, none⟩), .int .i64 j] w fun e w' => e = .returned (.bool true) ∧ w = w' := by
  go_enter Tryz.func71, Tryz.ntmps71
  go_wp2_with fail
  refine (Len_any hM).mono ?_
  rintro e w' ⟨rfl, rfl⟩
  go_wp2
  go_ret
  exact ⟨rfl, rfl⟩
theorem has_no {p h n : Nat} {l : List Int} {w : World} (hM : Mem w p h n l) {i : Int} (hi : ¬ there l i) : Calls Tryz.prog 71 #[.pointer (some ⟨p, 0, none⟩), .int .i64 i] w fun e w' => e = .returned (.bool false) ∧ w = w' := by
  have hn := hM.len
  unfold there at hi
  have HM := Lib.hid hM
  by_cases h0 : 0 ≤ i
  · have h1 : ¬ i < (n : Int) := by omega
    clear hi hM hn
    go_enter Tryz.func71, Tryz.ntmps71
    go_wp2_with fail
    refine (Len_any HM.out).mono ?_
    rintro e w' ⟨rfl, rfl⟩
    go_wp2
    go_ret
    exact ⟨by simp <;> omega, rfl⟩
  · clear hi hM hn
    go_enter Tryz.func71, Tryz.ntmps71
    go_wp2
    go_ret
    exact ⟨rfl, rfl⟩
theorem Load_any {p h n : Nat} {l : List Int} {w : World} (hM : Mem w p h n l) (i : Int) : Calls Tryz.prog 40 #[.pointer (some ⟨p, 0, none⟩), .int .i64 i] w fun e w' => e = .returned (.int .u64 (getI l i)) ∧ w = w' := by
  by_cases hi : there l i
  · obtain ⟨j, rfl, hj⟩ := there_nat hi
    have hjn : j < n := by rw [hM.len]; exact hj
    obtain ⟨c1, _⟩ := hM.word hjn
    have c0 := hM.box
    have HM := Lib.hid hM
    generalize getI l (j : Int) = x at c1 ⊢
    clear hM hi hj
    go_enter Tryz.func40, Tryz.ntmps40
    go_wp2_with fail
    refine (has_yes HM.out hjn).mono ?_
    rintro e w' ⟨rfl, rfl⟩
    go_wp2
    go_ret
    exact ⟨rfl, rfl⟩
  · rw [getI_out hi]
    have HM := Lib.hid hM
    have HI := Lib.hid hi
    clear hM hi
    go_enter Tryz.func40, Tryz.ntmps40
    go_wp2_with fail
    refine (has_no HM.out HI.out).mono ?_
    rintro e w' ⟨rfl, rfl⟩
    go_wp2
    go_ret
    exact ⟨rfl, rfl⟩
theorem put_any {p h n : Nat} {l : List Int} {w : World} (hM : Mem w p h n l) (i v : Int) : Calls Tryz.prog 76 #[.pointer (some ⟨p, 0, none⟩), .int .i64 i, .int .u64 v] w fun e w' => e = .returned (.tuple #[]) ∧ w.grownBy w' (some h) ∧ Mem w' p h n (setI l i v) := by
  by_cases hi : there l i
  · obtain ⟨j, rfl, hj⟩ := there_nat hi
    have hjn : j < n := by rw [hM.len]; exact hj
    obtain ⟨c1, c2⟩ := hM.word hjn
    have c0 := hM.box
    rw [setI_in hj]
    have HM := Lib.hid hM
    generalize getI l (j : Int) = x at c1
    clear hM hi hj
    go_enter Tryz.func76, Tryz.ntmps76
    go_wp2_with fail
    refine (has_yes HM.out hjn).mono ?_
    rintro e w' ⟨rfl, rfl⟩
    go_wp2
    refine bodyPost_end (results_none rfl _ _ _) rfl ?_
    exact ⟨rfl, grown_setCell _ _ _ _, HM.out.stored j v⟩
  · rw [setI_out hi]
    have HM := Lib.hid hM
    have HI := Lib.hid hi
    clear hM hi
    go_enter Tryz.func76, Tryz.ntmps76
    go_wp2_with fail
    refine (has_no HM.out HI.out).mono ?_
    rintro e w' ⟨rfl, rfl⟩
    go_wp2
    refine bodyPost_end (results_none rfl _ _ _) rfl ?_
    exact ⟨rfl, grown_refl _ _, HM.out⟩
/-- What an access that stores ends in. -/
def Does (w : World) (p h n : Nat) (f : Int) (l : List Int) (e : Ending) (w' : World) : Prop := e = .returned (.int .u64 f) ∧ w.grownBy w' (some h) ∧ Mem w' p h n l

theorem Store_any {p h n : Nat} {l : List Int} {w : World} (hM : Mem w p h n l) (i v : Int) : Calls Tryz.prog 55 #[.pointer (some ⟨p, 0, none⟩), .int .i64 i, .int .u64 v] w (Does w p h n (getI l i) (setI l i v)) := by
  have HM := Lib.hid hM
  clear hM
  have HC := Lib.hid fun w (hM : Mem w p h n l) => Load_any hM i
  generalize getI l i = x at HC ⊢
  go_enter Tryz.func55, Tryz.ntmps55
  go_wp2_with fail
  refine (HC.out _ HM.out).mono ?_
  rintro e w' ⟨rfl, rfl⟩
  go_wp2_with fail
  refine (put_any HM.out i v).mono ?_
  rintro e w' ⟨rfl, hg, hm⟩
  go_wp2
  go_ret
  exact ⟨rfl, hg, hm⟩
theorem Swap_any {p h n : Nat} {l : List Int} {w : World} (hM : Mem w p h n l) (i a v : Int) : Calls Tryz.prog 93 #[.pointer (some ⟨p, 0, none⟩), .int .i64 i, .int .u64 a, .int .u64 v] w (Does w p h n (getI l i) (swapI l i a v)) := by
  have HM := Lib.hid hM
  clear hM
  unfold swapI
  have HC := Lib.hid fun w (hM : Mem w p h n l) => Load_any hM i
  generalize getI l i = x at HC ⊢
  by_cases ha : x = a
  · rw [if_pos ha]
    subst ha
    go_enter Tryz.func93, Tryz.ntmps93
    go_wp2_with fail
    refine (HC.out _ HM.out).mono ?_
    rintro e w' ⟨rfl, rfl⟩
    go_wp2_with fail
    refine (put_any HM.out i v).mono ?_
    rintro e w' ⟨rfl, hg, hm⟩
    go_wp2
    go_ret
    exact ⟨rfl, hg, hm⟩
  · rw [if_neg ha]
    have h2 : (x == a) = false := by simpa using ha
    go_enter Tryz.func93, Tryz.ntmps93
    go_wp2_with fail
    refine (HC.out _ HM.out).mono ?_
    rintro e w' ⟨rfl, rfl⟩
    go_wp2
    go_ret
    exact ⟨rfl, grown_refl _ _, HM.out⟩
theorem Add_any {p h n : Nat} {l : List Int} {w : World} (hM : Mem w p h n l) (i a : Int) : Calls Tryz.prog 97 #[.pointer (some ⟨p, 0, none⟩), .int .i64 i, .int .u64 a] w (Does w p h n (getI l i) (addI l i a)) := by
  have HM := Lib.hid hM
  clear hM
  unfold addI
  have HC := Lib.hid fun w (hM : Mem w p h n l) => Load_any hM i
  generalize getI l i = x at HC ⊢
  go_enter Tryz.func97, Tryz.ntmps97
  go_wp2_with fail
  refine (HC.out _ HM.out).mono ?_
  rintro e w' ⟨rfl, rfl⟩
  go_wp2_with fail
  refine (put_any HM.out i ((x + a) % 18446744073709551616)).mono ?_
  rintro e w' ⟨rfl, hg, hm⟩
  go_wp2
  go_ret
  exact ⟨rfl, hg, hm⟩
theorem infoWord : (Tryz.prog.info? 22).map (fun i => (i.zero, i.size, i.bytes)) = some (some (.int .u64 0), 1, 8) := by kernel_rfl
theorem sizeWord : (Tryz.prog.info? 22).map (·.size) = some 1 := by kernel_rfl
/-- A new row of the words, the whole of a new block. -/
def Told (w : World) (n : Nat) (l : List Int) (e : Ending) (w' : World) : Prop :=
  e = .returned (.slice (some ⟨w.heap.size, 0, none⟩) n n) ∧ w'.ownsRow w.heap.size 22 1 (.slice (some ⟨w.heap.size, 0, none⟩) n n) n (flat (encZ .u64) l) ∧ Below w.heap.size w w'
set_option maxHeartbeats 400000 in
theorem copied_any {A : Option Addr} {n c : Nat} {l : List Int} {w : World} (hR : Row w w.heap.size A (flat (encZ .u64) l)) (hn : n = l.length) (hl : n ≤ 1000000) : Calls Tryz.prog 37 #[.slice A n c] w (Told w n l) := by
  have HN := Lib.hid hn
  have HR := Lib.hid hR
  have HCL := Lib.hid (show (flat (encZ .u64) l).length = n by rw [flat_ints_length, ← hn])
  clear hn hR
  obtain ⟨i0, hi, hz0, hz1, hz2⟩ := info_parts infoWord
  go_enter Tryz.func37, Tryz.ntmps37
  go_wp2_with (first
    | (at_make; refine wpList_make_full _ rfl (.tmp 5) (.tmp 5) 30 rfl w.heap.size 22 i0 _ 1 Tryz.underlying30 hi hz0 hz1 _ _ _ _ n rfl rfl rfl rfl (by rw [hz2]; omega) (by simp only [maxLen]; omega) (Nat.le_refl _) ?_; intro w1 hown hg1; have hb1 : Below w.heap.size w w1 := (Below.refl _ _).grown hg1 (Nat.le_refl _) (fun k hk => by cases hk); have HO := Lib.hid (own_whole hown); clear hown hg1)
    | ((fail_if_success (fail_if_success (with_reducible refine wpList_plain (o := ⟨some 9, _, _, _, _, _⟩) rfl ?_))); refine wpList_copy_whole (o := ⟨some 9, _, _, _, _, _⟩) rfl (.tmp 7) (.tmp 8) 30 30 rfl 22 1 Tryz.underlying30 sizeWord w.heap.size n n A c rfl rfl _ 22 HO.out (flat (encZ .u64) l) (by rw [List.size_toArray, Array.length_toList, size_madeCells]) (by rw [HCL.out, Nat.mul_one]) w.heap.size (HR.out.below hb1) (flat_oneCell (encZ_one _) l) ?_; intro w2 hg2 hgr2; have hb2 : Below w.heap.size w w2 := hb1.grown hgr2 hb1.size (fun k hk => by cases hk; exact Nat.le_refl _); clear hgr2))
  go_wp2
  go_ret
  exact ⟨rfl, own_of_whole hg2.out (Nat.le_refl _) HCL.out (by simp only [maxLen]; omega), hb2⟩

theorem Words_any {p h n : Nat} {l : List Int} {w : World} (hM : Mem w p h n l) : Calls Tryz.prog 13 #[.pointer (some ⟨p, 0, none⟩)] w (Told w n l) := by
  have c0 := hM.box
  have hm := hM.most
  have HM := Lib.hid hM
  clear hM
  go_enter Tryz.func13, Tryz.ntmps13
  go_wp2_with fail
  refine (copied_any HM.out.row HM.out.len (Nat.le_trans HM.out.most (by decide))).mono ?_
  rintro e w' ⟨rfl, hw, hb⟩
  go_wp2
  go_ret
  exact ⟨rfl, hw, hb⟩
/-- A new memory of the words. -/
def Makes (w : World) (n : Nat) (l : List Int) (w' : World) (p h : Nat) : Prop := Mem w' p h n l ∧ w.heap.size ≤ p ∧ w.heap.size ≤ h ∧ Below w.heap.size w w'
theorem makes_of {w w1 : World} {n : Nat} {l : List Int} {t : TypeId} (hw : w1.ownsRow w.heap.size 22 1 (.slice (some ⟨w.heap.size, 0, none⟩) n n) n (flat (encZ .u64) l)) (hb : Below w.heap.size w w1) (hn : n = l.length) (hm : n ≤ 4096) :
    Makes w n l (w1.alloc (.cells #[.slice (some ⟨w.heap.size, 0, none⟩) n n] t)) w1.heap.size w.heap.size :=
  ⟨Mem.made hw hn hm, hb.size, Nat.le_refl _, hb.alloc hb.size _⟩

theorem Of_any {A : Option Addr} {n c : Nat} {l : List Int} {w : World} (hR : Row w w.heap.size A (flat (encZ .u64) l)) (hn : n = l.length) (hl : n ≤ 4096) : Calls Tryz.prog 8 #[.slice A n c] w fun e w' => ∃ p h, e = .returned (.tuple #[.pointer (some ⟨p, 0, none⟩), .int .i64 0]) ∧ Makes w n l w' p h := by
  have HN := Lib.hid hn
  have HR := Lib.hid hR
  clear hn hR
  go_enter Tryz.func8, Tryz.ntmps8
  go_wp2_with fail
  refine (copied_any HR.out HN.out (Nat.le_trans hl (by decide))).mono ?_
  rintro e w' ⟨rfl, hw, hb⟩
  have HW := Lib.hid hw
  clear hw
  go_wp2
  go_ret2
  exact ⟨_, _, rfl, makes_of HW.out hb HN.out hl⟩
theorem infoWord2 : (Tryz.prog.info? 22).map (fun i => (i.zero, i.size, i.bytes)) = some (some (.int .u64 0), 1, 8) := by kernel_rfl
set_option maxRecDepth 4000 in
theorem New_any {n : Nat} (hl : n ≤ 4096) (w : World) : Calls Tryz.prog 53 #[.int .i64 n] w fun e w' => ∃ p h, e = .returned (.tuple #[.pointer (some ⟨p, 0, none⟩), .int .i64 0]) ∧ Makes w n (List.replicate n 0) w' p h := by
  obtain ⟨i0, hi, hz0, hz1, hz2⟩ := info_parts infoWord2
  go_enter Tryz.func53, Tryz.ntmps53
  go_wp2_with (at_make; refine wpList_make_full _ rfl (.tmp 10) (.tmp 10) 30 rfl w.heap.size 22 i0 _ 1 Tryz.underlying30 hi hz0 hz1 _ _ _ _ n rfl rfl rfl rfl (by rw [hz2]; omega) (by simp only [maxLen]; omega) (Nat.le_refl _) ?_; intro w1 hown hg1; have hb1 : Below w.heap.size w w1 := (Below.refl _ _).grown hg1 (Nat.le_refl _) (fun k hk => by cases hk); rw [made_ints] at hown; have HO := Lib.hid hown; clear hown hg1)
  go_ret2
  exact ⟨_, _, rfl, makes_of HO.out hb1 (by simp) hl⟩
end Go.Proofs.YtlagghghbpbcbaaGreatDoor.Cells

/- The document's answers for layer 6 (package sundialref06), held to the same plain lists of words. -/
namespace Go.Proofs.YtlagghghbpbcbaaGreatDoor.CellsRef
set_option maxRecDepth 20000
open Go.ChangeShapes Go.WideShapes Go.RowKit CM Lay Ints Cells








end Go.Proofs.YtlagghghbpbcbaaGreatDoor.CellsRef
