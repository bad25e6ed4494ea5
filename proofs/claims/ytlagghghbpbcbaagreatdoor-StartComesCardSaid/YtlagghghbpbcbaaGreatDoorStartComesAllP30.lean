import Derived.Test.YtlagghghbpbcbaaGreatDoorStartComesAllP4
import Derived.Test.YtlagghghbpbcbaaGreatDoorStartComesAllP12
import Derived.Test.YtlagghghbpbcbaaGreatDoorStartComesAllP5
import Derived.Test.YtlagghghbpbcbaaGreatDoorStartComesAllP6
import Derived.Test.YtlagghghbpbcbaaGreatDoorStartComesAllP16
import Derived.Deep.RegionHeld3
import Derived.Deep.RegionWith
/- Package mint (layer 19), held to plain arithmetic: what a maker asks for, what it becomes, and its timer; all else in memory stays as it was. -/
namespace Go.Proofs.YtlagghghbpbcbaaGreatDoor.Mint
set_option maxRecDepth 20000
open Go.ChangeShapes Go.WideShapes Go.RowKit CM DM PM MiM Lay Plan Go.Proofs.YtlagghghbpbcbaaGreatDoor.Task
set_option linter.unusedVariables false
set_option linter.unusedSimpArgs false

/-- What a task is asked for. -/
def ToldD (w : World) (d : D) (more : Bool) (e : Ending) (w' : World) : Prop :=
  e = .returned (.tuple #[.agg #[.int .i64 d.1, .int .i64 d.2.1, .int .u64 d.2.2.1, .int .u64 d.2.2.2.1, .int .u64 d.2.2.2.2], .bool more]) ∧ Below w.heap.size w w'
def Told (w : World) (x : Option D) : Ending → World → Prop := ToldD w (x.getD (0, 0, 0, 0, 0)) x.isSome

/-- A maker in block p, word by word. -/
def Raw (w : World) (p : Nat) (a0 a1 a2 a3 a4 i dl dw tw sa b3 sd b4 b5 b6 lf rf sq : Int) : Prop := w.heap[p]? = some (.cells #[.int .i64 1, .int .i64 a0, .int .u64 0, .int .u64 0, .int .u64 0, .int .i64 2, .int .i64 a0, .int .u64 sa, .int .u64 0, .int .u64 0, .int .i64 4, .int .i64 2, .int .u64 1, .int .u64 0, .int .u64 0, .int .i64 2, .int .i64 a1, .int .u64 dw, .int .u64 0, .int .u64 b3, .int .i64 2, .int .i64 a2, .int .u64 sd, .int .u64 0, .int .u64 b4, .int .i64 2, .int .i64 a3, .int .u64 tw, .int .u64 0, .int .u64 b5, .int .i64 2, .int .i64 a4, .int .u64 2, .int .u64 0, .int .u64 b6, .int .i64 lf, .int .i64 i, .int .u64 rf, .int .i64 dl, .int .u64 sq] 150 (0, 0))
section
variable {w w' : World} {p : Nat} {a0 a1 a2 a3 a4 i dl dw tw sa b3 sd b4 b5 b6 lf rf sq : Int}
theorem Raw.lt (h : Raw w p a0 a1 a2 a3 a4 i dl dw tw sa b3 sd b4 b5 b6 lf rf sq) : p < w.heap.size := (Array.getElem?_eq_some_iff.1 h).1
theorem Raw.only {R : Nat → Prop} (h : Raw w p a0 a1 a2 a3 a4 i dl dw tw sa b3 sd b4 b5 b6 lf rf sq) (ho : Only R w w') (hp : ¬ R p) : Raw w' p a0 a1 a2 a3 a4 i dl dw tw sa b3 sd b4 b5 b6 lf rf sq := ho.heap h hp
theorem Raw.cell (h : Raw w p a0 a1 a2 a3 a4 i dl dw tw sa b3 sd b4 b5 b6 lf rf sq) (j : Nat) : w.cell? ⟨p, j, none⟩ = (#[.int .i64 1, .int .i64 a0, .int .u64 0, .int .u64 0, .int .u64 0, .int .i64 2, .int .i64 a0, .int .u64 sa, .int .u64 0, .int .u64 0, .int .i64 4, .int .i64 2, .int .u64 1, .int .u64 0, .int .u64 0, .int .i64 2, .int .i64 a1, .int .u64 dw, .int .u64 0, .int .u64 b3, .int .i64 2, .int .i64 a2, .int .u64 sd, .int .u64 0, .int .u64 b4, .int .i64 2, .int .i64 a3, .int .u64 tw, .int .u64 0, .int .u64 b5, .int .i64 2, .int .i64 a4, .int .u64 2, .int .u64 0, .int .u64 b6, .int .i64 lf, .int .i64 i, .int .u64 rf, .int .i64 dl, .int .u64 sq] : Array Value)[j]? := (cell_heap h j).1
theorem Raw.thawed (h : Raw w p a0 a1 a2 a3 a4 i dl dw tw sa b3 sd b4 b5 b6 lf rf sq) (j : Nat) : w.frozen? ⟨p, j, none⟩ = false := (cell_heap h j).2
theorem Raw.set_sa (h : Raw w p a0 a1 a2 a3 a4 i dl dw tw sa b3 sd b4 b5 b6 lf rf sq) (v : Int) : Raw (w.setCell ⟨p, 7, none⟩ (.int .u64 v)) p a0 a1 a2 a3 a4 i dl dw tw v b3 sd b4 b5 b6 lf rf sq := set_heap (j := 7) h (.int .u64 v)
theorem Raw.set_b3 (h : Raw w p a0 a1 a2 a3 a4 i dl dw tw sa b3 sd b4 b5 b6 lf rf sq) (v : Int) : Raw (w.setCell ⟨p, 19, none⟩ (.int .u64 v)) p a0 a1 a2 a3 a4 i dl dw tw sa v sd b4 b5 b6 lf rf sq := set_heap (j := 19) h (.int .u64 v)
theorem Raw.set_sd (h : Raw w p a0 a1 a2 a3 a4 i dl dw tw sa b3 sd b4 b5 b6 lf rf sq) (v : Int) : Raw (w.setCell ⟨p, 22, none⟩ (.int .u64 v)) p a0 a1 a2 a3 a4 i dl dw tw sa b3 v b4 b5 b6 lf rf sq := set_heap (j := 22) h (.int .u64 v)
theorem Raw.set_b4 (h : Raw w p a0 a1 a2 a3 a4 i dl dw tw sa b3 sd b4 b5 b6 lf rf sq) (v : Int) : Raw (w.setCell ⟨p, 24, none⟩ (.int .u64 v)) p a0 a1 a2 a3 a4 i dl dw tw sa b3 sd v b5 b6 lf rf sq := set_heap (j := 24) h (.int .u64 v)
theorem Raw.set_b5 (h : Raw w p a0 a1 a2 a3 a4 i dl dw tw sa b3 sd b4 b5 b6 lf rf sq) (v : Int) : Raw (w.setCell ⟨p, 29, none⟩ (.int .u64 v)) p a0 a1 a2 a3 a4 i dl dw tw sa b3 sd b4 v b6 lf rf sq := set_heap (j := 29) h (.int .u64 v)
theorem Raw.set_b6 (h : Raw w p a0 a1 a2 a3 a4 i dl dw tw sa b3 sd b4 b5 b6 lf rf sq) (v : Int) : Raw (w.setCell ⟨p, 34, none⟩ (.int .u64 v)) p a0 a1 a2 a3 a4 i dl dw tw sa b3 sd b4 b5 v lf rf sq := set_heap (j := 34) h (.int .u64 v)
theorem Raw.set_lf (h : Raw w p a0 a1 a2 a3 a4 i dl dw tw sa b3 sd b4 b5 b6 lf rf sq) (v : Int) : Raw (w.setCell ⟨p, 35, none⟩ (.int .i64 v)) p a0 a1 a2 a3 a4 i dl dw tw sa b3 sd b4 b5 b6 v rf sq := set_heap (j := 35) h (.int .i64 v)
theorem Raw.set_rf (h : Raw w p a0 a1 a2 a3 a4 i dl dw tw sa b3 sd b4 b5 b6 lf rf sq) (v : Int) : Raw (w.setCell ⟨p, 37, none⟩ (.int .u64 v)) p a0 a1 a2 a3 a4 i dl dw tw sa b3 sd b4 b5 b6 lf v sq := set_heap (j := 37) h (.int .u64 v)
theorem Raw.set_sq (h : Raw w p a0 a1 a2 a3 a4 i dl dw tw sa b3 sd b4 b5 b6 lf rf sq) (v : Int) : Raw (w.setCell ⟨p, 39, none⟩ (.int .u64 v)) p a0 a1 a2 a3 a4 i dl dw tw sa b3 sd b4 b5 b6 lf rf v := set_heap (j := 39) h (.int .u64 v)
end
theorem only_set (w : World) (p j : Nat) (v : Value) : Only (fun k => k = p) w (w.setCell ⟨p, j, none⟩ v) := only_setCell (R := fun k => k = p) w (p := ⟨p, j, none⟩) rfl v

/-- A maker in block p: T and L are the plan's numbers, i the slot, dl the deadline, dw and tw the deadline and the height as words. -/
def Makes (w : World) (p : Nat) (T L i dl dw tw : Int) (s : St) : Prop := Raw w p (atI T L i 0) (atI T L i 1) (atI T L i 2) (atI T L i 3) (atI T L i 4) i dl dw tw s.sa s.r s.sq s.r s.r s.r (7 - (s.k : Int)) s.r s.sq ∧ Ok s
theorem Makes.lt {w : World} {p : Nat} {T L i dl dw tw : Int} {s : St} (h : Makes w p T L i dl dw tw s) : p < w.heap.size := Raw.lt h.1
theorem Makes.only {w w' : World} {p : Nat} {T L i dl dw tw : Int} {s : St} {R : Nat → Prop} (h : Makes w p T L i dl dw tw s) (ho : Only R w w') (hp : ¬ R p) : Makes w' p T L i dl dw tw s := ⟨Raw.only h.1 ho hp, h.2⟩

theorem done_no {p : Nat} {w : World} {n : Int} (h : w.cell? ⟨p, 35, none⟩ = some (.int .i64 n)) (hn : ¬ n = 0) : Calls Tryz.prog 195 #[.pointer (some ⟨p, 0, none⟩)] w fun e w' => e = .returned (.bool false) ∧ w = w' := by
  have h1 : (n == 0) = false := by simpa using hn
  go_enter Tryz.func195, Tryz.ntmps195
  go_wp2
  go_ret
  exact ⟨rfl, rfl⟩
theorem done_yes {p : Nat} {w : World} (h : w.cell? ⟨p, 35, none⟩ = some (.int .i64 0)) : Calls Tryz.prog 195 #[.pointer (some ⟨p, 0, none⟩)] w fun e w' => e = .returned (.bool true) ∧ w = w' := by
  go_enter Tryz.func195, Tryz.ntmps195
  go_wp2
  go_ret
  exact ⟨rfl, rfl⟩
theorem next_done {p : Nat} {w : World} (h : w.cell? ⟨p, 35, none⟩ = some (.int .i64 0)) : Calls Tryz.prog 193 #[.pointer (some ⟨p, 0, none⟩)] w (Told w none) := by
  have HD := Lib.hid (cell_later (box_below w (.cells #[.int .i64 0, .int .i64 0, .int .u64 0, .int .u64 0, .int .u64 0] 63)) h)
  have HB := Lib.hid (box_below w (.cells #[.int .i64 0, .int .i64 0, .int .u64 0, .int .u64 0, .int .u64 0] 63))
  clear h
  go_enter Tryz.func193, Tryz.ntmps193
  go_wp2_with fail
  refine (done_yes HD.out).mono ?_
  rintro e w' ⟨rfl, rfl⟩
  go_wp2
  exact bodyPost_ret (v := .tuple #[.agg #[.int .i64 0, .int .i64 0, .int .u64 0, .int .u64 0, .int .u64 0], .bool false]) (by simp [results, Tryz.results193, go_sem]) rfl ⟨rfl, HB.out⟩
theorem next_0 {p : Nat} {w : World} {a v y : Int} (h : w.cell? ⟨p, 35, none⟩ = some (.int .i64 7)) (h0 : w.cell? ⟨p, 0, none⟩ = some (.int .i64 1)) (h1 : w.cell? ⟨p, 1, none⟩ = some (.int .i64 a)) (h2 : w.cell? ⟨p, 2, none⟩ = some (.int .u64 0)) (h3 : w.cell? ⟨p, 3, none⟩ = some (.int .u64 0)) (h4 : w.cell? ⟨p, 4, none⟩ = some (.int .u64 0)) :
    Calls Tryz.prog 193 #[.pointer (some ⟨p, 0, none⟩)] w (Told w (some (1, a, 0, 0, 0))) := by
  have hp : p < w.heap.size := World.block_lt_of_cell? _ _ h
  have HD := Lib.hid (cell_later (box_below w (.cells #[.int .i64 0, .int .i64 0, .int .u64 0, .int .u64 0, .int .u64 0] 63)) h)
  have HB := Lib.hid (box_below w)
  go_enter Tryz.func193, Tryz.ntmps193
  go_wp2_with fail
  refine (done_no HD.out (by decide)).mono ?_
  rintro e w' ⟨rfl, rfl⟩
  go_wp2
  go_region
  go_wp2
  exact bodyPost_ret (v := .tuple #[.agg #[.int .i64 1, .int .i64 a, .int .u64 0, .int .u64 0, .int .u64 0], .bool true]) (by simp [results, Tryz.results193, go_sem]) rfl ⟨rfl, (HB.out _).drew⟩
theorem next_1 {p : Nat} {w : World} {a v y : Int} (h : w.cell? ⟨p, 35, none⟩ = some (.int .i64 6)) (h0 : w.cell? ⟨p, 5, none⟩ = some (.int .i64 2)) (h1 : w.cell? ⟨p, 6, none⟩ = some (.int .i64 a)) (h2 : w.cell? ⟨p, 7, none⟩ = some (.int .u64 v)) (h3 : w.cell? ⟨p, 8, none⟩ = some (.int .u64 0)) (h4 : w.cell? ⟨p, 9, none⟩ = some (.int .u64 0)) :
    Calls Tryz.prog 193 #[.pointer (some ⟨p, 0, none⟩)] w (Told w (some (2, a, v, 0, 0))) := by
  have hp : p < w.heap.size := World.block_lt_of_cell? _ _ h
  have HD := Lib.hid (cell_later (box_below w (.cells #[.int .i64 0, .int .i64 0, .int .u64 0, .int .u64 0, .int .u64 0] 63)) h)
  have HB := Lib.hid (box_below w)
  go_enter Tryz.func193, Tryz.ntmps193
  go_wp2_with fail
  refine (done_no HD.out (by decide)).mono ?_
  rintro e w' ⟨rfl, rfl⟩
  go_wp2
  go_region
  go_wp2
  exact bodyPost_ret (v := .tuple #[.agg #[.int .i64 2, .int .i64 a, .int .u64 v, .int .u64 0, .int .u64 0], .bool true]) (by simp [results, Tryz.results193, go_sem]) rfl ⟨rfl, (HB.out _).drew⟩
theorem next_2 {p : Nat} {w : World} {a v y : Int} (h : w.cell? ⟨p, 35, none⟩ = some (.int .i64 5)) (h0 : w.cell? ⟨p, 10, none⟩ = some (.int .i64 4)) (h1 : w.cell? ⟨p, 11, none⟩ = some (.int .i64 2)) (h2 : w.cell? ⟨p, 12, none⟩ = some (.int .u64 1)) (h3 : w.cell? ⟨p, 13, none⟩ = some (.int .u64 0)) (h4 : w.cell? ⟨p, 14, none⟩ = some (.int .u64 0)) :
    Calls Tryz.prog 193 #[.pointer (some ⟨p, 0, none⟩)] w (Told w (some (4, 2, 1, 0, 0))) := by
  have hp : p < w.heap.size := World.block_lt_of_cell? _ _ h
  have HD := Lib.hid (cell_later (box_below w (.cells #[.int .i64 0, .int .i64 0, .int .u64 0, .int .u64 0, .int .u64 0] 63)) h)
  have HB := Lib.hid (box_below w)
  go_enter Tryz.func193, Tryz.ntmps193
  go_wp2_with fail
  refine (done_no HD.out (by decide)).mono ?_
  rintro e w' ⟨rfl, rfl⟩
  go_wp2
  go_region
  go_wp2
  exact bodyPost_ret (v := .tuple #[.agg #[.int .i64 4, .int .i64 2, .int .u64 1, .int .u64 0, .int .u64 0], .bool true]) (by simp [results, Tryz.results193, go_sem]) rfl ⟨rfl, (HB.out _).drew⟩
theorem next_3 {p : Nat} {w : World} {a v y : Int} (h : w.cell? ⟨p, 35, none⟩ = some (.int .i64 4)) (h0 : w.cell? ⟨p, 15, none⟩ = some (.int .i64 2)) (h1 : w.cell? ⟨p, 16, none⟩ = some (.int .i64 a)) (h2 : w.cell? ⟨p, 17, none⟩ = some (.int .u64 v)) (h3 : w.cell? ⟨p, 18, none⟩ = some (.int .u64 0)) (h4 : w.cell? ⟨p, 19, none⟩ = some (.int .u64 y)) :
    Calls Tryz.prog 193 #[.pointer (some ⟨p, 0, none⟩)] w (Told w (some (2, a, v, 0, y))) := by
  have hp : p < w.heap.size := World.block_lt_of_cell? _ _ h
  have HD := Lib.hid (cell_later (box_below w (.cells #[.int .i64 0, .int .i64 0, .int .u64 0, .int .u64 0, .int .u64 0] 63)) h)
  have HB := Lib.hid (box_below w)
  go_enter Tryz.func193, Tryz.ntmps193
  go_wp2_with fail
  refine (done_no HD.out (by decide)).mono ?_
  rintro e w' ⟨rfl, rfl⟩
  go_wp2
  go_region
  go_wp2
  exact bodyPost_ret (v := .tuple #[.agg #[.int .i64 2, .int .i64 a, .int .u64 v, .int .u64 0, .int .u64 y], .bool true]) (by simp [results, Tryz.results193, go_sem]) rfl ⟨rfl, (HB.out _).drew⟩
theorem next_4 {p : Nat} {w : World} {a v y : Int} (h : w.cell? ⟨p, 35, none⟩ = some (.int .i64 3)) (h0 : w.cell? ⟨p, 20, none⟩ = some (.int .i64 2)) (h1 : w.cell? ⟨p, 21, none⟩ = some (.int .i64 a)) (h2 : w.cell? ⟨p, 22, none⟩ = some (.int .u64 v)) (h3 : w.cell? ⟨p, 23, none⟩ = some (.int .u64 0)) (h4 : w.cell? ⟨p, 24, none⟩ = some (.int .u64 y)) :
    Calls Tryz.prog 193 #[.pointer (some ⟨p, 0, none⟩)] w (Told w (some (2, a, v, 0, y))) := by
  have hp : p < w.heap.size := World.block_lt_of_cell? _ _ h
  have HD := Lib.hid (cell_later (box_below w (.cells #[.int .i64 0, .int .i64 0, .int .u64 0, .int .u64 0, .int .u64 0] 63)) h)
  have HB := Lib.hid (box_below w)
  go_enter Tryz.func193, Tryz.ntmps193
  go_wp2_with fail
  refine (done_no HD.out (by decide)).mono ?_
  rintro e w' ⟨rfl, rfl⟩
  go_wp2
  go_region
  go_wp2
  exact bodyPost_ret (v := .tuple #[.agg #[.int .i64 2, .int .i64 a, .int .u64 v, .int .u64 0, .int .u64 y], .bool true]) (by simp [results, Tryz.results193, go_sem]) rfl ⟨rfl, (HB.out _).drew⟩
theorem next_5 {p : Nat} {w : World} {a v y : Int} (h : w.cell? ⟨p, 35, none⟩ = some (.int .i64 2)) (h0 : w.cell? ⟨p, 25, none⟩ = some (.int .i64 2)) (h1 : w.cell? ⟨p, 26, none⟩ = some (.int .i64 a)) (h2 : w.cell? ⟨p, 27, none⟩ = some (.int .u64 v)) (h3 : w.cell? ⟨p, 28, none⟩ = some (.int .u64 0)) (h4 : w.cell? ⟨p, 29, none⟩ = some (.int .u64 y)) :
    Calls Tryz.prog 193 #[.pointer (some ⟨p, 0, none⟩)] w (Told w (some (2, a, v, 0, y))) := by
  have hp : p < w.heap.size := World.block_lt_of_cell? _ _ h
  have HD := Lib.hid (cell_later (box_below w (.cells #[.int .i64 0, .int .i64 0, .int .u64 0, .int .u64 0, .int .u64 0] 63)) h)
  have HB := Lib.hid (box_below w)
  go_enter Tryz.func193, Tryz.ntmps193
  go_wp2_with fail
  refine (done_no HD.out (by decide)).mono ?_
  rintro e w' ⟨rfl, rfl⟩
  go_wp2
  go_region
  go_wp2
  exact bodyPost_ret (v := .tuple #[.agg #[.int .i64 2, .int .i64 a, .int .u64 v, .int .u64 0, .int .u64 y], .bool true]) (by simp [results, Tryz.results193, go_sem]) rfl ⟨rfl, (HB.out _).drew⟩
theorem next_6 {p : Nat} {w : World} {a v y : Int} (h : w.cell? ⟨p, 35, none⟩ = some (.int .i64 1)) (h0 : w.cell? ⟨p, 30, none⟩ = some (.int .i64 2)) (h1 : w.cell? ⟨p, 31, none⟩ = some (.int .i64 a)) (h2 : w.cell? ⟨p, 32, none⟩ = some (.int .u64 2)) (h3 : w.cell? ⟨p, 33, none⟩ = some (.int .u64 0)) (h4 : w.cell? ⟨p, 34, none⟩ = some (.int .u64 y)) :
    Calls Tryz.prog 193 #[.pointer (some ⟨p, 0, none⟩)] w (Told w (some (2, a, 2, 0, y))) := by
  have hp : p < w.heap.size := World.block_lt_of_cell? _ _ h
  have HD := Lib.hid (cell_later (box_below w (.cells #[.int .i64 0, .int .i64 0, .int .u64 0, .int .u64 0, .int .u64 0] 63)) h)
  have HB := Lib.hid (box_below w)
  go_enter Tryz.func193, Tryz.ntmps193
  go_wp2_with fail
  refine (done_no HD.out (by decide)).mono ?_
  rintro e w' ⟨rfl, rfl⟩
  go_wp2
  go_region
  go_wp2
  exact bodyPost_ret (v := .tuple #[.agg #[.int .i64 2, .int .i64 a, .int .u64 2, .int .u64 0, .int .u64 y], .bool true]) (by simp [results, Tryz.results193, go_sem]) rfl ⟨rfl, (HB.out _).drew⟩
theorem Make_next {p : Nat} {w : World} {T L i dl dw tw : Int} {s : St} (h : Makes w p T L i dl dw tw s) : Calls Tryz.prog 193 #[.pointer (some ⟨p, 0, none⟩)] w (Told w (minA T L i dw tw s)) := by
  obtain ⟨h, hk⟩ := h
  have hc := k_cases hk
  have hr := fun j => Raw.cell h j
  obtain ⟨k, sa, r, sq⟩ := s
  simp only at hc
  rcases hc with rfl | rfl | rfl | rfl | rfl | rfl | rfl | rfl
  · exact next_0 (v := 0) (y := 0) (hr 35) (hr 0) (hr 1) (hr 2) (hr 3) (hr 4)
  · exact next_1 (y := 0) (hr 35) (hr 5) (hr 6) (hr 7) (hr 8) (hr 9)
  · exact next_2 (a := 0) (v := 0) (y := 0) (hr 35) (hr 10) (hr 11) (hr 12) (hr 13) (hr 14)
  · exact next_3 (hr 35) (hr 15) (hr 16) (hr 17) (hr 18) (hr 19)
  · exact next_4 (hr 35) (hr 20) (hr 21) (hr 22) (hr 23) (hr 24)
  · exact next_5 (hr 35) (hr 25) (hr 26) (hr 27) (hr 28) (hr 29)
  · exact next_6 (v := 0) (hr 35) (hr 30) (hr 31) (hr 32) (hr 33) (hr 34)
  · exact next_done (hr 35)
theorem ref_no {p : Nat} {w : World} {n : Int} (h : w.cell? ⟨p, 35, none⟩ = some (.int .i64 n)) (hn : 0 < n) : Calls Tryz.prog 81 #[.pointer (some ⟨p, 0, none⟩)] w fun e w' => e = .returned (.int .u64 0) ∧ w = w' := by
  go_enter Tryz.func81, Tryz.ntmps81
  go_wp2
  go_ret
  exact ⟨rfl, rfl⟩
theorem ref_yes {p : Nat} {w : World} {r : Int} (h : w.cell? ⟨p, 35, none⟩ = some (.int .i64 0)) (h1 : w.cell? ⟨p, 37, none⟩ = some (.int .u64 r)) : Calls Tryz.prog 81 #[.pointer (some ⟨p, 0, none⟩)] w fun e w' => e = .returned (.int .u64 r) ∧ w = w' := by
  go_enter Tryz.func81, Tryz.ntmps81
  go_wp2
  go_ret
  exact ⟨rfl, rfl⟩
theorem Ref_any {p : Nat} {w : World} {T L i dl dw tw : Int} {s : St} (h : Makes w p T L i dl dw tw s) : Calls Tryz.prog 81 #[.pointer (some ⟨p, 0, none⟩)] w fun e w' => e = .returned (.int .u64 (refI s)) ∧ w = w' := by
  obtain ⟨h, hk⟩ := h
  have hr := fun j => Raw.cell h j
  by_cases h7 : s.k < 7
  · rw [ref_not h7]
    exact ref_no (hr 35) (by omega)
  · obtain ⟨k, sa, r, sq⟩ := s
    obtain rfl : k = 7 := by have := hk.1; simp only at this h7; omega
    rw [ref_done]
    exact ref_yes (hr 35) (hr 37)
/-- What telling the key ends in. -/
def Keyed (w : World) (x : Int × Int) (e : Ending) (w' : World) : Prop := e = .returned (.agg #[.int .i64 x.1, .int .u64 x.2]) ∧ Below w.heap.size w w'
theorem key_no {p : Nat} {w : World} {n : Int} (h : w.cell? ⟨p, 35, none⟩ = some (.int .i64 n)) (hn : 0 < n) : Calls Tryz.prog 129 #[.pointer (some ⟨p, 0, none⟩)] w (Keyed w (0, 0)) := by
  have hp : p < w.heap.size := World.block_lt_of_cell? _ _ h
  have HB := Lib.hid (box_below w)
  go_enter Tryz.func129, Tryz.ntmps129
  go_wp2
  exact bodyPost_ret (v := .agg #[.int .i64 0, .int .u64 0]) (by simp [results, Tryz.results129, go_sem]) rfl ⟨rfl, HB.out _⟩
theorem key_yes {p : Nat} {w : World} {a b : Int} (h : w.cell? ⟨p, 35, none⟩ = some (.int .i64 0)) (h1 : w.cell? ⟨p, 38, none⟩ = some (.int .i64 a)) (h2 : w.cell? ⟨p, 39, none⟩ = some (.int .u64 b)) : Calls Tryz.prog 129 #[.pointer (some ⟨p, 0, none⟩)] w (Keyed w (a, b)) := by
  have hp : p < w.heap.size := World.block_lt_of_cell? _ _ h
  have HB := Lib.hid (box_below w)
  go_enter Tryz.func129, Tryz.ntmps129
  go_wp2
  exact bodyPost_ret (v := .agg #[.int .i64 a, .int .u64 b]) (by simp [results, Tryz.results129, go_sem]) rfl ⟨rfl, HB.out _⟩
theorem Key_any {p : Nat} {w : World} {T L i dl dw tw : Int} {s : St} (h : Makes w p T L i dl dw tw s) : Calls Tryz.prog 129 #[.pointer (some ⟨p, 0, none⟩)] w (Keyed w (keyI dl s)) := by
  obtain ⟨h, hk⟩ := h
  have hr := fun j => Raw.cell h j
  by_cases h7 : s.k < 7
  · rw [key_not h7]
    exact key_no (hr 35) (by omega)
  · obtain ⟨k, sa, r, sq⟩ := s
    obtain rfl : k = 7 := by have := hk.1; simp only at this h7; omega
    rw [key_done]
    exact key_yes (hr 35) (hr 38) (hr 39)
end Go.Proofs.YtlagghghbpbcbaaGreatDoor.Mint
