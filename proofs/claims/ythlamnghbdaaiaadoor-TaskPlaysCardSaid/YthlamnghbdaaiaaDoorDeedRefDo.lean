/- The document's answer for layer 7 (package sundialref07), Do, held to the same plain arithmetic. -/
import Derived.Test.YthlamnghbdaaiaaDoorCellsRef
import Derived.Test.YthlamnghbdaaiaaDoorDeedMath
namespace Go.Proofs.YthlamnghbdaaiaaDoor.DeedRef
open Go.ChangeShapes Go.WideShapes Go.RowKit CM DM Lay Ints Cells

theorem does_past {w w1 : World} {A : Option Addr} {n : Nat} {f : Int} {l : List Int} {o : Obj} {e : Ending} (h : CellsRef.Does (w.alloc o) A n f l e w1) : CellsRef.Does w A n f l e w1 := by
  obtain ⟨A', c', he, hr, ha, hb⟩ := h
  have h0 : Below w.heap.size w (w.alloc o) := (Below.refl _ _).alloc (Nat.le_refl _) _
  exact ⟨A', c', he, hr, fun a e => (ha a e).imp id (Nat.le_trans h0.size), h0.trans (hb.mono h0.size)⟩
theorem Do_any (A : Option Addr) (l : List Int) (n c : Nat) (x : D) (w : World) (hn : n = l.length) (hm : n ≤ 4096) (hR : Row w w.heap.size A (flat (encZ .u64) l)) :
    Calls Tryd.prog 19 #[.slice A n c, .agg #[.int .i64 x.1, .int .i64 x.2.1, .int .u64 x.2.2.1, .int .u64 x.2.2.2.1, .int .u64 x.2.2.2.2]] w (CellsRef.Does w A n (foundD l x) (nextD l x)) := by
  obtain ⟨kd, i, a, b, y⟩ := x
  simp only
  have HB := Lib.hid (show Below w.heap.size w (w.alloc (.cells #[.int .i64 kd, .int .i64 i, .int .u64 a, .int .u64 b, .int .u64 y] 42)) from (Below.refl _ _).alloc (Nat.le_refl _) _)
  have HR := Lib.hid (hR.later HB.out)
  clear hR
  by_cases hk : 1 ≤ kd ∧ kd ≤ 4
  · rw [foundD_yes (x := (kd, i, a, b, y)) hk]
    have HD := Lib.hid (CellsRef.Do_any A l n c (kd, i, a, b) _ hn hm HR.out)
    obtain ⟨k1, k4⟩ := hk
    have k1' : ¬ kd < 1 := by omega
    have k4' : ¬ 4 < kd := by omega
    unfold nextD
    simp only at HD ⊢
    generalize getI l i = f at HD ⊢
    generalize nextI l (kd, i, a, b) = l' at HD ⊢
    have HP := Lib.hid fun (e : Ending) (w1 : World) (h : CellsRef.Does (w.alloc (.cells #[.int .i64 kd, .int .i64 i, .int .u64 a, .int .u64 b, .int .u64 y] 42)) A n f l' e w1) => does_past h
    clear hn k1 k4
    go_enter Tryd.func19, Tryd.ntmps19
    go_wp2_with fail
    refine HD.out.mono ?_
    intro e w1 h
    obtain ⟨A', c', rfl, hr, ha, hb⟩ := HP.out e w1 h
    go_wp2
    go_ret2
    exact ⟨_, _, rfl, hr, ha, hb⟩
  · rw [foundD_no (x := (kd, i, a, b, y)) hk, nextD_no (x := (kd, i, a, b, y)) hk]
    by_cases h1 : kd < 1
    · clear hk hn
      go_enter Tryd.func19, Tryd.ntmps19
      go_wp2
      go_ret2
      exact ⟨_, _, rfl, HR.out, fun a h => Or.inl h, HB.out⟩
    · have h4 : 4 < kd := by omega
      clear hk hn
      go_enter Tryd.func19, Tryd.ntmps19
      go_wp2
      go_ret2
      exact ⟨_, _, rfl, HR.out, fun a h => Or.inl h, HB.out⟩
end Go.Proofs.YthlamnghbdaaiaaDoor.DeedRef
