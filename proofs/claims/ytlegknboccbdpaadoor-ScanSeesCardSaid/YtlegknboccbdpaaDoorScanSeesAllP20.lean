import Derived.Test.YtlegknboccbdpaaDoorRows
import Derived.Test.YtlegknboccbdpaaDoorScanSeesAllP2
import Derived.Test.YtlegknboccbdpaaDoorScanSeesAllP1
/- The document's Less (package sundialref03), alone. -/
namespace Go.Proofs.YtlegknboccbdpaaDoor.LessRef
set_option maxRecDepth 20000
open Go.ChangeShapes Go.WideShapes Go.RowKit OM Lay

theorem Less_any (x y : Key) (w : World) : Calls Tryd.prog 25 #[.agg #[.int .i64 x.1, .int .u64 x.2], .agg #[.int .i64 y.1, .int .u64 y.2]] w fun e w' => e = .returned (.bool (ltK x y)) ∧ Below w.heap.size w w' := by
  obtain ⟨a, b⟩ := x
  obtain ⟨c, d⟩ := y
  have hB : Below w.heap.size w ((w.alloc (.cells #[.int .i64 a, .int .u64 b] 49)).alloc (.cells #[.int .i64 c, .int .u64 d] 49)) := ((Below.refl _ _).alloc (Nat.le_refl _) _).alloc (by simp) _
  by_cases h1 : a < c
  · have e : ltK (a, b) (c, d) = true := by rw [ltK_iff]; exact .inl h1
    rw [e]
    clear e
    go_enter Tryd.func25, Tryd.ntmps25
    go_wp2
    go_ret
    exact ⟨rfl, hB⟩
  · by_cases h2 : a = c
    · subst h2
      by_cases h3 : b < d
      · have e : ltK (a, b) (a, d) = true := by rw [ltK_iff]; exact .inr ⟨rfl, h3⟩
        rw [e]
        clear e
        go_enter Tryd.func25, Tryd.ntmps25
        go_wp2
        go_ret
        exact ⟨rfl, hB⟩
      · have e : ltK (a, b) (a, d) = false := by
          cases g : ltK (a, b) (a, d)
          · rfl
          · rw [ltK_iff] at g; simp only at g; omega
        rw [e]
        clear e
        go_enter Tryd.func25, Tryd.ntmps25
        go_wp2
        go_ret
        exact ⟨rfl, hB⟩
    · have e : ltK (a, b) (c, d) = false := by
        cases g : ltK (a, b) (c, d)
        · rfl
        · rw [ltK_iff] at g; simp only at g; omega
      have h2' : (a == c) = false := by simpa using h2
      rw [e]
      clear e
      go_enter Tryd.func25, Tryd.ntmps25
      go_wp2
      go_ret
      exact ⟨rfl, hB⟩
theorem Less_is {x y : Key} {v : Bool} (h : ltK x y = v) (w : World) : Calls Tryd.prog 25 #[.agg #[.int .i64 x.1, .int .u64 x.2], .agg #[.int .i64 y.1, .int .u64 y.2]] w fun e w' => e = .returned (.bool v) ∧ Below w.heap.size w w' := by
  rw [← h]
  exact Less_any x y w

end Go.Proofs.YtlegknboccbdpaaDoor.LessRef
