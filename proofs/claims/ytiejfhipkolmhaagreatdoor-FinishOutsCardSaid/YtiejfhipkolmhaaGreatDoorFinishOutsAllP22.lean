import Derived.Test.YtiejfhipkolmhaaGreatDoorFinishOutsAllP19
import Derived.Test.YtiejfhipkolmhaaGreatDoorFinishOutsAllP21
/- A new seeker; what a seeker tells at its end. -/
namespace Go.Proofs.YtiejfhipkolmhaaGreatDoor.Seek
set_option maxRecDepth 20000
open Go.ChangeShapes Go.WideShapes Go.RowKit CM DM PM KM Lay Ints Plan Go.Proofs.YtiejfhipkolmhaaGreatDoor.Task
set_option linter.unusedVariables false
set_option linter.unusedSimpArgs false

/-- A list of words in new memory. -/
def Listed (w : World) (l : List Int) (e : Ending) (w' : World) : Prop := ∃ (A' : Option Addr) (n c' : Nat), e = .returned (.slice A' n c') ∧ n = l.length ∧ Row w' w'.heap.size A' (flat (encZ .u64) l) ∧ (∀ a, A' = some a → w.heap.size ≤ a.block ∧ a.block < w'.heap.size) ∧ Below w.heap.size w w'
theorem listed_nil (w : World) : Listed w [] (.returned (.slice none 0 0)) w := ⟨none, 0, 0, rfl, rfl, Row.none_, fun a e => (by cases e), Below.refl _ _⟩
theorem Seek_any (T N L G dl sq : Int) (hL : L ≤ 9223372036854775807) (w : World) : Calls Tryz.prog 130 #[.agg #[.int .i64 T, .int .i64 N, .int .i64 L, .int .u64 G], .agg #[.int .i64 dl, .int .u64 sq]] w fun e w' => ∃ p S, e = .returned (.pointer (some ⟨p, 0, none⟩)) ∧ Seeks w' p S T N L G dl sq 0 (anew L 0 0) ∧ (∀ k, S k → w.heap.size ≤ k ∧ k < w'.heap.size) ∧ Below w.heap.size w w' := by
  have HE := Lib.hid (show Parts (((w.alloc (.cells #[.int .i64 T, .int .i64 N, .int .i64 L, .int .u64 G] 24)).alloc (.cells #[.int .i64 dl, .int .u64 sq] 41)).alloc (.cells #[.int .i64 T, .int .i64 N, .int .i64 L, .int .u64 G, .int .i64 dl, .int .u64 sq, .int .i64 0, .int .i64 0, .int .u64 0, .int .u64 0, .int .u64 0, .slice none 0 0, .slice none 0 0] 165)) (w.heap.size + 2) (fun k => k = w.heap.size + 2) T N L G dl sq ⟨0, 0, 0, 0, 0, [], []⟩ none 0 none 0 from by
    have h := new_heap ((w.alloc (.cells #[.int .i64 T, .int .i64 N, .int .i64 L, .int .u64 G] 24)).alloc (.cells #[.int .i64 dl, .int .u64 sq] 41)) (.cells #[.int .i64 T, .int .i64 N, .int .i64 L, .int .u64 G, .int .i64 dl, .int .u64 sq, .int .i64 0, .int .i64 0, .int .u64 0, .int .u64 0, .int .u64 0, .slice none 0 0, .slice none 0 0] 165)
    simp only [World.size_alloc] at h
    exact ⟨h, World.ownsRow_nil _ _ _ _, World.ownsRow_nil _ _ _ _, fun a e => (by cases e), fun a e => (by cases e), fun a b e => (by cases e), rfl, fun k e => by subst e; simp⟩)
  have HB := Lib.hid (show ∀ o1 o2 o3, Below w.heap.size w (((w.alloc o1).alloc o2).alloc o3) from fun o1 o2 o3 => (((Below.refl _ _).alloc (Nat.le_refl _) _).alloc (by simp) _).alloc (by simp; omega) _)
  obtain ⟨c_0, c_1, c_2, c_3⟩ := box4 w (.int .i64 T) (.int .i64 N) (.int .i64 L) (.int .u64 G) 24
  have HLL := Lib.hid hL
  clear hL
  go_enter Tryz.func130, Tryz.ntmps130
  go_wp2_with fail
  refine (begin_any HE.out HLL.out).mono ?_
  rintro e w1 ⟨rfl, h1, h2⟩
  have H1 := Lib.hid (And.intro h1 h2)
  clear h1 h2
  go_wp2
  go_ret
  have hz := HB.out (.cells #[.int .i64 T, .int .i64 N, .int .i64 L, .int .u64 G] 24) (.cells #[.int .i64 dl, .int .u64 sq] 41) (.cells #[.int .i64 T, .int .i64 N, .int .i64 L, .int .u64 G, .int .i64 dl, .int .u64 sq, .int .i64 0, .int .i64 0, .int .u64 0, .int .u64 0, .int .u64 0, .slice none 0 0, .slice none 0 0] 165)
  exact ⟨_, _, rfl, ⟨anew_ok HLL.out (by omega) (by omega), HLL.out, _, _, _, _, H1.out.1⟩, fun k e => ⟨by subst e; simp, H1.out.1.lt k e⟩, hz.trans (H1.out.2.below hz.size (fun k e => by subst e; omega))⟩
end Go.Proofs.YtiejfhipkolmhaaGreatDoor.Seek
