import Derived.Test.YtlagghghbpbcbaaGreatDoorStartComesAllP20
import Derived.Test.YtlagghghbpbcbaaGreatDoorStartComesAllP15
/- A new seeker; what a seeker tells at its end. -/
namespace Go.Proofs.YtlagghghbpbcbaaGreatDoor.Seek
set_option maxRecDepth 20000
open Go.ChangeShapes Go.WideShapes Go.RowKit CM DM PM KM Lay Ints Plan Go.Proofs.YtlagghghbpbcbaaGreatDoor.Task
set_option linter.unusedVariables false
set_option linter.unusedSimpArgs false

/-- A list of words in new memory. -/
def Listed (w : World) (l : List Int) (e : Ending) (w' : World) : Prop := ∃ (A' : Option Addr) (n c' : Nat), e = .returned (.slice A' n c') ∧ n = l.length ∧ Row w' w'.heap.size A' (flat (encZ .u64) l) ∧ (∀ a, A' = some a → w.heap.size ≤ a.block ∧ a.block < w'.heap.size) ∧ Below w.heap.size w w'
theorem listed_nil (w : World) : Listed w [] (.returned (.slice none 0 0)) w := ⟨none, 0, 0, rfl, rfl, Row.none_, fun a e => (by cases e), Below.refl _ _⟩
theorem upwards_any {A : Option Addr} {n c : Nat} {l : List Int} {w : World} (hR : Row w w.heap.size A (flat (encZ .u64) l)) (hn : n = l.length) (hl : n ≤ 1000000) : Calls Tryz.prog 215 #[.slice A n c] w (Listed w l.reverse) := by
  have HC := Lib.hid (WordRows.Clone_any (c := c) hR hn hl)
  have HN := Lib.hid hn
  clear hR hn
  go_enter Tryz.func215, Tryz.ntmps215
  go_wp2_with fail
  refine HC.out.mono ?_
  rintro e w1 ⟨A1, c1, rfl, ho, hb⟩
  have HB := Lib.hid hb
  have HO := Lib.hid ho
  rcases ho.2 with ⟨hv, h0⟩ | ⟨g, cap, cur, hv, hg, -⟩
  · subst h0
    cases hv
    have hnil : l = [] := List.length_eq_zero_iff.1 HN.out.symm
    subst hnil
    clear ho hb
    go_wp2_with fail
    refine (WordRows.Reverse_nil _ _).mono ?_
    rintro e w2 ⟨rfl, rfl⟩
    go_wp2
    go_ret
    exact ⟨none, 0, _, rfl, rfl, Row.none_, fun a e => (by cases e), HB.out⟩
  · cases hv
    clear ho hb
    go_wp2_with fail
    refine (WordRows.Reverse_any HO.out HN.out hl).mono ?_
    rintro e w2 ⟨rfl, ho2, hon2⟩
    have HO2 := Lib.hid ho2
    have HN2 := Lib.hid hon2
    have HG := Lib.hid hg
    clear ho2 hon2 hg
    go_wp2
    go_ret
    have hlt := HO2.out.lt g rfl
    have hs := HB.out.size
    exact ⟨_, n, _, rfl, by rw [List.length_reverse]; exact HN.out, Row.of_own HO2.out, fun a e => (by cases e; exact hlt), HB.out.trans (HN2.out.below hs (fun k e => by rw [e]; exact hlt.1))⟩
theorem Preds_any {w : World} {p k : Nat} {S : Nat → Prop} {T N L G dl sq : Int} {s : St} (h : Seeks w p S T N L G dl sq k s) (hk : k ≤ 1000000) : Calls Tryz.prog 211 #[.pointer (some ⟨p, 0, none⟩)] w (Listed w (if s.st = 0 then s.ps.reverse else [])) := by
  obtain ⟨ho, hL, A1, c1, A2, c2, h⟩ := h
  obtain ⟨-, -, -, -, -, -, e6, -, -, -, -, e11, e12⟩ := h.cells
  obtain ⟨n, hn⟩ : ∃ n, n = s.ps.length := ⟨_, rfl⟩
  have hnk : n ≤ 1000000 := by have h1 := ho.few; have h2 := ho.len; omega
  have hr := Row.of_own h.o1
  rw [← hn] at e11
  have HU := Lib.hid fun c => upwards_any (c := c) hr hn hnk
  by_cases h0 : s.st = 0
  · rw [if_pos h0]
    rw [h0] at e6
    clear h h0 hr hn ho
    go_enter Tryz.func211, Tryz.ntmps211
    go_wp2_with fail
    refine (HU.out _).mono ?_
    rintro e w1 h1
    have H1 := Lib.hid h1
    obtain ⟨A', n', c', rfl, -⟩ := h1
    go_wp2
    go_ret
    exact H1.out
  · rw [if_neg h0]
    have hq : (s.st != 0) = true := by simpa using h0
    generalize s.st = st at e6 hq h0
    clear h hr hn ho
    go_enter Tryz.func211, Tryz.ntmps211
    go_wp2
    go_ret
    exact listed_nil _
theorem Succs_any {w : World} {p k : Nat} {S : Nat → Prop} {T N L G dl sq : Int} {s : St} (h : Seeks w p S T N L G dl sq k s) (hk : k ≤ 1000000) : Calls Tryz.prog 212 #[.pointer (some ⟨p, 0, none⟩)] w (Listed w (if s.st = 0 then s.ss.reverse else [])) := by
  obtain ⟨ho, hL, A1, c1, A2, c2, h⟩ := h
  obtain ⟨-, -, -, -, -, -, e6, -, -, -, -, e11, e12⟩ := h.cells
  obtain ⟨n, hn⟩ : ∃ n, n = s.ss.length := ⟨_, rfl⟩
  have hnk : n ≤ 1000000 := by have h1 := ho.few; have h2 := ho.len; omega
  have hr := Row.of_own h.o2
  rw [← hn] at e12
  have HU := Lib.hid fun c => upwards_any (c := c) hr hn hnk
  by_cases h0 : s.st = 0
  · rw [if_pos h0]
    rw [h0] at e6
    clear h h0 hr hn ho
    go_enter Tryz.func212, Tryz.ntmps212
    go_wp2_with fail
    refine (HU.out _).mono ?_
    rintro e w1 h1
    have H1 := Lib.hid h1
    obtain ⟨A', n', c', rfl, -⟩ := h1
    go_wp2
    go_ret
    exact H1.out
  · rw [if_neg h0]
    have hq : (s.st != 0) = true := by simpa using h0
    generalize s.st = st at e6 hq h0
    clear h hr hn ho
    go_enter Tryz.func212, Tryz.ntmps212
    go_wp2
    go_ret
    exact listed_nil _
theorem Seek_any (T N L G dl sq : Int) (hL : L ≤ 9223372036854775807) (w : World) : Calls Tryz.prog 144 #[.agg #[.int .i64 T, .int .i64 N, .int .i64 L, .int .u64 G], .agg #[.int .i64 dl, .int .u64 sq]] w fun e w' => ∃ p S, e = .returned (.pointer (some ⟨p, 0, none⟩)) ∧ Seeks w' p S T N L G dl sq 0 (anew L 0 0) ∧ (∀ k, S k → w.heap.size ≤ k ∧ k < w'.heap.size) ∧ Below w.heap.size w w' := by
  have HE := Lib.hid (show Parts (((w.alloc (.cells #[.int .i64 T, .int .i64 N, .int .i64 L, .int .u64 G] 24)).alloc (.cells #[.int .i64 dl, .int .u64 sq] 58)).alloc (.cells #[.int .i64 T, .int .i64 N, .int .i64 L, .int .u64 G, .int .i64 dl, .int .u64 sq, .int .i64 0, .int .i64 0, .int .u64 0, .int .u64 0, .int .u64 0, .slice none 0 0, .slice none 0 0] 202)) (w.heap.size + 2) (fun k => k = w.heap.size + 2) T N L G dl sq ⟨0, 0, 0, 0, 0, [], []⟩ none 0 none 0 from by
    have h := new_heap ((w.alloc (.cells #[.int .i64 T, .int .i64 N, .int .i64 L, .int .u64 G] 24)).alloc (.cells #[.int .i64 dl, .int .u64 sq] 58)) (.cells #[.int .i64 T, .int .i64 N, .int .i64 L, .int .u64 G, .int .i64 dl, .int .u64 sq, .int .i64 0, .int .i64 0, .int .u64 0, .int .u64 0, .int .u64 0, .slice none 0 0, .slice none 0 0] 202)
    simp only [World.size_alloc] at h
    exact ⟨h, World.ownsRow_nil _ _ _ _, World.ownsRow_nil _ _ _ _, fun a e => (by cases e), fun a e => (by cases e), fun a b e => (by cases e), rfl, fun k e => by subst e; simp⟩)
  have HB := Lib.hid (show ∀ o1 o2 o3, Below w.heap.size w (((w.alloc o1).alloc o2).alloc o3) from fun o1 o2 o3 => (((Below.refl _ _).alloc (Nat.le_refl _) _).alloc (by simp) _).alloc (by simp; omega) _)
  obtain ⟨c_0, c_1, c_2, c_3⟩ := box4 w (.int .i64 T) (.int .i64 N) (.int .i64 L) (.int .u64 G) 24
  have HLL := Lib.hid hL
  clear hL
  go_enter Tryz.func144, Tryz.ntmps144
  go_wp2_with fail
  refine (begin_any HE.out HLL.out).mono ?_
  rintro e w1 ⟨rfl, h1, h2⟩
  have H1 := Lib.hid (And.intro h1 h2)
  clear h1 h2
  go_wp2
  go_ret
  have hz := HB.out (.cells #[.int .i64 T, .int .i64 N, .int .i64 L, .int .u64 G] 24) (.cells #[.int .i64 dl, .int .u64 sq] 58) (.cells #[.int .i64 T, .int .i64 N, .int .i64 L, .int .u64 G, .int .i64 dl, .int .u64 sq, .int .i64 0, .int .i64 0, .int .u64 0, .int .u64 0, .int .u64 0, .slice none 0 0, .slice none 0 0] 202)
  exact ⟨_, _, rfl, ⟨anew_ok HLL.out (by omega) (by omega), HLL.out, _, _, _, _, H1.out.1⟩, fun k e => ⟨by subst e; simp, H1.out.1.lt k e⟩, hz.trans (H1.out.2.below hz.size (fun k e => by subst e; omega))⟩
end Go.Proofs.YtlagghghbpbcbaaGreatDoor.Seek
