import Derived.Test.YtlagghghbpbcbaaGreatDoorRows
import Derived.Test.YtlagghghbpbcbaaGreatDoorStartComesAllP8
import Derived.Test.YtlagghghbpbcbaaGreatDoorStartComesAllP7
import Derived.Deep.RegionLaw
import Derived.Lib.SliceRun
/- Rows of words: slices.Clone and slices.Reverse at []uint64. -/
namespace Go.Proofs.YtlagghghbpbcbaaGreatDoor.WordRows
set_option maxRecDepth 20000
open Go.ChangeShapes Go.WideShapes Go.RowKit Lay Ints
set_option linter.unusedVariables false
set_option linter.unusedSimpArgs false

theorem info_w : (Tryz.prog.info? 22).map (fun i => (i.zero, i.size, i.bytes)) = some (some (.int .u64 0), 1, 8) := by kernel_rfl
/-- The same words, in a row of the call's own. -/
theorem Clone_any {A : Option Addr} {n c : Nat} {l : List Int} {w : World} (hR : Row w w.heap.size A (flat (encZ .u64) l)) (hn : n = l.length) (hl : n ≤ 1000000) : Calls Tryz.prog 156 #[.slice A n c] w fun e w' =>
    ∃ A' c', e = .returned (.slice A' n c') ∧ w'.ownsRow w.heap.size 22 1 (.slice A' n c') n (flat (encZ .u64) l) ∧ Below w.heap.size w w' := by
  cases A with
  | none =>
    have h0 : l = [] := by
      cases l with
      | nil => rfl
      | cons x xs =>
        obtain ⟨_, _, e, _⟩ := hR (by simp [flat_cons, encZ])
        cases e
    subst h0
    subst hn
    clear hR
    have hnil := Lib.run_eql_slice_nil (P := Tryz.prog) w 30 22 none 0 c 0 0 Tryz.underlying30
    go_enter Tryz.func156, Tryz.ntmps156
    go_wp2
    go_ret
    exact ⟨none, 0, rfl, World.ownsRow_nil _ _ _ _, Below.refl _ _⟩
  | some a =>
    obtain ⟨i0, hi, hz0, hz1, hz2⟩ := info_parts info_w
    have HR := Lib.hid hR
    have HF := Lib.hid (show (flat (encZ .u64) l).length = n * 1 by rw [flat_length (encZ_length .u64), hn])
    clear hR hn
    have hnil := Lib.run_eql_slice_nil (P := Tryz.prog) w 30 22 (some a) n c 0 0 Tryz.underlying30
    go_enter Tryz.func156, Tryz.ntmps156
    go_wp2_with (at_builtin; refine wpList_append_row _ w rfl (.tmp 5) (.tmp 6) 30 rfl w.heap.size 22 i0 _ 1 8 Tryz.underlying30 hi hz0 hz1 hz2 rfl (by decide) _ 0 [] rfl (World.ownsRow_made w #[] 0 (Nat.le_refl _) (by simp [maxLen]) (by simp)) (some a) n c w.heap.size (flat (encZ .u64) l) rfl HF.out (HR.out.below ((Below.refl _ _).alloc (Nat.le_refl _) _)) (flat_oneCell (encZ_one _) l) (by simp only [maxLen]; omega) (by omega) (by simp) ((Below.refl _ _).alloc (Nat.le_refl _) _) ?_; intro A1 c1 w1 hown1 hb1)
    rw [Nat.zero_add, List.nil_append] at hown1
    have HO := Lib.hid hown1
    clear hown1
    go_wp2
    go_ret
    exact ⟨_, _, rfl, HO.out, hb1⟩

/-- The first k words and the last k ones have changed places. -/
def Turned (l l' : List Int) (k : Nat) : Prop := l'.length = l.length ∧ ∀ m, m < l.length → l'[m]? = if m < k ∨ l.length ≤ m + k then l[l.length - 1 - m]? else l[m]?
theorem turned_start (l : List Int) : Turned l l 0 := ⟨rfl, fun m hm => by rw [if_neg (by omega)]⟩
theorem turned_end {l l' : List Int} {k : Nat} (h : Turned l l' k) (hk : l.length ≤ k + k + 1) : l' = l.reverse := by
  apply List.ext_getElem?
  intro m
  by_cases hm : m < l.length
  · rw [h.2 m hm, List.getElem?_reverse hm]
    split
    · rfl
    · rw [show l.length - 1 - m = m by omega]
  · rw [List.getElem?_eq_none (by rw [h.1]; omega), List.getElem?_eq_none (by rw [List.length_reverse]; omega)]
theorem turned_more {l l' : List Int} {k j : Nat} (h : Turned l l' k) (hj : k + j + 1 = l.length) (hk : k < j) {x y : Int} (hx : l'[k]? = some x) (hy : l'[j]? = some y) : Turned l ((l'.set k y).set j x) (k + 1) := by
  obtain ⟨h1, h2⟩ := h
  have e1 := h2 k (by omega)
  have e2 := h2 j (by omega)
  rw [if_neg (by omega), hx] at e1
  rw [if_neg (by omega), hy] at e2
  refine ⟨by simp [h1], fun m hm => ?_⟩
  by_cases m2 : m = j
  · subst m2
    rw [List.getElem?_set_self (by simp; omega), if_pos (by omega), show l.length - 1 - m = k by omega, e1]
  · rw [List.getElem?_set_ne (by omega)]
    by_cases m1 : m = k
    · subst m1
      rw [List.getElem?_set_self (by omega), if_pos (by omega), show l.length - 1 - m = j by omega, e2]
    · rw [List.getElem?_set_ne (by omega), h2 m hm]
      by_cases q : m < k ∨ l.length ≤ m + k
      · rw [if_pos q, if_pos (by omega)]
      · rw [if_neg q, if_neg (by omega)]
theorem Reverse_nil (c : Nat) (w : World) : Calls Tryz.prog 216 #[.slice none 0 c] w fun e w' => e = .returned (.tuple #[]) ∧ w = w' := by
  go_enter Tryz.func216, Tryz.ntmps216
  go_wp2
  refine wp_loop_rounds 1 ?_
  rw [rounds_succ]
  go_wp2
  exact bodyPost_end (results_none rfl _ _ _) rfl ⟨rfl, rfl⟩
set_option maxHeartbeats 1000000 in
theorem Reverse_any {B g n c : Nat} {l : List Int} {w : World} (ho : w.ownsRow B 22 1 (.slice (some ⟨g, 0, none⟩) n c) n (flat (encZ .u64) l)) (hn : n = l.length) (hl : n ≤ 1000000) : Calls Tryz.prog 216 #[.slice (some ⟨g, 0, none⟩) n c] w fun e w' =>
    e = .returned (.tuple #[]) ∧ w'.ownsRow B 22 1 (.slice (some ⟨g, 0, none⟩) n c) n (flat (encZ .u64) l.reverse) ∧ Only (fun k => k = g) w w' := by
  have HO := Lib.hid ho
  have HN := Lib.hid hn
  clear ho hn
  go_enter Tryz.func216, Tryz.ntmps216
  go_wp2
  go_loopw [2, 3] (fun iv jv wr => ∃ (i : Nat) (l' : List Int), iv = .int .i64 i ∧ jv = .int .i64 ((n : Int) - 1 - i) ∧ i ≤ n ∧ Turned l l' i ∧ wr.ownsRow B 22 1 (.slice (some ⟨g, 0, none⟩) n c) n (flat (encZ .u64) l') ∧ Only (fun k => k = g) w wr)
    (fun iv _ _ => n - (intOf iv).toNat)
  case atStart => exact ⟨0, l, rfl, by simp, Nat.zero_le _, turned_start l, HO.out, Only.refl _ _⟩
  case round =>
    obtain ⟨i, l', rfl, rfl, hi, ht, ho, hon⟩ := hrel
    have HT := Lib.hid ht
    have HW := Lib.hid ho
    have HON := Lib.hid hon
    clear ht ho hon
    by_cases hlt : (i : Int) < (n : Int) - 1 - (i : Int)
    · obtain ⟨j, hj⟩ : ∃ j : Nat, (n : Int) - 1 - (i : Int) = (j : Int) := ⟨n - 1 - i, by omega⟩
      obtain ⟨x, hx⟩ : ∃ x, l'[i]? = some x := ⟨_, List.getElem?_eq_getElem (by have h1 := HT.out.1; have h2 := HN.out; omega)⟩
      obtain ⟨y, hy⟩ : ∃ y, l'[j]? = some y := ⟨_, List.getElem?_eq_getElem (by have h1 := HT.out.1; have h2 := HN.out; omega)⟩
      have hnl : n = l'.length := by rw [HT.out.1]; exact HN.out
      obtain ⟨a1, f1⟩ := own_int_at HW.out hnl hx
      obtain ⟨a2, f2⟩ := own_int_at HW.out hnl hy
      have HS := Lib.hid (own_int_set (own_int_set HW.out i y) j x)
      have f3 : (wr.setCell ⟨g, i, none⟩ (.int .u64 y)).frozen? ⟨g, j, none⟩ = false := (own_int_set HW.out i y).frozenAt _
      have HTM := Lib.hid (turned_more HT.out (by have h2 := HN.out; omega) (by omega) hx hy)
      have HO2 := Lib.hid ((HON.out.setCell (p := ⟨g, i, none⟩) (.inl rfl) (.int .u64 y)).setCell (p := ⟨g, j, none⟩) (.inl rfl) (.int .u64 x))
      have hij : (i : Int) < (j : Int) := by omega
      have hjn : (j : Int) < (n : Int) := by omega
      have hin : (i : Int) < (n : Int) := by omega
      have hne : ¬ i = j := by omega
      have HJ := Lib.hid hj
      rw [hj]
      clear hx hy hnl hlt hj
      go_wp2
      go_region
      go_wp2
      go_roundw
      case rel => exact ⟨i + 1, _, by go_num, congrArg (Value.int .i64) (by have := HJ.out; omega), by omega, HTM.out, HS.out, HO2.out.drew⟩
      case measure => simp [intOf]; omega
    · have HE := Lib.hid (turned_end HT.out (by have h2 := HN.out; omega))
      go_wp2
      refine bodyPost_end (results_none rfl _ _ _) rfl ?_
      exact ⟨rfl, HE.out ▸ HW.out, HON.out⟩
end Go.Proofs.YtlagghghbpbcbaaGreatDoor.WordRows
