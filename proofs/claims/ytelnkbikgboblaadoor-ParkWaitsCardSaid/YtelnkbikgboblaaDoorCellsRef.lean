/- The document's answers for layer 6 (package sundialref06), held to the same plain lists of words. -/
import Derived.Test.YtelnkbikgboblaaDoorCellsWalks
import Derived.Test.YtelnkbikgboblaaDoorFour
namespace Go.Proofs.YtelnkbikgboblaaDoor.CellsRef
set_option maxRecDepth 20000
open Go.ChangeShapes Go.WideShapes Go.RowKit CM Lay Ints Cells







theorem same_upto (l1 l2 : List Int) (h : l1.length = l2.length) (n : Nat) (hn : l1.length ≤ n) (hs : ∀ j, j < n → l1[j]? = l2[j]?) : l1 = l2 := by
  apply List.ext_getElem?
  intro j
  by_cases hj : j < n
  · exact hs j hj
  · rw [List.getElem?_eq_none (by omega), List.getElem?_eq_none (by omega)]

set_option maxHeartbeats 400000 in
theorem Same_any (A1 A2 : Option Addr) (l1 l2 : List Int) (c1 c2 : Nat) (w : World) (hR1 : Row w w.heap.size A1 (flat (encZ .u64) l1)) (hR2 : Row w w.heap.size A2 (flat (encZ .u64) l2)) (hl1 : l1.length ≤ maxLen) (hl2 : l2.length ≤ maxLen) :
    Calls Tryd.prog 13 #[.slice A1 l1.length c1, .slice A2 l2.length c2] w fun e w' => e = .returned (.bool (decide (l1 = l2))) ∧ Below w.heap.size w w' := by
  obtain ⟨n, hn⟩ : ∃ n, n = l1.length := ⟨_, rfl⟩
  obtain ⟨m, hm⟩ : ∃ m, m = l2.length := ⟨_, rfl⟩
  unfold maxLen at hl1 hl2
  rw [← hn] at hl1 ⊢
  rw [← hm] at hl2 ⊢
  have HN := Lib.hid hn
  have HM := Lib.hid hm
  clear hn hm
  have HR1 := Lib.hid hR1
  have HR2 := Lib.hid hR2
  clear hR1 hR2
  by_cases hnm : n = m
  · subst hnm
    go_enter Tryd.func13, Tryd.ntmps13
    go_wp2
    go_loopw [5] (fun i wr => ∃ k : Nat, k ≤ n ∧ i = .int .i64 k ∧ (∀ j, j < k → l1[j]? = l2[j]?) ∧ Below w.heap.size w wr)
      (fun i _ => n - (intOf i).toNat)
    case atStart => exact ⟨0, Nat.zero_le _, rfl, fun j h => by omega, Below.refl _ _⟩
    case round =>
      obtain ⟨k, hk, rfl, hs, hb⟩ := hrel
      have HS := Lib.hid hs
      clear hs
      by_cases hlt : k < n
      · have hk1 : k < l1.length := by rw [← HN.out]; exact hlt
        have hk2 : k < l2.length := by rw [← HM.out]; exact hlt
        obtain ⟨b1, o1, rfl, _, hc1⟩ := int_at (HR1.out.later hb) hk1
        obtain ⟨b2, o2, rfl, _, hc2⟩ := int_at (HR2.out.later hb) hk2
        obtain ⟨x1, hx1⟩ : ∃ x, l1[k]? = some x := ⟨_, List.getElem?_eq_getElem hk1⟩
        obtain ⟨x2, hx2⟩ : ∃ x, l2[k]? = some x := ⟨_, List.getElem?_eq_getElem hk2⟩
        have p0 := hc1 k x1 hx1
        have q0 := hc2 k x2 hx2
        have HX1 := Lib.hid hx1
        have HX2 := Lib.hid hx2
        have C0 := fun p : After wr => p.cell p0
        have D0 := fun p : After wr => p.cell q0
        clear hc1 hc2 p0 q0 hx1 hx2
        by_cases he : x1 = x2
        · subst he
          go_wp2
          refine wp_region_after mixed (by kernel_rfl) ?_
          repeat (first | go_big_quiet_step (fail) | quiet_step (fail))
          refine wpQuiet_nil ?_
          intro _ hw'
          obtain ⟨pq, hw''⟩ := hw'
          subst hw''
          go_wp2
          go_roundw
          case rel =>
            refine ⟨k + 1, by omega, by go_num, fun j hj => ?_, hb.trans (pq.ok.mono hb.size)⟩
            by_cases e : j = k
            · subst e
              rw [HX1.out, HX2.out]
            · exact HS.out j (by omega)
          case measure => simp [intOf]; omega
        · have he2 : (x1 == x2) = false := by simpa using he
          have he3 : (x1 != x2) = true := by simpa using he
          go_wp2
          refine wp_region_after mixed (by kernel_rfl) ?_
          repeat (first | go_big_quiet_step (fail) | quiet_step (fail))
          refine wpQuiet_nil ?_
          intro _ hw'
          obtain ⟨pq, hw''⟩ := hw'
          subst hw''
          go_wp2
          go_ret
          refine ⟨ret_bool (decide_eq_false fun e => he ?_).symm, hb.trans (pq.ok.mono hb.size)⟩
          have h1 := HX1.out
          rw [e, HX2.out] at h1
          simpa using h1.symm
      · go_wp2
        go_ret
        exact ⟨ret_bool (decide_eq_true (same_upto l1 l2 (HN.out.symm.trans HM.out) n (by rw [← HN.out]; exact Nat.le_refl _) fun j hj => HS.out j (by omega))).symm, hb⟩
  · go_enter Tryd.func13, Tryd.ntmps13
    go_wp2
    go_ret
    exact ⟨ret_bool (decide_eq_false fun e => hnm (by rw [HN.out, HM.out, e])).symm, Below.refl _ _⟩
theorem Same_yes {A1 A2 : Option Addr} {l : List Int} {n1 n2 c1 c2 : Nat} {w : World} (h1 : n1 = l.length) (h2 : n2 = l.length) (hR1 : Row w w.heap.size A1 (flat (encZ .u64) l)) (hR2 : Row w w.heap.size A2 (flat (encZ .u64) l)) (hl : l.length ≤ maxLen) :
    Calls Tryd.prog 13 #[.slice A1 n1 c1, .slice A2 n2 c2] w fun e w' => e = .returned (.bool true) ∧ Below w.heap.size w w' := by
  subst h1
  subst h2
  have h := Same_any A1 A2 l l c1 c2 w hR1 hR2 hl hl
  rw [decide_eq_true rfl] at h
  exact h
end Go.Proofs.YtelnkbikgboblaaDoor.CellsRef
