/- TaskScripts: for every list of deeds and every list of words, a script of the deeds asks for each, in order, the same however often it is asked, till it has been told as many words as there are deeds, and tells just the words it was told; a script that no call made asks for nothing and tells nothing (of more than 300 deeds or words just the chapter's example is asked); the arguments read as they did. No condition. -/
import Derived.Test.YthlamnghbdaaiaaTaskAwake
import Derived.Test.YthlamnghbdaaiaaTaskEq
import Derived.Test.YthlamnghbdaaiaaFrame
import Derived.Deep.RegionHeld3
import Derived.Lib.MinMax
namespace Go.Proofs.Ythlamnghbdaaiaa.TaskScripts
open Go.ChangeShapes Go.WideShapes Go.ChangeAt Go.RowKit CM DM Lay Ints Cells Go.Proofs.Ythlamnghbdaaiaa.Task
set_option linter.unusedVariables false

/-- The law's script, behind some rounds. -/
structure At (w : World) (p q : Nat) (ds : List D) (fs : List Int) (wr : World) : Prop where
  scr : ∃ g, Scr wr p q g ds fs ∧ w.heap.size ≤ g
  base : w.heap.size ≤ p ∧ w.heap.size ≤ q
  below : Below w.heap.size w wr
theorem At.next {w wr w1 : World} {p q : Nat} {ds : List D} {fs : List Int} (hA : At w p q ds fs wr) (hb : Below wr.heap.size wr w1) : At w p q ds fs w1 := by
  obtain ⟨⟨g, hs, hg⟩, h0, hw⟩ := hA
  exact ⟨⟨g, hs.later hb, hg⟩, h0, hw.trans (hb.mono hw.size)⟩
theorem At.box {w wr : World} {p q : Nat} {ds : List D} {fs : List Int} (hA : At w p q ds fs wr) (o : Obj) : At w p q ds fs (wr.alloc o) := hA.next ((Below.refl _ _).alloc (Nat.le_refl _) _)
theorem At.told {w wr w1 : World} {p q g : Nat} {ds : List D} {fs fs' : List Int} (hA : At w p q ds fs wr) (hg : w.heap.size ≤ g) {e : Ending} (ht : WasTold wr p q g ds fs' e w1) : At w p q ds fs' w1 := by
  obtain ⟨_, ⟨h1, h2⟩, hw⟩ := hA
  obtain ⟨g', _, hs', hg', ho⟩ := ht
  have hsz := hw.size
  exact ⟨⟨g', hs', by omega⟩, ⟨h1, h2⟩, hw.trans (ho.below hsz (fun k hk => by omega))⟩
theorem cells5 (w : World) (x : D) : ∀ W, Below (w.alloc (.cells #[.int .i64 x.1, .int .i64 x.2.1, .int .u64 x.2.2.1, .int .u64 x.2.2.2.1, .int .u64 x.2.2.2.2] 29)).heap.size (w.alloc (.cells #[.int .i64 x.1, .int .i64 x.2.1, .int .u64 x.2.2.1, .int .u64 x.2.2.2.1, .int .u64 x.2.2.2.2] 29)) W →
    W.cell? ⟨w.heap.size, 0, none⟩ = some (.int .i64 x.1) ∧ W.cell? ⟨w.heap.size, 1, none⟩ = some (.int .i64 x.2.1) ∧ W.cell? ⟨w.heap.size, 2, none⟩ = some (.int .u64 x.2.2.1) ∧ W.cell? ⟨w.heap.size, 3, none⟩ = some (.int .u64 x.2.2.2.1) ∧ W.cell? ⟨w.heap.size, 4, none⟩ = some (.int .u64 x.2.2.2.2) :=
  fun W hb => (res5 hb).1
theorem row_take {w : World} {B j : Nat} {A : Option Addr} {xs : List Int} (h : Row w B A (flat (encZ .u64) xs)) : Row w B A (flat (encZ .u64) (xs.take j)) := fun hn => by
  have hne : flat (encZ .u64) xs ≠ [] := fun e => hn (by rw [flat_ints] at e ⊢; rw [List.map_take, e]; simp)
  obtain ⟨b, o, e, hb, hc⟩ := h hne
  refine ⟨b, o, e, hb, fun i v hv => hc i v ?_⟩
  rw [flat_ints] at hv ⊢
  rw [List.map_take, List.getElem?_take] at hv
  split at hv
  · exact hv
  · cases hv
theorem take_more {xs : List Int} {k n : Nat} {v : Int} (hv : xs[k]? = some v) (hn : k < n) : xs.take (min k n) ++ [v] = xs.take (min (k + 1) n) := by
  rw [Nat.min_eq_left (by omega), Nat.min_eq_left (by omega), List.take_add_one, hv]
  rfl
theorem take_same {xs : List Int} {k n : Nat} (hn : n ≤ k) : xs.take (min (k + 1) n) = xs.take (min k n) := by
  rw [Nat.min_eq_right (by omega), Nat.min_eq_right (by omega)]

set_option maxRecDepth 100000 in
set_option maxHeartbeats 1000000 in
theorem walk (A : Option Addr) (l : List D) (c : Nat) (B : Option Addr) (xs : List Int) (d : Nat) (w : World)
    (hR : Row w w.heap.size A (flat encD l)) (_ : l.length ≤ c) (hl : l.length ≤ maxLen) (_ : ∀ x ∈ l, (Lit.int .i64 x.1).wf = true ∧ (Lit.int .i64 x.2.1).wf = true ∧ (Lit.int .u64 x.2.2.1).wf = true ∧ (Lit.int .u64 x.2.2.2.1).wf = true ∧ (Lit.int .u64 x.2.2.2.2).wf = true)
    (hS : Row w w.heap.size B (flat (encZ .u64) xs)) (hcap : xs.length ≤ d) (hs : xs.length ≤ maxLen) (_ : ∀ x ∈ xs, (Lit.int .u64 x).wf = true) :
    Calls Try.prog 3 #[.slice A l.length c, .slice B xs.length d] w fun e w' => e = .returned (.bool true) ∧ Below w.heap.size w w' := by
  obtain ⟨n, hn⟩ : ∃ n, n = l.length := ⟨_, rfl⟩
  obtain ⟨m, hm⟩ : ∃ m, m = xs.length := ⟨_, rfl⟩
  unfold maxLen at hl hs
  rw [← hn] at hl ⊢
  rw [← hm] at hs hcap ⊢
  have HN := Lib.hid hn
  have HM := Lib.hid hm
  have HR := Lib.hid hR
  have HS := Lib.hid hS
  clear hn hm hR hS
  by_cases hbig : 300 < n
  · go_enter Try.func3, Try.ntmps3
    go_wp2_with fail
    refine (Law11.awake_any _).mono ?_
    rintro e w' ⟨rfl, hb⟩
    go_wp2
    go_ret
    exact ⟨rfl, hb⟩
  · by_cases hmany : 300 < m
    · go_enter Try.func3, Try.ntmps3
      go_wp2_with fail
      refine (Law11.awake_any _).mono ?_
      rintro e w' ⟨rfl, hb⟩
      go_wp2
      go_ret
      exact ⟨rfl, hb⟩
    · have hn6 : n ≤ 1000000 := by omega
      go_enter Try.func3, Try.ntmps3
      go_wp2_with fail
      refine (NewScript_any HR.out HN.out hn6).mono ?_
      rintro e w1 ⟨p, q, rfl, hs1, hp, hq, hb⟩
      have A1 := Lib.hid (At.mk (w := w) ⟨p, hs1, hp⟩ ⟨hp, hq⟩ hb)
      clear hs1 hp hq hb
      go_wp2
      go_loopw [6] (fun i wr => ∃ k : Nat, k ≤ m ∧ i = .int .i64 k ∧ At w p q l (xs.take (min k n)) wr) (fun i _ => m - (intOf i).toNat)
      case atStart => exact ⟨0, Nat.zero_le _, rfl, by rw [Nat.zero_min]; exact A1.out⟩
      case round =>
        obtain ⟨k, hk, rfl, ha⟩ := hrel
        have HA := Lib.hid ha
        clear ha
        by_cases hlt : k < m
        · obtain ⟨v, hv⟩ : ∃ v, xs[k]? = some v := ⟨_, List.getElem?_eq_getElem (by rw [← HM.out]; exact hlt)⟩
          by_cases hkn : k < n
          · obtain ⟨x, hx⟩ : ∃ x, l[k]? = some x := ⟨_, List.getElem?_eq_getElem (by rw [← HN.out]; exact hkn)⟩
            have HX := Lib.hid hx
            have HV := Lib.hid hv
            have HLEN := Lib.hid (show (xs.take (min k n)).length = k by have := HM.out; simp; omega)
            clear hx hv
            go_wp2_with fail
            refine (Next_more HA.out.scr.choose_spec.1 (by rw [HLEN.out]; exact HX.out)).mono ?_
            rintro e w' ⟨rfl, hb⟩
            have HA1 := Lib.hid ((HA.out.next hb).box (.cells #[.int .i64 x.1, .int .i64 x.2.1, .int .u64 x.2.2.1, .int .u64 x.2.2.2.1, .int .u64 x.2.2.2.2] 29))
            clear hb
            go_wp2_with fail
            refine (Next_more HA1.out.scr.choose_spec.1 (by rw [HLEN.out]; exact HX.out)).mono ?_
            rintro e w2 ⟨rfl, hb2⟩
            have HA2 := Lib.hid ((HA1.out.next hb2).box (.cells #[.int .i64 x.1, .int .i64 x.2.1, .int .u64 x.2.2.1, .int .u64 x.2.2.2.1, .int .u64 x.2.2.2.2] 29))
            obtain ⟨a_0, a_1, a_2, a_3, a_4⟩ := cells5 w' x _ ((hb2.alloc hb2.size (.cells #[.int .i64 x.1, .int .i64 x.2.1, .int .u64 x.2.2.1, .int .u64 x.2.2.2.1, .int .u64 x.2.2.2.2] 29)))
            obtain ⟨b_0, b_1, b_2, b_3, b_4⟩ := cells5 w2 x _ (Below.refl _ _)
            obtain ⟨bl, o, rfl, hbl, hc⟩ := Open.five_at (HR.out.later HA2.out.below) (by rw [← HN.out]; exact hkn)
            obtain ⟨d_0, d_1, d_2, d_3, d_4⟩ := hc k x HX.out
            have CD_0 := fun z : After (w2.alloc (.cells #[.int .i64 x.1, .int .i64 x.2.1, .int .u64 x.2.2.1, .int .u64 x.2.2.2.1, .int .u64 x.2.2.2.2] 29)) => z.cell d_0
            have CD_1 := fun z : After (w2.alloc (.cells #[.int .i64 x.1, .int .i64 x.2.1, .int .u64 x.2.2.1, .int .u64 x.2.2.2.1, .int .u64 x.2.2.2.2] 29)) => z.cell d_1
            have CD_2 := fun z : After (w2.alloc (.cells #[.int .i64 x.1, .int .i64 x.2.1, .int .u64 x.2.2.1, .int .u64 x.2.2.2.1, .int .u64 x.2.2.2.2] 29)) => z.cell d_2
            have CD_3 := fun z : After (w2.alloc (.cells #[.int .i64 x.1, .int .i64 x.2.1, .int .u64 x.2.2.1, .int .u64 x.2.2.2.1, .int .u64 x.2.2.2.2] 29)) => z.cell d_3
            have CD_4 := fun z : After (w2.alloc (.cells #[.int .i64 x.1, .int .i64 x.2.1, .int .u64 x.2.2.1, .int .u64 x.2.2.2.1, .int .u64 x.2.2.2.2] 29)) => z.cell d_4
            clear hc d_0 d_1 d_2 d_3 d_4
            have CA_0 := fun z : After (w2.alloc (.cells #[.int .i64 x.1, .int .i64 x.2.1, .int .u64 x.2.2.1, .int .u64 x.2.2.2.1, .int .u64 x.2.2.2.2] 29)) => z.cell a_0
            have CB_0 := fun z : After (w2.alloc (.cells #[.int .i64 x.1, .int .i64 x.2.1, .int .u64 x.2.2.1, .int .u64 x.2.2.2.1, .int .u64 x.2.2.2.2] 29)) => z.cell b_0
            have CA_1 := fun z : After (w2.alloc (.cells #[.int .i64 x.1, .int .i64 x.2.1, .int .u64 x.2.2.1, .int .u64 x.2.2.2.1, .int .u64 x.2.2.2.2] 29)) => z.cell a_1
            have CB_1 := fun z : After (w2.alloc (.cells #[.int .i64 x.1, .int .i64 x.2.1, .int .u64 x.2.2.1, .int .u64 x.2.2.2.1, .int .u64 x.2.2.2.2] 29)) => z.cell b_1
            have CA_2 := fun z : After (w2.alloc (.cells #[.int .i64 x.1, .int .i64 x.2.1, .int .u64 x.2.2.1, .int .u64 x.2.2.2.1, .int .u64 x.2.2.2.2] 29)) => z.cell a_2
            have CB_2 := fun z : After (w2.alloc (.cells #[.int .i64 x.1, .int .i64 x.2.1, .int .u64 x.2.2.1, .int .u64 x.2.2.2.1, .int .u64 x.2.2.2.2] 29)) => z.cell b_2
            have CA_3 := fun z : After (w2.alloc (.cells #[.int .i64 x.1, .int .i64 x.2.1, .int .u64 x.2.2.1, .int .u64 x.2.2.2.1, .int .u64 x.2.2.2.2] 29)) => z.cell a_3
            have CB_3 := fun z : After (w2.alloc (.cells #[.int .i64 x.1, .int .i64 x.2.1, .int .u64 x.2.2.1, .int .u64 x.2.2.2.1, .int .u64 x.2.2.2.2] 29)) => z.cell b_3
            have CA_4 := fun z : After (w2.alloc (.cells #[.int .i64 x.1, .int .i64 x.2.1, .int .u64 x.2.2.1, .int .u64 x.2.2.2.1, .int .u64 x.2.2.2.2] 29)) => z.cell a_4
            have CB_4 := fun z : After (w2.alloc (.cells #[.int .i64 x.1, .int .i64 x.2.1, .int .u64 x.2.2.1, .int .u64 x.2.2.2.1, .int .u64 x.2.2.2.2] 29)) => z.cell b_4
            have hgu := guardD
            have N1 := fun W => neqD x x W
            rw [decide_eq_true rfl] at N1
            simp only [Bool.not_true] at N1
            have hk1 : (k : Int) < (n : Int) := by omega
            have hk2 : decide ((k : Int) < (n : Int)) = true := by simpa using hkn
            clear hb2 a_0 a_1 a_2 a_3 a_4 b_0 b_1 b_2 b_3 b_4
            go_wp2
            refine wp_region_after mixed (by kernel_rfl) ?_
            repeat (first | go_big_quiet_step (fail) | quiet_step (fail))
            refine wpQuiet_nil ?_
            intro _ hw'
            obtain ⟨pq, hw''⟩ := hw'
            subst hw''
            have HA3 := Lib.hid (HA2.out.next pq.ok)
            generalize pq.x = w3 at HA3 ⊢
            obtain ⟨b2, o2, rfl, hbl2, hc2⟩ := int_at (HS.out.later HA3.out.below) (by rw [← HM.out]; exact hlt)
            have e0 := hc2 k v HV.out
            obtain ⟨g, hs3, hg3⟩ := HA3.out.scr
            have HS3 := Lib.hid hs3
            clear hc2 hs3 N1 hk2
            go_wp2_with fail
            refine (Tell_more HS3.out (by rw [HLEN.out, ← HN.out]; exact hkn) v).mono ?_
            rintro e w4 ht
            have HA4 := Lib.hid (HA3.out.told hg3 ht)
            obtain ⟨g', rfl, _⟩ := ht
            go_wp2
            go_roundw
            case rel => exact ⟨k + 1, by omega, by go_num, by have h := HA4.out; rwa [take_more HV.out hkn] at h⟩
            case measure => simp [intOf]; omega
          · have HV := Lib.hid hv
            have HLEN := Lib.hid (show (xs.take (min k n)).length = n by have := HM.out; simp; omega)
            clear hv
            go_wp2_with fail
            refine (Next_done HA.out.scr.choose_spec.1 (by rw [HLEN.out]; exact HN.out)).mono ?_
            rintro e w' ⟨rfl, hb⟩
            have HA1 := Lib.hid ((HA.out.next hb).box (.cells #[.int .i64 0, .int .i64 0, .int .u64 0, .int .u64 0, .int .u64 0] 29))
            clear hb
            go_wp2_with fail
            refine (Next_done HA1.out.scr.choose_spec.1 (by rw [HLEN.out]; exact HN.out)).mono ?_
            rintro e w2 ⟨rfl, hb2⟩
            have HA2 := Lib.hid ((HA1.out.next hb2).box (.cells #[.int .i64 0, .int .i64 0, .int .u64 0, .int .u64 0, .int .u64 0] 29))
            obtain ⟨a_0, a_1, a_2, a_3, a_4⟩ := cells5 w' ((0, 0, 0, 0, 0) : D) _ ((hb2.alloc hb2.size (.cells #[.int .i64 0, .int .i64 0, .int .u64 0, .int .u64 0, .int .u64 0] 29)))
            obtain ⟨b_0, b_1, b_2, b_3, b_4⟩ := cells5 w2 ((0, 0, 0, 0, 0) : D) _ (Below.refl _ _)
            simp only at a_0 a_1 a_2 a_3 a_4 b_0 b_1 b_2 b_3 b_4
            have CA_0 := fun z : After (w2.alloc (.cells #[.int .i64 0, .int .i64 0, .int .u64 0, .int .u64 0, .int .u64 0] 29)) => z.cell a_0
            have CB_0 := fun z : After (w2.alloc (.cells #[.int .i64 0, .int .i64 0, .int .u64 0, .int .u64 0, .int .u64 0] 29)) => z.cell b_0
            have CA_1 := fun z : After (w2.alloc (.cells #[.int .i64 0, .int .i64 0, .int .u64 0, .int .u64 0, .int .u64 0] 29)) => z.cell a_1
            have CB_1 := fun z : After (w2.alloc (.cells #[.int .i64 0, .int .i64 0, .int .u64 0, .int .u64 0, .int .u64 0] 29)) => z.cell b_1
            have CA_2 := fun z : After (w2.alloc (.cells #[.int .i64 0, .int .i64 0, .int .u64 0, .int .u64 0, .int .u64 0] 29)) => z.cell a_2
            have CB_2 := fun z : After (w2.alloc (.cells #[.int .i64 0, .int .i64 0, .int .u64 0, .int .u64 0, .int .u64 0] 29)) => z.cell b_2
            have CA_3 := fun z : After (w2.alloc (.cells #[.int .i64 0, .int .i64 0, .int .u64 0, .int .u64 0, .int .u64 0] 29)) => z.cell a_3
            have CB_3 := fun z : After (w2.alloc (.cells #[.int .i64 0, .int .i64 0, .int .u64 0, .int .u64 0, .int .u64 0] 29)) => z.cell b_3
            have CA_4 := fun z : After (w2.alloc (.cells #[.int .i64 0, .int .i64 0, .int .u64 0, .int .u64 0, .int .u64 0] 29)) => z.cell a_4
            have CB_4 := fun z : After (w2.alloc (.cells #[.int .i64 0, .int .i64 0, .int .u64 0, .int .u64 0, .int .u64 0] 29)) => z.cell b_4
            have hgu := guardD
            have N1 := fun W => neqD (0, 0, 0, 0, 0) (0, 0, 0, 0, 0) W
            rw [decide_eq_true rfl] at N1
            simp only [Bool.not_true] at N1
            have hk1 : ¬ (k : Int) < (n : Int) := by omega
            have hk2 : decide ((k : Int) < (n : Int)) = false := by simpa using hkn
            clear hb2 a_0 a_1 a_2 a_3 a_4 b_0 b_1 b_2 b_3 b_4
            go_wp2
            refine wp_region_after mixed (by kernel_rfl) ?_
            repeat (first | go_big_quiet_step (fail) | quiet_step (fail))
            refine wpQuiet_nil ?_
            intro _ hw'
            obtain ⟨pq, hw''⟩ := hw'
            subst hw''
            have HA3 := Lib.hid (HA2.out.next pq.ok)
            generalize pq.x = w3 at HA3 ⊢
            obtain ⟨b2, o2, rfl, hbl2, hc2⟩ := int_at (HS.out.later HA3.out.below) (by rw [← HM.out]; exact hlt)
            have e0 := hc2 k v HV.out
            obtain ⟨g, hs3, hg3⟩ := HA3.out.scr
            have HS3 := Lib.hid hs3
            clear hc2 hs3 N1 hk2
            go_wp2_with fail
            refine (Tell_done HS3.out (by rw [HLEN.out]; exact HN.out) v).mono ?_
            rintro e w4 ⟨rfl, hb4⟩
            have HA4 := Lib.hid (HA3.out.next hb4)
            clear hb4
            go_wp2
            go_roundw
            case rel => exact ⟨k + 1, by omega, by go_num, by rw [take_same (by omega)]; exact HA4.out⟩
            case measure => simp [intOf]; omega
        · obtain rfl : k = m := by omega
          obtain ⟨j, hj⟩ : ∃ j, j = min k n := ⟨_, rfl⟩
          obtain ⟨fs, hfs⟩ : ∃ fs, fs = xs.take (min k n) := ⟨_, rfl⟩
          have HFS := Lib.hid hfs
          have HJ := Lib.hid (show j = fs.length by have := HM.out; rw [hfs]; simp; omega)
          have HTK := Lib.hid (show xs.take j = fs by rw [hj, hfs])
          have hmin : min (n : Int) (k : Int) = (j : Int) := by omega
          have hjd : j ≤ d := by omega
          have hjd' : (j : Int) ≤ (d : Int) := by omega
          have HJL := Lib.hid (show j ≤ 300 by omega)
          rw [← hfs] at HA
          clear hj hfs
          by_cases hkn : k < n
          · obtain ⟨x, hx⟩ : ∃ x, l[k]? = some x := ⟨_, List.getElem?_eq_getElem (by rw [← HN.out]; exact hkn)⟩
            have HX := Lib.hid hx
            have HLEN := Lib.hid (show fs.length = k by have := HM.out; rw [HFS.out]; simp; omega)
            have hk2 : decide ((k : Int) < (n : Int)) = true := by simpa using hkn
            clear hx
            go_wp2_with fail
            refine (Next_more HA.out.scr.choose_spec.1 (by rw [HLEN.out]; exact HX.out)).mono ?_
            rintro e w' ⟨rfl, hb⟩
            have HA1 := Lib.hid (HA.out.next hb)
            clear hb
            go_wp2_with fail
            refine (Next_nil _).mono ?_
            rintro e w2 ⟨rfl, hb2⟩
            have HA2 := Lib.hid (((HA1.out.box _).next hb2).box (.cells #[.int .i64 0, .int .i64 0, .int .u64 0, .int .u64 0, .int .u64 0] 29))
            clear hb2
            go_wp2
            go_region_held3 (fun W => Below w.heap.size w W)
              ((first | (with_reducible exact HA2.out.below.drew) | (with_reducible exact HA3.out.below) | (with_reducible exact HA4.out.below) | (with_reducible exact HA5.out.below)))
              (first
                | (go_at_call 11; (with_reducible refine (Found_nil _).mono ?_); rintro e w5 ⟨rfl, rfl⟩)
                | (go_at_call 11; (with_reducible refine (Found_n HJ.out (HA2.out.next (Below.refl _ _).drew).scr.choose_spec.1).mono ?_); rintro e w3 ⟨A', c', rfl, hr, ha, hb⟩; have HA3 := Lib.hid ((HA2.out.next (Below.refl _ _).drew).next hb); have HR3 := Lib.hid hr; clear hr ha hb)
                | (go_at_call 10; refine (CellsRef.Same_yes (l := fs) HJ.out HJ.out HR3.out (by rw [← HTK.out]; exact row_take (HS.out.later HA3.out.below)) (by rw [← HJ.out]; have := HJL.out; simp only [maxLen]; omega)).mono ?_; rintro e w4 ⟨rfl, hb4⟩; have HA4 := Lib.hid (HA3.out.next hb4); clear hb4)
                | (go_at_call 6; refine (Law11.awake_any _).mono ?_; rintro e w6 ⟨rfl, hb6⟩; have HA5 := Lib.hid (HA4.out.next hb6); clear hb6))
            go_wp2
            go_ret
            exact ⟨rfl, HA5.out.below⟩
          · have HLEN := Lib.hid (show fs.length = n by have := HM.out; rw [HFS.out]; simp; omega)
            have hk2 : decide ((k : Int) < (n : Int)) = false := by simpa using hkn
            go_wp2_with fail
            refine (Next_done HA.out.scr.choose_spec.1 (by rw [HLEN.out]; exact HN.out)).mono ?_
            rintro e w' ⟨rfl, hb⟩
            have HA1 := Lib.hid (HA.out.next hb)
            clear hb
            go_wp2_with fail
            refine (Next_nil _).mono ?_
            rintro e w2 ⟨rfl, hb2⟩
            have HA2 := Lib.hid (((HA1.out.box _).next hb2).box (.cells #[.int .i64 0, .int .i64 0, .int .u64 0, .int .u64 0, .int .u64 0] 29))
            clear hb2
            go_wp2
            go_region_held3 (fun W => Below w.heap.size w W)
              ((first | (with_reducible exact HA2.out.below.drew) | (with_reducible exact HA3.out.below) | (with_reducible exact HA4.out.below) | (with_reducible exact HA5.out.below)))
              (first
                | (go_at_call 11; (with_reducible refine (Found_nil _).mono ?_); rintro e w5 ⟨rfl, rfl⟩)
                | (go_at_call 11; (with_reducible refine (Found_n HJ.out (HA2.out.next (Below.refl _ _).drew).scr.choose_spec.1).mono ?_); rintro e w3 ⟨A', c', rfl, hr, ha, hb⟩; have HA3 := Lib.hid ((HA2.out.next (Below.refl _ _).drew).next hb); have HR3 := Lib.hid hr; clear hr ha hb)
                | (go_at_call 10; refine (CellsRef.Same_yes (l := fs) HJ.out HJ.out HR3.out (by rw [← HTK.out]; exact row_take (HS.out.later HA3.out.below)) (by rw [← HJ.out]; have := HJL.out; simp only [maxLen]; omega)).mono ?_; rintro e w4 ⟨rfl, hb4⟩; have HA4 := Lib.hid (HA3.out.next hb4); clear hb4)
                | (go_at_call 6; refine (Law11.awake_any _).mono ?_; rintro e w6 ⟨rfl, hb6⟩; have HA5 := Lib.hid (HA4.out.next hb6); clear hb6))
            go_wp2
            go_ret
            exact ⟨rfl, HA5.out.below⟩
theorem laidOut : laidOutB Try.prog = true := by kernel_rfl
theorem own : ownKnob Try.prog.godebug = none := by kernel_rfl
theorem lifted (os : Os) (started : os.Started) (H : Type) (enc : TypeId × Value → H) :
    ReturnsInHanded {} Try.checked os 3 .any (Rows.taskScriptsSpec.pre6 enc Try.prog Try.f3 Rows.taskScriptsRow.domain false) (Rows.taskScriptsSpec.post enc Try.prog Try.f3 false true false false) := by
  refine Frame.lifted (C := Try.checked) (fn := Try.f3) (tb := 4) own started (by kernel_rfl) Try.func3
    (ChangeSpec.witness6 (enc := enc) (C := Try.checked) false ⟨#[], #[.slice none 0 0, .slice none 0 0], []⟩ 8 (by kernel_rfl) (by kernel_rfl) (by kernel_rfl) (by kernel_rfl))
    rfl rfl Try.underlying4 laidOut (by kernel_rfl) (fun ds h => by match ds, h with | [_, _], _ => rfl) ?_
  intro W base args ds ps hval0 hA0 hlt
  have hval : ∀ (j : Nat) t v, Try.f3.params[j]? = some t → args[j]? = some v → Value.okWide Try.prog W .any base t v := hval0
  have hA : DataW.TrodAll enc Try.prog W 0 (fun _ => true) true Try.f3.params.toList args.toList ds ps := hA0
  rw [Try.params3] at hA hval
  obtain ⟨v0, vs0, d0, ds0, p0, q0, hargs, rfl, rfl, h0, r0⟩ := trodAll_cons hA
  obtain ⟨v1, vs1, d1, ds1, p1, q1, rfl, rfl, rfl, h1, r1⟩ := trodAll_cons r0
  obtain ⟨rfl, rfl, rfl⟩ := trodAll_nil r1
  obtain rfl : args = #[v0, v1] := by cases args; simp_all
  obtain ⟨A0, x0, c0, rfl, b0, m0, R0, g0⟩ := Open.open_rows (k := 5) (Open.enc5 .i64 .i64 .u64 .u64 .u64) (fun x => (Lit.int .i64 x.1).wf = true ∧ (Lit.int .i64 x.2.1).wf = true ∧ (Lit.int .u64 x.2.2.1).wf = true ∧ (Lit.int .u64 x.2.2.2.1).wf = true ∧ (Lit.int .u64 x.2.2.2.2).wf = true) Try.underlying22 (by kernel_rfl) (by decide) (Open.enc5_length .i64 .i64 .u64 .u64 .u64) (fun n cs y h hl => Open.five_ints Try.underlying29 (by kernel_rfl) Try.underlying3 Try.underlying3 Try.underlying27 Try.underlying27 Try.underlying27 n cs y h hl) (hval 0 22 v0 rfl rfl) h0
  obtain ⟨A1, x1, c1, rfl, b1, m1, R1, g1⟩ := Open.open_rows (k := 1) (Ints.encZ .u64) (fun x => (Lit.int .u64 x).wf = true) Try.underlying23 (by kernel_rfl) (by decide) (Ints.encZ_length _) (fun n cs y h hl => Ints.one_int Try.underlying27 n cs y h hl) (hval 1 23 v1 rfl rfl) h1
  refine (walk A0 x0 c0 A1 x1 c1 W R0 b0 (Nat.le_trans b0 m0) g0 R1 b1 (Nat.le_trans b1 m1) g1).mono fun e W' h => ?_
  exact h

theorem over : Rows.taskScriptsRow.holds Try.pinned (OpenSpec.ofChange Rows.taskScriptsSpec) :=
  OpenClaim.holds_of_wide 3 Try.f3 rfl rfl rfl rfl rfl rfl rfl ⟨rfl, rfl, rfl, rfl, rfl⟩ rfl rfl rfl rfl rfl (by kernel_rfl) Try.func3 (by kernel_rfl)
    (of_decide_eq_true (by kernel_rfl)) (by unfold Func.isWrapper; first | (rw [if_pos (by decide +kernel)]; kernel_rfl) | (rw [if_neg (by decide +kernel)]; exact ⟨rfl, rfl⟩))
    (fun os started H enc _ => lifted os started H enc)

theorem proved : Rows.TaskScriptsSaid := over
#print axioms proved
end Go.Proofs.Ythlamnghbdaaiaa.TaskScripts
