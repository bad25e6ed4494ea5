/- The document's answers for layer 3 (package sundialref03): whether two lists are the same, and sorting by insertion. -/
import Derived.Test.YthbdhohbdidcnaaOrderRef
import Derived.Test.YthbdhohbdidcnaaOrderSort
namespace Go.Proofs.Ythbdhohbdidcnaa.OrderRef
open Go.ChangeShapes Go.WideShapes Go.RowKit Go.Sort OM Lay Order

theorem same_upto (l1 l2 : List Key) (h : l1.length = l2.length) (n : Nat) (hn : l1.length ≤ n) (hs : ∀ j, j < n → l1[j]? = l2[j]?) : l1 = l2 := by
  apply List.ext_getElem?
  intro j
  by_cases hj : j < n
  · exact hs j hj
  · rw [List.getElem?_eq_none (by omega), List.getElem?_eq_none (by omega)]

set_option maxHeartbeats 400000 in
theorem Same_any (A1 A2 : Option Addr) (l1 l2 : List Key) (c1 c2 : Nat) (w : World) (hR1 : Row w w.heap.size A1 (flat encK l1)) (hR2 : Row w w.heap.size A2 (flat encK l2)) (hl1 : l1.length ≤ maxLen) (hl2 : l2.length ≤ maxLen) :
    Calls Try.prog 13 #[.slice A1 l1.length c1, .slice A2 l2.length c2] w fun e w' => e = .returned (.bool (decide (l1 = l2))) ∧ Below w.heap.size w w' := by
  obtain ⟨n, hn⟩ : ∃ n, n = l1.length := ⟨_, rfl⟩
  obtain ⟨m, hm⟩ : ∃ m, m = l2.length := ⟨_, rfl⟩
  unfold maxLen at hl1 hl2
  rw [← hn] at hl1 ⊢
  rw [← hm] at hl2 ⊢
  have HN := Lib.hid hn
  have HM := Lib.hid hm
  clear hn hm
  have HR1 := Lib.hid hR1
  have HR2 := Lib.hid hR2
  clear hR1 hR2
  by_cases hnm : n = m
  · subst hnm
    go_enter Try.func13, Try.ntmps13
    go_wp2
    go_loopw [5] (fun i wr => ∃ k : Nat, k ≤ n ∧ i = .int .i64 k ∧ (∀ j, j < k → l1[j]? = l2[j]?) ∧ Below w.heap.size w wr)
      (fun i _ => n - (intOf i).toNat)
    case atStart => exact ⟨0, Nat.zero_le _, rfl, fun j h => by omega, Below.refl _ _⟩
    case round =>
      obtain ⟨k, hk, rfl, hs, hb⟩ := hrel
      have HS := Lib.hid hs
      clear hs
      by_cases hlt : k < n
      · have hk1 : k < l1.length := by rw [← HN.out]; exact hlt
        have hk2 : k < l2.length := by rw [← HM.out]; exact hlt
        obtain ⟨b1, o1, rfl, _, hc1⟩ := key_at (HR1.out.later hb) hk1
        obtain ⟨b2, o2, rfl, _, hc2⟩ := key_at (HR2.out.later hb) hk2
        obtain ⟨p0, p1⟩ := hc1 k l1[k] (List.getElem?_eq_getElem hk1)
        obtain ⟨q0, q1⟩ := hc2 k l2[k] (List.getElem?_eq_getElem hk2)
        have C0 := fun p : After wr => p.cell p0
        have C1 := fun p : After wr => p.cell p1
        have D0 := fun p : After wr => p.cell q0
        have D1 := fun p : After wr => p.cell q1
        clear hc1 hc2 p0 p1 q0 q1
        have hgu := guardK
        by_cases he : l1[k] = l2[k]
        · have N := fun W => neqK l1[k] l2[k] W
          rw [decide_eq_true he] at N
          simp only [Bool.not_true] at N
          have HE := Lib.hid he
          clear he
          go_wp2
          refine wp_region_after mixed (by kernel_rfl) ?_
          repeat (first | go_big_quiet_step (fail) | quiet_step (fail))
          refine wpQuiet_nil ?_
          intro _ hw'
          obtain ⟨pq, hw''⟩ := hw'
          subst hw''
          go_wp2
          go_roundw
          case rel =>
            refine ⟨k + 1, by omega, by go_num, fun j hj => ?_, hb.trans (pq.ok.mono hb.size)⟩
            by_cases e : j = k
            · subst e
              rw [List.getElem?_eq_getElem hk1, List.getElem?_eq_getElem hk2, HE.out]
            · exact HS.out j (by omega)
          case measure => simp [intOf]; omega
        · have N := fun W => neqK l1[k] l2[k] W
          rw [decide_eq_false he] at N
          simp only [Bool.not_false] at N
          have HE := Lib.hid he
          clear he
          go_wp2
          refine wp_region_after mixed (by kernel_rfl) ?_
          repeat (first | go_big_quiet_step (fail) | quiet_step (fail))
          refine wpQuiet_nil ?_
          intro _ hw'
          obtain ⟨pq, hw''⟩ := hw'
          subst hw''
          go_wp2
          go_ret
          refine ⟨ret_bool (decide_eq_false fun e => HE.out ?_).symm, hb.trans (pq.ok.mono hb.size)⟩
          subst e
          rfl
      · go_wp2
        go_ret
        exact ⟨ret_bool (decide_eq_true (same_upto l1 l2 (HN.out.symm.trans HM.out) n (by rw [← HN.out]; exact Nat.le_refl _) fun j hj => HS.out j (by omega))).symm, hb⟩
  · go_enter Try.func13, Try.ntmps13
    go_wp2
    go_ret
    exact ⟨ret_bool (decide_eq_false fun e => hnm (by rw [HN.out, HM.out, e])).symm, Below.refl _ _⟩

/-- While a key is moved ahead: it stands at place j, or another one does for it; whatever stands behind is greater. -/
def Moves (w : World) (base : Nat) (e : TypeId) (g cap m : Nat) (p : List Key) (x : Key) (v : Value) (wi : World) : Prop :=
  ∃ (j : Nat) (y : Key), j ≤ m ∧ v = .int .i64 j ∧ wi.ownsRow base e 2 (.slice (some ⟨g, 0, none⟩) (m + 1) cap) (m + 1) (flat encK (insL p j y)) ∧ (∀ t z, j ≤ t → p[t]? = some z → ltK x z = true) ∧ Below base w wi
theorem moves_start {w w1 : World} {base : Nat} {e : TypeId} {g cap m : Nat} {p : List Key} {x : Key} (hp : p.length = m) (hown : w1.ownsRow base e 2 (.slice (some ⟨g, 0, none⟩) (m + 1) cap) (m + 1) (flat encK p ++ encK x)) (hb : Below base w w1) :
    Moves w base e g cap m p x (.int .i64 m) w1 :=
  ⟨m, x, Nat.le_refl _, rfl, by subst hp; rw [insL_end, flat_append, flat_one]; exact hown, fun t z ht hz => by have := (List.getElem?_eq_some_iff.1 hz).1; omega, hb⟩
/-- One step ahead: two stores. -/
theorem moves_step {w wi : World} {base : Nat} {e : TypeId} {g cap m t : Nat} {p : List Key} {x y : Key} (hp : p.length = m) {z : Key} (hz : p[t]? = some z) (hg : base ≤ g) (hown : wi.ownsRow base e 2 (.slice (some ⟨g, 0, none⟩) (m + 1) cap) (m + 1) (flat encK (insL p (t + 1) y)))
    (hgt : ∀ i z, t + 1 ≤ i → p[i]? = some z → ltK x z = true) (hlt : ltK x z = true) (hb : Below base w wi) :
    Moves w base e g cap m p x (.int .i64 t) ((wi.setCell ⟨g, (t + 1) * 2, none⟩ (.int .i64 z.1)).setCell ⟨g, (t + 1) * 2 + 1, none⟩ (.int .u64 z.2)) := by
  obtain ⟨ht, rfl⟩ := List.getElem?_eq_some_iff.1 hz
  refine ⟨t, p[t], by omega, rfl, ?_, fun i u hi hu => ?_, (hb.setCell hg _).setCell hg _⟩
  · rw [← insL_step y ht]
    exact own_key_set hown (by rw [insL_length y (by omega)]; omega) p[t]
  · by_cases e : i = t
    · subst e
      rw [List.getElem?_eq_getElem ht] at hu
      simp only [Option.some.injEq] at hu
      rw [← hu]
      exact hlt
    · exact hgt i u (by omega) hu
/-- The key at its place. -/
theorem moves_end {w wi : World} {base : Nat} {e : TypeId} {g cap m j : Nat} {q p : List Key} {x y : Key} (hp : p = sortK q) (hpm : p.length = m) (hj : j ≤ m) (hg : base ≤ g) (hown : wi.ownsRow base e 2 (.slice (some ⟨g, 0, none⟩) (m + 1) cap) (m + 1) (flat encK (insL p j y)))
    (hgt : ∀ i z, j ≤ i → p[i]? = some z → ltK x z = true) (hlt : ∀ z, 0 < j → p[j - 1]? = some z → ltK x z = false) (hb : Below base w wi) :
    ((wi.setCell ⟨g, j * 2, none⟩ (.int .i64 x.1)).setCell ⟨g, j * 2 + 1, none⟩ (.int .u64 x.2)).ownsRow base e 2 (.slice (some ⟨g, 0, none⟩) (m + 1) cap) (m + 1) (flat encK (sortK (q ++ [x]))) ∧
      Below base w ((wi.setCell ⟨g, j * 2, none⟩ (.int .i64 x.1)).setCell ⟨g, j * 2 + 1, none⟩ (.int .u64 x.2)) := by
  refine ⟨?_, (hb.setCell hg _).setCell hg _⟩
  rw [← sortK_ins q p x j hp (by omega) hgt hlt]
  show World.ownsRow _ _ _ _ _ _ (flat encK (insL p j x))
  rw [← insL_set y x (by omega)]
  exact own_key_set hown (by rw [insL_length y (by omega)]; omega) x
set_option maxHeartbeats 1000000 in
theorem Sort_any (A : Option Addr) (l : List Key) (c : Nat) (w : World) (hR : Row w w.heap.size A (flat encK l)) (hl : l.length ≤ 1000000) : Calls Try.prog 15 #[.slice A l.length c] w (Lists w (sortK l)) := by
  obtain ⟨n, hn⟩ : ∃ n, n = l.length := ⟨_, rfl⟩
  rw [← hn] at hl ⊢
  have HN := Lib.hid hn
  clear hn
  have HR := Lib.hid hR
  clear hR
  obtain ⟨i0, hi, hz0, hz1, hz2⟩ := info_parts infoKey
  go_enter Try.func15, Try.ntmps15
  go_wp2
  go_loopw [3, 4] (fun v i wr => ∃ (m : Nat) (A' : Option Addr) (c' : Nat), m ≤ n ∧ i = .int .i64 m ∧ v = .slice A' m c' ∧ wr.ownsRow w.heap.size 25 2 (.slice A' m c') m (flat encK (sortK (l.take m))) ∧ Below w.heap.size w wr)
    (fun _ i _ => n - (intOf i).toNat)
  case atStart => exact ⟨0, none, 0, Nat.zero_le _, rfl, rfl, by rw [List.take_zero, sortK_nil]; exact World.ownsRow_nil _ _ _ _, Below.refl _ _⟩
  case round =>
    obtain ⟨m, A', c', hm, rfl, rfl, hown, hb⟩ := hrel
    obtain ⟨p, hp⟩ : ∃ p, p = sortK (l.take m) := ⟨_, rfl⟩
    rw [← hp] at hown
    have HP := Lib.hid hp
    clear hp
    have HO := Lib.hid hown
    clear hown
    by_cases hlt : m < n
    · have hlt' : m < l.length := by rw [← HN.out]; exact hlt
      have hpl : p.length = m := by rw [HP.out, sortK_length]; simp; omega
      have HPL := Lib.hid hpl
      clear hpl
      obtain ⟨b, o, rfl, hbB, hc⟩ := key_at (HR.out.later hb) hlt'
      obtain ⟨x, hx⟩ : ∃ x, l[m]? = some x := ⟨_, List.getElem?_eq_getElem hlt'⟩
      have HX := Lib.hid hx
      obtain ⟨c0, c1⟩ := hc m x hx
      clear hx
      clear hc
      have hsz := hb.size
      go_wp2_with (at_builtin; refine wpList_append_to _ w rfl (.tmp 14) (.tmp 19) 22 rfl w.heap.size 25 i0 _ 2 16 Try.underlying22 hi hz0 hz1 hz2 rfl (by decide) _ m (flat encK p) rfl (HO.out.alloc _) ⟨wr.heap.size, 0, none⟩ 1 1 (encK x) rfl (by decide) rfl (cells_new _ _ _) (encK_one _) (by simp only [maxLen]; omega) (by omega) (by simp; omega) (hb.alloc hb.size _) ?_; intro g cap w1 hown1 hg _ hb1)
      have hstart := moves_start HPL.out hown1 hb1
      clear hown1 hb1 c0 c1
      go_loopw [5] (fun v wi => Moves w w.heap.size 25 g cap m p x v wi) (fun v _ => (intOf v).toNat)
      case atStart => exact hstart
      case round =>
        obtain ⟨j, y, hj, rfl, howni, hgt, hbi⟩ := hrel
        have hgl := (howni.lt g rfl).2
        have HI := Lib.hid howni
        have HG := Lib.hid hgt
        clear howni hgt
        have hjl : j ≤ p.length := by rw [HPL.out]; exact hj
        obtain ⟨b', o', hbo, hbB', hc⟩ := key_at (HR.out.later hbi) hlt'
        simp only [Option.some.injEq, Addr.mk.injEq, and_true] at hbo
        obtain ⟨rfl, rfl⟩ := hbo
        obtain ⟨c0, c1⟩ := hc m x HX.out
        clear hc
        obtain ⟨t0, t1, t2, t3⟩ := own_key_at HI.out (by rw [insL_length y hjl, HPL.out]) (x := y) (j := j) (by rw [insL_get y hjl]; simp)
        have htake : l.take (m + 1) = l.take m ++ [x] := by
          rw [take_snoc l m hlt']
          congr 2
          have := HX.out
          rw [List.getElem?_eq_getElem hlt'] at this
          simpa using this
        have HT := Lib.hid htake
        clear htake
        by_cases h0 : j = 0
        · subst h0
          go_wp2
          refine wp_region_after mixed (by kernel_rfl) ?_
          repeat (first | go_big_quiet_step (fail) | quiet_step (fail))
          refine wpQuiet_nil ?_
          intro _ hw'
          obtain ⟨pq, hw''⟩ := hw'
          subst hw''
          have hq := pq.ok
          have d0 := pq.cell c0
          have d1 := pq.cell c1
          have e0 := pq.cell t0
          have e1 := pq.cell t1
          have e2 := pq.frozen hgl t2
          have e3 := pq.frozen hgl t3
          generalize pq.x = wq at hq d0 d1 e0 e1 e2 e3 ⊢
          clear c0 c1 t0 t1 t2 t3
          have HE := Lib.hid (moves_end HP.out HPL.out (Nat.zero_le _) hg (own_later HI.out hq) HG.out (fun z h _ => by omega) (hbi.trans (hq.mono hbi.size)) (x := x))
          go_wp2
          go_roundw
          case rel =>
            have h := HE.out
            simp only [Nat.zero_mul] at h
            exact ⟨m + 1, some ⟨g, 0, none⟩, cap, by omega, by go_num, rfl, by rw [HT.out]; exact h.1, h.2⟩
          case measure => simp [intOf]; omega
        · obtain ⟨t, rfl⟩ : ∃ t, j = t + 1 := ⟨j - 1, by omega⟩
          obtain ⟨z, hz⟩ : ∃ z, p[t]? = some z := ⟨_, List.getElem?_eq_getElem (by omega)⟩
          have HZ := Lib.hid hz
          obtain ⟨s0, s1, _, _⟩ := own_key_at HI.out (by rw [insL_length y hjl, HPL.out]) (x := z) (j := t) (by rw [insL_get y hjl, if_pos (by omega)]; exact hz)
          have C0 := fun p : After wr => p.cell c0
          have C1 := fun p : After wr => p.cell c1
          have S0 := fun p : After wr => p.cell s0
          have S1 := fun p : After wr => p.cell s1
          clear h0 hz
          by_cases hl0 : ltK x z = true
          · have HL := Lib.hid hl0
            clear hl0
            go_wp2
            refine wp_region_after mixed (by kernel_rfl) ?_
            repeat (first | go_big_quiet_step (exact calls_after (Less_is HL.out _)) | quiet_step (exact calls_after (Less_is HL.out _)))
            refine wpQuiet_nil ?_
            intro _ hw'
            obtain ⟨pq, hw''⟩ := hw'
            subst hw''
            have hq := pq.ok
            have d0 := pq.cell s0
            have d1 := pq.cell s1
            have e0 := pq.cell t0
            have e1 := pq.cell t1
            have e2 := pq.frozen hgl t2
            have e3 := pq.frozen hgl t3
            generalize pq.x = wq at hq d0 d1 e0 e1 e2 e3 ⊢
            clear c0 c1 s0 s1 t0 t1 t2 t3 C0 C1 S0 S1
            have HE := Lib.hid (moves_step HPL.out HZ.out hg (own_later HI.out hq) HG.out HL.out (hbi.trans (hq.mono hbi.size)))
            go_wp2
            go_roundw
            case rel => exact HE.out
            case measure => simp [intOf]
          · have hl1 : ltK x z = false := by simpa using hl0
            have HL := Lib.hid hl1
            clear hl0 hl1
            go_wp2
            refine wp_region_after mixed (by kernel_rfl) ?_
            repeat (first | go_big_quiet_step (exact calls_after (Less_is HL.out _)) | quiet_step (exact calls_after (Less_is HL.out _)))
            refine wpQuiet_nil ?_
            intro _ hw'
            obtain ⟨pq, hw''⟩ := hw'
            subst hw''
            have hq := pq.ok
            have d0 := pq.cell c0
            have d1 := pq.cell c1
            have e0 := pq.cell t0
            have e1 := pq.cell t1
            have e2 := pq.frozen hgl t2
            have e3 := pq.frozen hgl t3
            generalize pq.x = wq at hq d0 d1 e0 e1 e2 e3 ⊢
            clear c0 c1 s0 s1 t0 t1 t2 t3 C0 C1 S0 S1
            have HE := Lib.hid (moves_end HP.out HPL.out hj hg (own_later HI.out hq) HG.out (fun z' _ hz' => by have := HZ.out; rw [Nat.add_sub_cancel, this] at hz'; simp only [Option.some.injEq] at hz'; rw [← hz']; exact HL.out) (hbi.trans (hq.mono hbi.size)) (x := x))
            go_wp2
            go_roundw
            case rel => exact ⟨m + 1, some ⟨g, 0, none⟩, cap, by omega, by go_num, rfl, by rw [HT.out]; exact HE.out.1, HE.out.2⟩
            case measure => simp [intOf]; omega
    · go_wp2
      go_ret
      have hN := HN.out
      have hmn : m = l.length := by omega
      have h := HO.out
      rw [HP.out, List.take_of_length_le (by omega)] at h
      exact ⟨A', c', by rw [sortK_length, ← hmn]; rfl, Row.of_own h, hb⟩
end Go.Proofs.Ythbdhohbdidcnaa.OrderRef
