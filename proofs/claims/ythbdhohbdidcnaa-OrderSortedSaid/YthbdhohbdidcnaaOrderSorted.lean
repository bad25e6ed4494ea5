/- For every list of keys the law OrderSorted answers true, and it reads as it did: no condition. -/
import Derived.Test.YthbdhohbdidcnaaFrame
import Derived.Test.YthbdhohbdidcnaaOrderAwake
import Derived.Test.YthbdhohbdidcnaaOrderRefSort
namespace Go.Proofs.Ythbdhohbdidcnaa.OrderSorted
open Go.ChangeShapes Go.WideShapes Go.ChangeAt Go.RowKit OM Lay Order

set_option maxHeartbeats 2000000 in
theorem walk (A : Option Addr) (l : List Key) (c : Nat) (w : World) (hR : Row w w.heap.size A (flat encK l)) (hl : l.length ≤ maxLen) (_ : ∀ x ∈ l, (Lit.int .i64 x.1).wf = true ∧ (Lit.int .u64 x.2).wf = true) :
    Calls Try.prog 5 #[.slice A l.length c] w fun e w' => e = .returned (.bool true) ∧ Below w.heap.size w w' := by
  obtain ⟨n, hn⟩ : ∃ n, n = l.length := ⟨_, rfl⟩
  unfold maxLen at hl
  rw [← hn] at hl ⊢
  have HN := Lib.hid hn
  clear hn
  have HR := Lib.hid hR
  clear hR
  by_cases hbig : 200 < n
  · go_enter Try.func5, Try.ntmps5
    go_wp2_with fail
    refine (Law03.awake_any _).mono ?_
    rintro e w' ⟨rfl, hb1⟩
    go_wp2
    go_ret
    exact ⟨rfl, hb1⟩
  · obtain ⟨i0, hi, hz0, hz1, hz2⟩ := info_parts infoKey
    have hfl : (flat encK l).length = n * 2 := by rw [flat_length encK_length, HN.out]
    have HF := Lib.hid hfl
    clear hfl
    have hdec : decide ((200 : Int) < (n : Int)) = false := by simp; omega
    go_enter Try.func5, Try.ntmps5
    go_wp2_with (at_builtin; refine wpList_append_row _ w rfl (.tmp 10) (.tmp 11) 22 rfl w.heap.size 25 i0 _ 2 16 Try.underlying22 hi hz0 hz1 hz2 rfl (by decide) _ 0 [] rfl (World.ownsRow_made w #[] 0 (Nat.le_refl _) (by simp [maxLen]) (by simp)) A n c w.heap.size (flat encK l) rfl HF.out (HR.out.below ((Below.refl _ _).alloc (Nat.le_refl _) _)) (flat_oneCell encK_one l) (by simp only [maxLen]; omega) (by omega) (by simp) ((Below.refl _ _).alloc (Nat.le_refl _) _) ?_; intro A1 c1 w1 hown1 hb1)
    have R1 := HR.out.later hb1
    have hlen : l.length ≤ 1000000 := by have := HN.out; omega
    have hmx : l.length ≤ maxLen := by simp only [maxLen]; omega
    have HMX := Lib.hid hmx
    have hS := Sort_any A l c w1 R1 hlen
    have Rw := Row.of_own hown1
    rw [List.nil_append] at Rw
    obtain ⟨s, hs⟩ : ∃ s, s = sortK l := ⟨_, rfl⟩
    have hsl : s.length = n := by rw [hs, sortK_length, HN.out]
    rw [← HN.out, ← hs] at hS
    have HS := Lib.hid hs
    have HSL := Lib.hid hsl
    clear hs hsl hlen hmx hown1
    refine hS.mono ?_
    clear hS
    rintro e w2 ⟨A2, c2, he, hrow2, hb2⟩
    rw [HSL.out] at he
    subst he
    have hSame := OrderRef.Same_any A1 A l l c1 c w2 (Rw.later hb2) (R1.later hb2) HMX.out HMX.out
    rw [← HN.out, decide_eq_true rfl] at hSame
    have R2 := Lib.hid (R1.later hb2)
    have S2 := Lib.hid hrow2
    have HB := Lib.hid (hb1.trans (hb2.mono hb1.size))
    clear R1 Rw hb1 hb2 hrow2
    go_wp2_with fail
    refine hSame.mono ?_
    clear hSame
    rintro e w3 ⟨rfl, hb3⟩
    have R3 := Lib.hid (R2.out.later hb3)
    have S3 := Lib.hid (S2.out.later hb3)
    have HB3 := Lib.hid (HB.out.trans (hb3.mono HB.out.size))
    clear R2 S2 HB hb3
    go_wp2
    go_loopw [5] (fun i wr => ∃ k : Nat, k ≤ n ∧ i = .int .i64 k ∧ Below w3.heap.size w3 wr) (fun i _ => n - (intOf i).toNat)
    case atStart => exact ⟨0, Nat.zero_le _, rfl, Below.refl _ _⟩
    case round =>
      obtain ⟨k, hk, rfl, hb⟩ := hrel
      by_cases hlt : k < n
      · have hlt' : k < s.length := by rw [HSL.out]; exact hlt
        obtain ⟨b, o, hbo, _, hc⟩ := key_at (S3.out.later hb) hlt'
        subst hbo
        obtain ⟨y, hy⟩ : ∃ y, s[k]? = some y := ⟨_, List.getElem?_eq_getElem hlt'⟩
        have hy' := hy
        rw [HS.out] at hy'
        obtain ⟨c0, c1⟩ := hc k y hy
        have C0 := fun p : After wr => p.cell c0
        have C1 := fun p : After wr => p.cell c1
        have HR4 := Lib.hid (R3.out.later hb)
        have HY := Lib.hid hy'
        clear c0 c1 hy hy'
        by_cases h0 : k = 0
        · subst h0
          have hp : placeK l y = 0 := placeK_sorted l 0 y HY.out (fun _ h _ => by omega)
          have HP := Lib.hid hp
          clear hp hc
          rw [show ((0 : Nat) : Int) = 0 from rfl]
          simp only [Nat.zero_mul, Nat.add_zero] at C0 C1
          go_wp2
          refine wp_region_after mixed (by kernel_rfl) ?_
          repeat (first | go_big_quiet_step (exact calls_after (Place_is HN.out (HR4.out.after _) HMX.out HP.out)) | quiet_step (exact calls_after (Place_is HN.out (HR4.out.after _) HMX.out HP.out)))
          refine wpQuiet_nil ?_
          intro _ hw'
          obtain ⟨pq, hw''⟩ := hw'
          subst hw''
          go_wp2
          go_roundw
          case rel => exact ⟨1, by omega, by go_num, hb.trans (pq.ok.mono hb.size)⟩
          case measure => simp [intOf]; omega
        · obtain ⟨t, rfl⟩ : ∃ t, k = t + 1 := ⟨k - 1, by omega⟩
          obtain ⟨x, hx⟩ : ∃ x, s[t]? = some x := ⟨_, List.getElem?_eq_getElem (by omega)⟩
          obtain ⟨d0, d1⟩ := hc t x hx
          have D0 := fun p : After wr => p.cell d0
          have D1 := fun p : After wr => p.cell d1
          have hx' := hx
          rw [HS.out] at hx'
          have hle := sortK_le l t (t + 1) x y (by omega) hx' HY.out
          have hgu := OrderRef.guardK
          have N := fun W => OrderRef.neqK x y W
          have ht0 : ((t : Int) + 1 == 0) = false := by simp; omega
          clear hc d0 d1 hx h0
          by_cases he : x = y
          · subst he
            have HX := Lib.hid hx'
            have h1 : cmpK x x = 0 := by
              rcases cmpK_cases x x with ⟨g, _, _⟩ | ⟨_, g, _⟩ | ⟨_, _, _, g⟩
              · rw [ltK_irrefl] at g; cases g
              · rw [ltK_irrefl] at g; cases g
              · exact g
            have H1 := Lib.hid h1
            rw [decide_eq_true rfl] at N
            simp only [Bool.not_true] at N
            clear hx' h1 hle
            go_wp2
            refine wp_region_after mixed (by kernel_rfl) ?_
            repeat (first | go_big_quiet_step (exact calls_after (Cmp_is H1.out _)) | quiet_step (exact calls_after (Cmp_is H1.out _)))
            refine wpQuiet_nil ?_
            intro _ hw'
            obtain ⟨pq, hw''⟩ := hw'
            subst hw''
            go_wp2
            go_roundw
            case rel => exact ⟨t + 1 + 1, by omega, by go_num, hb.trans (pq.ok.mono hb.size)⟩
            case measure => simp [intOf]; omega
          · have h1 : cmpK x y = -1 := by
              rcases cmpK_cases x y with ⟨_, _, g⟩ | ⟨_, g, _⟩ | ⟨g, _⟩
              · exact g
              · rw [hle] at g; cases g
              · exact absurd g he
            have hp : placeK l y = t + 1 := placeK_sorted l (t + 1) y HY.out (fun z _ hz => by rw [Nat.add_sub_cancel, hx'] at hz; simp only [Option.some.injEq] at hz; rw [← hz]; exact he)
            have H1 := Lib.hid h1
            have HP := Lib.hid hp
            rw [decide_eq_false he] at N
            simp only [Bool.not_false] at N
            clear hx' h1 hle hp he
            go_wp2
            refine wp_region_after mixed (by kernel_rfl) ?_
            repeat (first | go_big_quiet_step ((first | (with_reducible exact calls_after (Cmp_is H1.out _)) | exact calls_after (Place_is HN.out (HR4.out.after _) HMX.out HP.out))) | quiet_step ((first | (with_reducible exact calls_after (Cmp_is H1.out _)) | exact calls_after (Place_is HN.out (HR4.out.after _) HMX.out HP.out))))
            refine wpQuiet_nil ?_
            intro _ hw'
            obtain ⟨pq, hw''⟩ := hw'
            subst hw''
            go_wp2
            go_roundw
            case rel => exact ⟨t + 1 + 1, by omega, by go_num, hb.trans (pq.ok.mono hb.size)⟩
            case measure => simp [intOf]; omega
      · go_wp2_with fail
        refine (Law03.awake_any _).mono ?_
        rintro e w' ⟨rfl, hb9⟩
        go_wp2
        go_ret
        exact ⟨rfl, HB3.out.trans ((hb.trans (hb9.mono hb.size)).mono HB3.out.size)⟩
theorem laidOut : laidOutB Try.prog = true := by kernel_rfl
theorem own : ownKnob Try.prog.godebug = none := by kernel_rfl
theorem lifted (os : Os) (started : os.Started) (H : Type) (enc : TypeId × Value → H) :
    ReturnsInHanded {} Try.checked os 5 .any (Rows.orderSortedSpec.pre6 enc Try.prog Try.f5 Rows.orderSortedRow.domain false) (Rows.orderSortedSpec.post enc Try.prog Try.f5 false true false false) := by
  refine Frame.lifted (C := Try.checked) (fn := Try.f5) (tb := 4) own started (by kernel_rfl) Try.func5
    (ChangeSpec.witness6 (enc := enc) (C := Try.checked) false ⟨#[], #[.slice none 0 0], []⟩ 8 (by kernel_rfl) (by kernel_rfl) (by kernel_rfl) (by kernel_rfl))
    rfl rfl Try.underlying4 laidOut (by kernel_rfl) (fun ds h => by match ds, h with | [_], _ => rfl) ?_
  intro W base args ds ps hval0 hA0 hlt
  have hval : ∀ (j : Nat) t v, Try.f5.params[j]? = some t → args[j]? = some v → Value.okWide Try.prog W .any base t v := hval0
  have hA : DataW.TrodAll enc Try.prog W 0 (fun _ => true) true Try.f5.params.toList args.toList ds ps := hA0
  rw [Try.params5] at hA hval
  obtain ⟨v0, vs0, d0, ds0, p0, q0, hargs, rfl, rfl, h0, r0⟩ := trodAll_cons hA
  obtain ⟨rfl, rfl, rfl⟩ := trodAll_nil r0
  obtain rfl : args = #[v0] := by cases args; simp_all
  obtain ⟨A0, x0, c0, rfl, b0, m0, R0, g0⟩ := Open.open_rows (k := 2) Order.encK (fun x => (Lit.int .i64 x.1).wf = true ∧ (Lit.int .u64 x.2).wf = true) Try.underlying22 (by kernel_rfl) (by decide) Order.encK_length (fun n cs y h hl => Open.two_ints Try.underlying25 (by kernel_rfl) Try.underlying3 Try.underlying23 n cs y h hl) (hval 0 22 v0 rfl rfl) h0
  refine (walk A0 x0 c0 W R0 (Nat.le_trans b0 m0) g0).mono fun e W' h => ?_
  exact h

theorem over : Rows.orderSortedRow.holds Try.pinned (OpenSpec.ofChange Rows.orderSortedSpec) :=
  OpenClaim.holds_of_wide 5 Try.f5 rfl rfl rfl rfl rfl rfl rfl ⟨rfl, rfl, rfl, rfl, rfl⟩ rfl rfl rfl rfl rfl (by kernel_rfl) Try.func5 (by kernel_rfl)
    (of_decide_eq_true (by kernel_rfl)) (by unfold Func.isWrapper; first | (rw [if_pos (by decide +kernel)]; kernel_rfl) | (rw [if_neg (by decide +kernel)]; exact ⟨rfl, rfl⟩))
    (fun os started H enc _ => lifted os started H enc)

theorem proved : Rows.OrderSortedSaid := over
#print axioms proved
end Go.Proofs.Ythbdhohbdidcnaa.OrderSorted
