/- TaskLedgers: for every list of notes (one of the kind 0 is a deed), a ledger keeps just the others, in order, each at how many deeds were counted ahead of it; no ledger takes all of them, and has none; and the chapter's example comes out (of more than 300 notes just that is asked); the argument reads as it did. No condition. -/
import Derived.Test.YthlamnghbdaaiaaTaskAwake
import Derived.Test.YthlamnghbdaaiaaTaskLedger
import Derived.Test.YthlamnghbdaaiaaTaskRef
import Derived.Test.YthlamnghbdaaiaaFrame
import Derived.Deep.RegionHeld3
namespace Go.Proofs.Ythlamnghbdaaiaa.TaskLedgers
open Go.ChangeShapes Go.WideShapes Go.ChangeAt Go.RowKit CM DM Lay Ints Cells Go.Proofs.Ythlamnghbdaaiaa.Task
set_option linter.unusedVariables false

/-- The law's ledger in block p, and its own list of what that should keep. -/
structure At (w : World) (p dn a fc : Nat) (F : Option Addr) (acts wants : List A4) (wr : World) : Prop where
  led : ∃ g, Led wr p g dn acts ∧ w.heap.size ≤ g ∧ (∀ x, F = some x → x.block ≠ p ∧ x.block ≠ g)
  base : w.heap.size ≤ p
  own : wr.ownsRow w.heap.size 46 4 (.slice F a fc) a (flat encA wants)
  below : Below w.heap.size w wr
theorem own_block {F : Option Addr} {a fc k : Nat} (h : (Value.slice F a fc).ownBlock = some k) : ∃ x, F = some x ∧ x.block = k := by
  cases F with
  | none => cases h
  | some x => exact ⟨x, rfl, by simpa [Value.ownBlock] using h⟩
theorem At.next {w wr w1 : World} {p dn a fc : Nat} {F : Option Addr} {acts wants : List A4} (h : At w p dn a fc F acts wants wr) (hb : Below wr.heap.size wr w1) : At w p dn a fc F acts wants w1 := by
  obtain ⟨⟨g, hl, hg, hf⟩, h0, ho, hw⟩ := h
  exact ⟨⟨g, hl.later hb, hg, hf⟩, h0, own_later ho hb, hw.trans (hb.mono hw.size)⟩
theorem At.box {w wr : World} {p dn a fc : Nat} {F : Option Addr} {acts wants : List A4} (h : At w p dn a fc F acts wants wr) (o : Obj) : At w p dn a fc F acts wants (wr.alloc o) := h.next ((Below.refl _ _).alloc (Nat.le_refl _) _)
theorem At.kept {w wr w1 : World} {p g dn dn' a fc : Nat} {F : Option Addr} {acts acts' wants : List A4} (h : At w p dn a fc F acts wants wr) (hg : w.heap.size ≤ g) (hf : ∀ x, F = some x → x.block ≠ p ∧ x.block ≠ g) {e : Ending} (hk : Kept wr p g dn' acts' e w1) : At w p dn' a fc F acts' wants w1 := by
  obtain ⟨_, h0, ho, hw⟩ := h
  obtain ⟨g', _, hl, hg', hon⟩ := hk
  have hs := hw.size
  refine ⟨⟨g', hl, by omega, fun x hx => ⟨(hf x hx).1, fun e => ?_⟩⟩, h0, hon.own ho (fun k hk => ?_), hw.trans (hon.below hs (fun k hk => by omega))⟩
  · have hlt := (ho.lt x.block (by subst hx; rfl)).2
    have := (hf x hx).2
    omega
  · obtain ⟨x, hx, rfl⟩ := own_block hk
    have := hf x hx
    omega
theorem At.append {w W0 w3 : World} {p dn a fc g2 cap : Nat} {F : Option Addr} {acts wants : List A4} {x : A4} (h : At w p dn a fc F acts wants W0)
    (ho : w3.ownsRow w.heap.size 46 4 (.slice (some ⟨g2, 0, none⟩) (a + 1) cap) (a + 1) (flat encA wants ++ encA x)) (hor : (Value.slice F a fc).ownBlock = some g2 ∨ g2 = W0.heap.size) (hon : Only (fun k => (Value.slice F a fc).ownBlock = some k) W0 w3) :
    At w p dn (a + 1) cap (some ⟨g2, 0, none⟩) acts (wants ++ [x]) w3 := by
  obtain ⟨⟨g, hl, hg, hf⟩, h0, ho0, hw⟩ := h
  have hp := hl.apart
  have hs := hw.size
  have hR : ∀ k, (Value.slice F a fc).ownBlock = some k → k ≠ p ∧ k ≠ g ∧ w.heap.size ≤ k := fun k hk => by
    obtain ⟨y, hy, rfl⟩ := own_block hk
    exact ⟨(hf y hy).1, (hf y hy).2, (ho0.lt _ hk).1⟩
  refine ⟨⟨g, hl.only hon (fun e => (hR p e).1 rfl) (fun e => (hR g e).2.1 rfl), hg, fun y hy => ?_⟩, h0, ?_, hw.trans (hon.below hs (fun k hk => (hR k hk).2.2))⟩
  · cases hy
    rcases hor with e | e
    · exact ⟨(hR _ e).1, (hR _ e).2.1⟩
    · show g2 ≠ p ∧ g2 ≠ g
      omega
  · rw [flat_append, flat_one]
    exact ho

set_option maxHeartbeats 1000000 in
theorem walk (A : Option Addr) (l : List A4) (c : Nat) (w : World) (hR : Row w w.heap.size A (flat encA l)) (hl : l.length ≤ maxLen) (_ : ∀ x ∈ l, (Lit.int .i64 x.1).wf = true ∧ (Lit.int .u64 x.2.1).wf = true ∧ (Lit.int .i64 x.2.2.1).wf = true ∧ (Lit.int .i64 x.2.2.2).wf = true) :
    Calls Try.prog 5 #[.slice A l.length c] w fun e w' => e = .returned (.bool true) ∧ Below w.heap.size w w' := by
  obtain ⟨n, hn⟩ : ∃ n, n = l.length := ⟨_, rfl⟩
  unfold maxLen at hl
  rw [← hn] at hl ⊢
  have HN := Lib.hid hn
  have HR := Lib.hid hR
  clear hn hR
  by_cases hbig : 300 < n
  · go_enter Try.func5, Try.ntmps5
    go_wp2_with fail
    refine (Law11.awake_any _).mono ?_
    rintro e w' ⟨rfl, hb⟩
    go_wp2
    go_ret
    exact ⟨rfl, hb⟩
  · have A0 := Lib.hid (show At w w.heap.size 0 0 0 none [] [] (w.alloc (.cells #[.int .i64 0, .slice none 0 0] 44)) from
      ⟨⟨w.heap.size, ⟨⟨none, 0, new_heap w _, World.ownsRow_nil _ _ _ _, fun a e => (by cases e)⟩, by simp, by simp⟩, Nat.le_refl _, fun x e => (by cases e)⟩, Nat.le_refl _, World.ownsRow_nil _ _ _ _, (Below.refl _ _).alloc (Nat.le_refl _) _⟩)
    obtain ⟨i0, hi, hz0, hz1, hz2⟩ := info_parts info_acts
    go_enter Try.func5, Try.ntmps5
    go_wp2
    go_loopw [5, 6, 7] (fun v s i wr => ∃ (k dn a fc : Nat) (F : Option Addr) (acts : List A4), k ≤ n ∧ dn ≤ k ∧ a ≤ k ∧ i = .int .i64 k ∧ s = .int .i64 dn ∧ v = .slice F a fc ∧ acts.length = a ∧ At w w.heap.size dn a fc F acts acts wr) (fun _ _ i _ => n - (intOf i).toNat)
    case atStart => exact ⟨0, 0, 0, 0, none, [], Nat.zero_le _, Nat.le_refl _, Nat.le_refl _, rfl, rfl, rfl, rfl, A0.out⟩
    case round =>
      obtain ⟨k, dn, a, fc, F, acts, hk, hdn, ha, rfl, rfl, rfl, hal, hat⟩ := hrel
      have HA := Lib.hid hat
      have HAL := Lib.hid hal
      clear hat hal
      by_cases hlt : k < n
      · obtain ⟨x, hx⟩ : ∃ x, l[k]? = some x := ⟨_, List.getElem?_eq_getElem (by rw [← HN.out]; exact hlt)⟩
        obtain ⟨b, o, rfl, hbl, hc⟩ := Open.four_at (HR.out.later HA.out.below) (by rw [← HN.out]; exact hlt)
        obtain ⟨c0, c1, c2, c3⟩ := hc k x hx
        obtain ⟨kd, hh, dd, ss⟩ := x
        simp only at c0 c1 c2 c3
        clear hc hx
        by_cases h0 : kd = 0
        · subst h0
          have HA1 := Lib.hid (HA.out.box (.cells #[.int .i64 0, .int .u64 hh, .int .i64 dd, .int .i64 ss] 46))
          obtain ⟨g, hl1, hg1, hf1⟩ := HA1.out.led
          have HL1 := Lib.hid hl1
          have HF1 := Lib.hid hf1
          clear hl1 hf1
          go_wp2_with fail
          refine (Step_any HL1.out (by omega)).mono ?_
          rintro e w2 hk2
          have HA2 := Lib.hid (HA1.out.kept hg1 HF1.out hk2)
          obtain ⟨_, rfl, _⟩ := hk2
          go_wp2_with fail
          refine (Step_nil _).mono ?_
          rintro e w3 ⟨rfl, rfl⟩
          go_wp2
          go_roundw
          case rel => exact ⟨k + 1, dn + 1, a, fc, F, acts, by omega, by omega, by omega, by go_num, by go_num, rfl, HAL.out, HA2.out⟩
          case measure => simp [intOf]; omega
        · have h1 : (kd == 0) = false := by simpa using h0
          have HA1 := Lib.hid (HA.out.box (.cells #[.int .i64 kd, .int .u64 hh, .int .i64 dd, .int .i64 ss] 46))
          obtain ⟨g, hl1, hg1, hf1⟩ := HA.out.led
          have hap := hl1.apart
          have HL1 := Lib.hid (hl1.later ((Below.refl _ _).alloc (Nat.le_refl _) (.cells #[.int .i64 kd, .int .u64 hh, .int .i64 dd, .int .i64 ss] 46)))
          have HF1 := Lib.hid hf1
          have hq := new_heap wr (.cells #[.int .i64 kd, .int .u64 hh, .int .i64 dd, .int .i64 ss] 46)
          have HQ := Lib.hid hq
          have HNB := Lib.hid (show ¬ (wr.heap.size = w.heap.size ∨ wr.heap.size = g) by omega)
          clear hl1 hf1 hap hq
          go_wp2_with fail
          refine (Note_any HL1.out (by rw [HAL.out]; omega) kd hh dd).mono ?_
          rintro e w2 hk2
          have HA2 := Lib.hid (HA1.out.kept hg1 HF1.out hk2)
          obtain ⟨_, rfl, _, _, ho2⟩ := hk2
          have hb2 := ho2.heap HQ.out HNB.out
          have e0 := (cell_heap hb2 0).1
          have e1 := (cell_heap hb2 1).1
          have e2 := (cell_heap hb2 2).1
          simp at e0 e1 e2
          have HA3 := Lib.hid (HA2.out.box (.cells #[.int .i64 kd, .int .u64 hh, .int .i64 dd, .int .i64 dn] 46))
          clear ho2 hb2
          go_wp2_with fail
          refine (Note_nil _ _ _ _).mono ?_
          rintro e w3 ⟨rfl, rfl⟩
          go_wp2_with (at_builtin; refine wpList_append_only _ rfl (.tmp 50) (.tmp 59) 41 rfl w.heap.size 46 i0 _ 4 32 Try.underlying41 hi hz0 hz1 hz2 rfl (by decide) _ a _ rfl HA3.out.own ⟨w2.heap.size, 0, none⟩ 1 1 (encA (kd, hh, dd, (dn : Int))) rfl (by decide) rfl (cells_new _ _ _) (encA_one _) (by simp only [maxLen]; omega) (by omega) (by have := HA3.out.below.size; omega) ?_; intro g2 cap w4 ho4 hg4 hlt4 hor4 hon4; have HA4 := Lib.hid (HA3.out.append ho4 hor4 hon4); clear ho4 hor4 hon4)
          go_roundw
          case rel => exact ⟨k + 1, dn, a + 1, cap, some ⟨g2, 0, none⟩, acts ++ [(kd, hh, dd, (dn : Int))], by omega, by omega, by omega, by go_num, rfl, rfl, by rw [List.length_append, HAL.out]; rfl, HA4.out⟩
          case measure => simp [intOf]; omega
      · obtain rfl : k = n := by omega
        obtain ⟨g, hl1, hg1, hf1⟩ := HA.out.led
        have HL1 := Lib.hid hl1
        have HALs := Lib.hid HAL.out.symm
        clear hl1 hf1
        go_wp2_with fail
        refine (Acts_any HALs.out HL1.out).mono ?_
        rintro e w2 ⟨A', c', rfl, hr, hnew, hb2⟩
        have HA2 := Lib.hid (HA.out.next hb2)
        have HR2 := Lib.hid hr
        clear hr hnew hb2
        go_wp2_with fail
        refine (TaskRef.Acts_yes (l := acts) HALs.out HALs.out HR2.out (Row.of_own HA2.out.own) (by omega)).mono ?_
        rintro e w3 ⟨rfl, hb3⟩
        have HA3 := Lib.hid (HA2.out.next hb3)
        clear hb3
        go_wp2_with fail
        refine (Acts_nil _).mono ?_
        rintro e w4 ⟨rfl, rfl⟩
        go_wp2_with fail
        refine (Law11.awake_any _).mono ?_
        rintro e w5 ⟨rfl, hb5⟩
        go_wp2
        go_ret
        exact ⟨rfl, (HA3.out.next hb5).below⟩
theorem laidOut : laidOutB Try.prog = true := by kernel_rfl
theorem own : ownKnob Try.prog.godebug = none := by kernel_rfl
theorem lifted (os : Os) (started : os.Started) (H : Type) (enc : TypeId × Value → H) :
    ReturnsInHanded {} Try.checked os 5 .any (Rows.taskLedgersSpec.pre6 enc Try.prog Try.f5 Rows.taskLedgersRow.domain false) (Rows.taskLedgersSpec.post enc Try.prog Try.f5 false true false false) := by
  refine Frame.lifted (C := Try.checked) (fn := Try.f5) (tb := 4) own started (by kernel_rfl) Try.func5
    (ChangeSpec.witness6 (enc := enc) (C := Try.checked) false ⟨#[], #[.slice none 0 0], []⟩ 8 (by kernel_rfl) (by kernel_rfl) (by kernel_rfl) (by kernel_rfl))
    rfl rfl Try.underlying4 laidOut (by kernel_rfl) (fun ds h => by match ds, h with | [_], _ => rfl) ?_
  intro W base args ds ps hval0 hA0 hlt
  have hval : ∀ (j : Nat) t v, Try.f5.params[j]? = some t → args[j]? = some v → Value.okWide Try.prog W .any base t v := hval0
  have hA : DataW.TrodAll enc Try.prog W 0 (fun _ => true) true Try.f5.params.toList args.toList ds ps := hA0
  rw [Try.params5] at hA hval
  obtain ⟨v0, vs0, d0, ds0, p0, q0, hargs, rfl, rfl, h0, r0⟩ := trodAll_cons hA
  obtain ⟨rfl, rfl, rfl⟩ := trodAll_nil r0
  obtain rfl : args = #[v0] := by cases args; simp_all
  obtain ⟨A0, x0, c0, rfl, b0, m0, R0, g0⟩ := Open.open_rows (k := 4) (Open.enc4 .i64 .u64 .i64 .i64) (fun x => (Lit.int .i64 x.1).wf = true ∧ (Lit.int .u64 x.2.1).wf = true ∧ (Lit.int .i64 x.2.2.1).wf = true ∧ (Lit.int .i64 x.2.2.2).wf = true) Try.underlying41 (by kernel_rfl) (by decide) (Open.enc4_length .i64 .u64 .i64 .i64) (fun n cs y h hl => Open.four_ints Try.underlying46 (by kernel_rfl) Try.underlying3 Try.underlying27 Try.underlying3 Try.underlying3 n cs y h hl) (hval 0 41 v0 rfl rfl) h0
  refine (walk A0 x0 c0 W R0 (Nat.le_trans b0 m0) g0).mono fun e W' h => ?_
  exact h

theorem over : Rows.taskLedgersRow.holds Try.pinned (OpenSpec.ofChange Rows.taskLedgersSpec) :=
  OpenClaim.holds_of_wide 5 Try.f5 rfl rfl rfl rfl rfl rfl rfl ⟨rfl, rfl, rfl, rfl, rfl⟩ rfl rfl rfl rfl rfl (by kernel_rfl) Try.func5 (by kernel_rfl)
    (of_decide_eq_true (by kernel_rfl)) (by unfold Func.isWrapper; first | (rw [if_pos (by decide +kernel)]; kernel_rfl) | (rw [if_neg (by decide +kernel)]; exact ⟨rfl, rfl⟩))
    (fun os started H enc _ => lifted os started H enc)

theorem proved : Rows.TaskLedgersSaid := over
#print axioms proved
end Go.Proofs.Ythlamnghbdaaiaa.TaskLedgers
