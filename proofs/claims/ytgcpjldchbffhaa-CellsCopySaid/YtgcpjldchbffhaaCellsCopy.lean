/- CellsCopy: for every list of words, every place and every word, a copy has the same words and goes its own way, what was told stays as it was, and what was stored is found (of a list of more than 300 words just the chapter's example is asked); the arguments read as they did. No condition. -/
import Derived.Test.YtgcpjldchbffhaaFrame
import Derived.Test.YtgcpjldchbffhaaCellsAwake
namespace Go.Proofs.Ytgcpjldchbffhaa.CellsCopy
open Go.ChangeShapes Go.WideShapes Go.ChangeAt Go.RowKit CM Lay Ints Cells

theorem block_ne {g h : Nat} {q : Prop} (hne : g ≠ h) : q → ∀ a, some (⟨g, 0, none⟩ : Addr) = some a → a.block ≠ h := fun _ a ha => by cases ha; exact hne
theorem swap_is {p h n : Nat} {l l' : List Int} {f : Int} {w : World} (hM : Mem w p h n l) (i a v : Int) (hf : getI l i = f) (hs : swapI l i a v = l') : Calls Try.prog 17 #[.pointer (some ⟨p, 0, none⟩), .int .i64 i, .int .u64 a, .int .u64 v] w (Does w p h n f l') := by
  rw [← hf, ← hs]
  exact Swap_any hM i a v
theorem load_is {p h n : Nat} {l : List Int} {f : Int} {w : World} (hM : Mem w p h n l) (i : Int) (hf : getI l i = f) : Calls Try.prog 15 #[.pointer (some ⟨p, 0, none⟩), .int .i64 i] w fun e w' => e = .returned (.int .u64 f) ∧ w = w' := by
  rw [← hf]
  exact Load_any hM i
theorem store_is {p h n : Nat} {l l' : List Int} {f : Int} {w : World} (hM : Mem w p h n l) (i v : Int) (hf : getI l i = f) (hs : setI l i v = l') : Calls Try.prog 16 #[.pointer (some ⟨p, 0, none⟩), .int .i64 i, .int .u64 v] w (Does w p h n f l') := by
  rw [← hf, ← hs]
  exact Store_any hM i v

set_option maxHeartbeats 4000000 in
theorem walk (A : Option Addr) (l : List Int) (c : Nat) (i v : Int) (_ : (Lit.int .i64 i).wf = true) (_ : (Lit.int .u64 v).wf = true) (w : World)
    (hR : Row w w.heap.size A (flat (encZ .u64) l)) (hl : l.length ≤ maxLen) (_ : ∀ x ∈ l, (Lit.int .u64 x).wf = true) :
    Calls Try.prog 5 #[.slice A l.length c, .int .i64 i, .int .u64 v] w fun e w' => e = .returned (.bool true) ∧ Below w.heap.size w w' := by
  obtain ⟨n, hn⟩ : ∃ n, n = l.length := ⟨_, rfl⟩
  unfold maxLen at hl
  rw [← hn] at hl ⊢
  have HN := Lib.hid hn
  have HR := Lib.hid hR
  clear hn hR
  by_cases hbig : 300 < n
  · go_enter Try.func5, Try.ntmps5
    go_wp2_with fail
    refine (Law06.awake_any _).mono ?_
    rintro e w' ⟨rfl, hb⟩
    go_wp2
    go_ret
    exact ⟨rfl, hb⟩
  · have hfit : n ≤ 4096 := by omega
    have HX := Lib.hid (show l.length ≤ maxLen by rw [← HN.out]; simp only [maxLen]; omega)
    obtain ⟨f, hf⟩ : ∃ f, getI l i = f := ⟨_, rfl⟩
    obtain ⟨l2, hl2⟩ : ∃ l2, setI l i v = l2 := ⟨_, rfl⟩
    have F := Lib.hid hf
    have L2 := Lib.hid hl2
    have FF := Lib.hid (show (f == f) = true by simp)
    clear hf hl2
    go_enter Try.func5, Try.ntmps5
    go_wp2_with fail
    refine (Of_any HR.out HN.out hfit).mono ?_
    rintro e w1 ⟨p, h, rfl, m1, p1, h1, b1⟩
    have M1 := Lib.hid m1
    have B1 := Lib.hid b1
    have LT1 := Lib.hid m1.lt
    clear m1 b1
    go_wp2_with fail
    refine (Copy_any M1.out).mono ?_
    rintro e w2 ⟨p2, h2, rfl, m2, hp2, hh2, b2⟩
    have N2 := Lib.hid m2
    have M2 := Lib.hid (M1.out.later b2)
    have B2 := Lib.hid (B1.out.trans (b2.mono B1.out.size))
    have NP := Lib.hid (show p2 ≠ h by have := LT1.out.2; omega)
    have NH := Lib.hid (show h2 ≠ h by have := LT1.out.2; omega)
    clear m2 b2 hp2 hh2
    go_wp2_with fail
    refine (Words_any M2.out).mono ?_
    rintro e w' ⟨rfl, o3, b3⟩
    have R3 := Lib.hid (Row.of_own o3)
    have M3 := Lib.hid (M2.out.later b3)
    have N3 := Lib.hid (N2.out.later b3)
    have B3 := Lib.hid (B2.out.trans (b3.mono B2.out.size))
    clear o3 b3
    go_wp2_with fail
    refine (Words_any N3.out).mono ?_
    rintro e w' ⟨rfl, o4, b4⟩
    have R4 := Lib.hid (Row.of_own o4)
    have Q4 := Lib.hid (R3.out.later b4)
    have M4 := Lib.hid (M3.out.later b4)
    have N4 := Lib.hid (N3.out.later b4)
    have B4 := Lib.hid (B3.out.trans (b4.mono B3.out.size))
    clear o4 b4
    go_wp2_with fail
    refine (CellsRef.Same_yes (l := l) HN.out HN.out Q4.out R4.out HX.out).mono ?_
    rintro e w' ⟨rfl, b5⟩
    have M5 := Lib.hid (M4.out.later b5)
    have N5 := Lib.hid (N4.out.later b5)
    have B5 := Lib.hid (B4.out.trans (b5.mono B4.out.size))
    clear b5
    go_wp2_with fail
    refine (Words_any M5.out).mono ?_
    rintro e w' ⟨rfl, o6, b6⟩
    have T6 := Lib.hid (Row.of_own o6)
    have LT6 := Lib.hid (M5.out.lt)
    have M6 := Lib.hid (M5.out.later b6)
    have N6 := Lib.hid (N5.out.later b6)
    have B6 := Lib.hid (B5.out.trans (b6.mono B5.out.size))
    clear o6 b6
    go_wp2_with fail
    refine (load_is M6.out i F.out).mono ?_
    rintro e w' ⟨rfl, rfl⟩
    go_wp2_with fail
    refine (store_is M6.out i v F.out L2.out).mono ?_
    rintro e w' ⟨rfl, g7, m7⟩
    have M7 := Lib.hid m7
    have N7 := Lib.hid (N6.out.grown g7 NP.out NH.out)
    have T7 := Lib.hid (row_grown T6.out g7 (block_ne (Ne.symm (Nat.ne_of_lt LT6.out.2))))
    have R7 := Lib.hid (row_grown (HR.out.later B6.out) g7 (row_old HR.out h1))
    have B7 := Lib.hid (below_of_grown B6.out g7 B6.out.size h1)
    clear m7 g7
    go_wp2_with fail
    refine (load_is N7.out i F.out).mono ?_
    rintro e w' ⟨rfl, rfl⟩
    go_wp2_with fail
    refine (Words_any N7.out).mono ?_
    rintro e w' ⟨rfl, o8, b8⟩
    have R8 := Lib.hid (Row.of_own o8)
    have M8 := Lib.hid (M7.out.later b8)
    have T8 := Lib.hid (T7.out.later b8)
    have L8 := Lib.hid (R7.out.later b8)
    have B8 := Lib.hid (B7.out.trans (b8.mono B7.out.size))
    clear o8 b8
    go_wp2_with fail
    refine (CellsRef.Same_yes (l := l) HN.out HN.out T8.out R8.out HX.out).mono ?_
    rintro e w' ⟨rfl, b9⟩
    have M9 := Lib.hid (M8.out.later b9)
    have T9 := Lib.hid (T8.out.later b9)
    have L9 := Lib.hid (L8.out.later b9)
    have B9 := Lib.hid (B8.out.trans (b9.mono B8.out.size))
    clear b9
    go_wp2_with fail
    refine (CellsRef.Same_yes (l := l) HN.out HN.out L9.out T9.out HX.out).mono ?_
    rintro e w' ⟨rfl, b10⟩
    have M10 := Lib.hid (M9.out.later b10)
    have L10 := Lib.hid (L9.out.later b10)
    have B10 := Lib.hid (B9.out.trans (b10.mono B9.out.size))
    clear b10
    by_cases hi : there l i
    · have hg2 : getI l2 i = v := by rw [← L2.out]; exact get_set hi v
      have G2 := Lib.hid hg2
      have S2 := Lib.hid (show swapI l2 i ((v + 1) % 18446744073709551616) 0 = l2 by unfold swapI; exact if_neg (fun e => by rw [hg2] at e; omega))
      have S3 := Lib.hid (show swapI l2 i v f = l by unfold swapI; rw [if_pos hg2, ← L2.out, set_set, ← F.out]; exact set_get l i)
      obtain ⟨i0, i1⟩ := hi
      rw [← HN.out] at i1
      clear hg2
      go_wp2_with fail
      refine (load_is M10.out i G2.out).mono ?_
      rintro e w' ⟨rfl, rfl⟩
      go_wp2_with fail
      refine (swap_is M10.out i ((v + 1) % 18446744073709551616) 0 G2.out S2.out).mono ?_
      rintro e w' ⟨rfl, g11, m11⟩
      have M11 := Lib.hid m11
      have L11 := Lib.hid (row_grown L10.out g11 (row_old HR.out h1))
      have B11 := Lib.hid (below_of_grown B10.out g11 B10.out.size h1)
      clear m11 g11
      go_wp2_with fail
      refine (swap_is M11.out i v f G2.out S3.out).mono ?_
      rintro e w' ⟨rfl, g12, m12⟩
      have M12 := Lib.hid m12
      have L12 := Lib.hid (row_grown L11.out g12 (row_old HR.out h1))
      have B12 := Lib.hid (below_of_grown B11.out g12 B11.out.size h1)
      clear m12 g12
      go_wp2_with fail
      refine (Words_any M12.out).mono ?_
      rintro e w' ⟨rfl, o13, b13⟩
      have R13 := Lib.hid (Row.of_own o13)
      have L13 := Lib.hid (L12.out.later b13)
      have B13 := Lib.hid (B12.out.trans (b13.mono B12.out.size))
      clear o13 b13
      go_wp2_with fail
      refine (CellsRef.Same_yes (l := l) HN.out HN.out R13.out L13.out HX.out).mono ?_
      rintro e w' ⟨rfl, b14⟩
      have B14 := Lib.hid (B13.out.trans (b14.mono B13.out.size))
      clear b14
      go_wp2_with fail
      refine (Law06.awake_any _).mono ?_
      rintro e w' ⟨rfl, b15⟩
      have B15 := Lib.hid (B14.out.trans (b15.mono B14.out.size))
      clear b15
      go_wp2
      go_ret
      exact ⟨rfl, B15.out⟩
    · have E2 := Lib.hid (show l2 = l by rw [← L2.out]; exact setI_out hi v)
      unfold there at hi
      rw [← HN.out] at hi
      have hm10 := M10.out
      rw [E2.out] at hm10
      have M11 := Lib.hid hm10
      clear hm10
      by_cases i0 : 0 ≤ i
      · have i1 : (n : Int) ≤ i := by omega
        clear hi
        go_wp2_with fail
        refine (Words_any M11.out).mono ?_
        rintro e w' ⟨rfl, o13, b13⟩
        have R13 := Lib.hid (Row.of_own o13)
        have L13 := Lib.hid (L10.out.later b13)
        have B13 := Lib.hid (B10.out.trans (b13.mono B10.out.size))
        clear o13 b13
        go_wp2_with fail
        refine (CellsRef.Same_yes (l := l) HN.out HN.out R13.out L13.out HX.out).mono ?_
        rintro e w' ⟨rfl, b14⟩
        have B14 := Lib.hid (B13.out.trans (b14.mono B13.out.size))
        clear b14
        go_wp2_with fail
        refine (Law06.awake_any _).mono ?_
        rintro e w' ⟨rfl, b15⟩
        have B15 := Lib.hid (B14.out.trans (b15.mono B14.out.size))
        clear b15
        go_wp2
        go_ret
        exact ⟨rfl, B15.out⟩
      · have i1 : i < 0 := by omega
        clear hi i0
        go_wp2_with fail
        refine (Words_any M11.out).mono ?_
        rintro e w' ⟨rfl, o13, b13⟩
        have R13 := Lib.hid (Row.of_own o13)
        have L13 := Lib.hid (L10.out.later b13)
        have B13 := Lib.hid (B10.out.trans (b13.mono B10.out.size))
        clear o13 b13
        go_wp2_with fail
        refine (CellsRef.Same_yes (l := l) HN.out HN.out R13.out L13.out HX.out).mono ?_
        rintro e w' ⟨rfl, b14⟩
        have B14 := Lib.hid (B13.out.trans (b14.mono B13.out.size))
        clear b14
        go_wp2_with fail
        refine (Law06.awake_any _).mono ?_
        rintro e w' ⟨rfl, b15⟩
        have B15 := Lib.hid (B14.out.trans (b15.mono B14.out.size))
        clear b15
        go_wp2
        go_ret
        exact ⟨rfl, B15.out⟩
theorem laidOut : laidOutB Try.prog = true := by kernel_rfl
theorem own : ownKnob Try.prog.godebug = none := by kernel_rfl
theorem lifted (os : Os) (started : os.Started) (H : Type) (enc : TypeId × Value → H) :
    ReturnsInHanded {} Try.checked os 5 .any (Rows.cellsCopySpec.pre6 enc Try.prog Try.f5 Rows.cellsCopyRow.domain false) (Rows.cellsCopySpec.post enc Try.prog Try.f5 false true false false) := by
  refine Frame.lifted (C := Try.checked) (fn := Try.f5) (tb := 4) own started (by kernel_rfl) Try.func5
    (ChangeSpec.witness6 (enc := enc) (C := Try.checked) false ⟨#[], #[.slice none 0 0, .int .i64 0, .int .u64 0], []⟩ 8 (by kernel_rfl) (by kernel_rfl) (by kernel_rfl) (by kernel_rfl))
    rfl rfl Try.underlying4 laidOut (by kernel_rfl) (fun ds h => by match ds, h with | [_, _, _], _ => rfl) ?_
  intro W base args ds ps hval0 hA0 hlt
  have hval : ∀ (j : Nat) t v, Try.f5.params[j]? = some t → args[j]? = some v → Value.okWide Try.prog W .any base t v := hval0
  have hA : DataW.TrodAll enc Try.prog W 0 (fun _ => true) true Try.f5.params.toList args.toList ds ps := hA0
  rw [Try.params5] at hA hval
  obtain ⟨v0, vs0, d0, ds0, p0, q0, hargs, rfl, rfl, h0, r0⟩ := trodAll_cons hA
  obtain ⟨v1, vs1, d1, ds1, p1, q1, rfl, rfl, rfl, h1, r1⟩ := trodAll_cons r0
  obtain ⟨v2, vs2, d2, ds2, p2, q2, rfl, rfl, rfl, h2, r2⟩ := trodAll_cons r1
  obtain ⟨rfl, rfl, rfl⟩ := trodAll_nil r2
  obtain rfl : args = #[v0, v1, v2] := by cases args; simp_all
  obtain ⟨A0, x0, c0, rfl, b0, m0, R0, g0⟩ := Open.open_rows (k := 1) (Ints.encZ .u64) (fun x => (Lit.int .u64 x).wf = true) Try.underlying22 (by kernel_rfl) (by decide) (Ints.encZ_length _) (fun n cs y h hl => Ints.one_int Try.underlying29 n cs y h hl) (hval 0 22 v0 rfl rfl) h0
  obtain ⟨a1, rfl, _, _, w1⟩ := open_int Try.underlying3 (hval 1 3 v1 rfl rfl) h1
  obtain ⟨a2, rfl, _, _, w2⟩ := open_int Try.underlying29 (hval 2 29 v2 rfl rfl) h2
  refine (walk A0 x0 c0 a1 a2 w1 w2 W R0 (Nat.le_trans b0 m0) g0).mono fun e W' h => ?_
  exact h

theorem over : Rows.cellsCopyRow.holds Try.pinned (OpenSpec.ofChange Rows.cellsCopySpec) :=
  OpenClaim.holds_of_wide 5 Try.f5 rfl rfl rfl rfl rfl rfl rfl ⟨rfl, rfl, rfl, rfl, rfl⟩ rfl rfl rfl rfl rfl (by kernel_rfl) Try.func5 (by kernel_rfl)
    (of_decide_eq_true (by kernel_rfl)) (by unfold Func.isWrapper; first | (rw [if_pos (by decide +kernel)]; kernel_rfl) | (rw [if_neg (by decide +kernel)]; exact ⟨rfl, rfl⟩))
    (fun os started H enc _ => lifted os started H enc)

theorem proved : Rows.CellsCopySaid := over
#print axioms proved
end Go.Proofs.Ytgcpjldchbffhaa.CellsCopy
