/- PlanApart: for every plan p, if it is right, all words are at places of their own, and fill the memory, which has no more than MaxWords words; and the chapter's examples come out; p reads as it did. No condition. -/
import Derived.Test.YtdmikjfkdppofaaPlanAwake
import Derived.Test.YtdmikjfkdppofaaPlanAll
import Derived.Test.YtdmikjfkdppofaaBools
import Derived.Test.YtdmikjfkdppofaaFour
import Derived.Test.YtdmikjfkdppofaaFrame
namespace Go.Proofs.Ytdmikjfkdppofaa.PlanApart
open Go.ChangeShapes Go.WideShapes Go.ChangeAt Go.RowKit PM Lay Plan Ints Bools PlanAll
set_option linter.unusedVariables false

set_option maxHeartbeats 1000000 in
set_option maxRecDepth 100000 in
theorem walk_no (T S L G : Int) (h : rightB T S L G = false) (w : World) :
    Calls Try.prog 4 #[.agg #[.int .i64 T, .int .i64 S, .int .i64 L, .int .u64 G]] w fun e w' => e = .returned (.bool true) ∧ Below w.heap.size w w' := by
  have hn := right_not h
  have HN := Lib.hid h
  have HB := Lib.hid (box_below w (.cells #[.int .i64 T, .int .i64 S, .int .i64 L, .int .u64 G] 24))
  obtain ⟨c_0, c_1, c_2, c_3⟩ := box4 w (.int .i64 T) (.int .i64 S) (.int .i64 L) (.int .u64 G) 24
  have hc : 8 < T ∨ (¬ 8 < T ∧ 64 < S) ∨ (¬ 8 < T ∧ ¬ 64 < S ∧ 8 < L) ∨ (¬ 8 < T ∧ ¬ 64 < S ∧ ¬ 8 < L ∧ T < 1) ∨ (¬ 8 < T ∧ ¬ 64 < S ∧ ¬ 8 < L ∧ ¬ T < 1 ∧ S < 1) ∨ (¬ 8 < T ∧ ¬ 64 < S ∧ ¬ 8 < L ∧ ¬ T < 1 ∧ ¬ S < 1 ∧ L < 1) ∨ (¬ 8 < T ∧ ¬ 64 < S ∧ ¬ 8 < L ∧ ¬ T < 1 ∧ ¬ S < 1 ∧ ¬ L < 1 ∧ 4294967295 < G) := by omega
  clear h hn c_0 c_1 c_2 c_3
  rcases hc with h1 | ⟨h1, h2⟩ | ⟨h1, h2, h3⟩ | ⟨h1, h2, h3, h4⟩ | ⟨h1, h2, h3, h4, h5⟩ | ⟨h1, h2, h3, h4, h5, h6⟩ | ⟨h1, h2, h3, h4, h5, h6, h7⟩
  all_goals
    go_enter Try.func4, Try.ntmps4
    go_wp2_with fail
    refine (Law08.awake_any _).mono ?_
    rintro e w1 ⟨rfl, b1⟩
    simp only [World.size_alloc] at b1
    have B1 := Lib.hid b1
    obtain ⟨c_0, c_1, c_2, c_3⟩ := box4_later b1
    clear b1
    go_wp2_with fail
    refine (Plan.Right_no HN.out _).mono ?_
    rintro e w2 ⟨rfl, b2⟩
    have B2 := Lib.hid (past_later B1.out b2)
    clear b2 c_0 c_1 c_2 c_3
    obtain ⟨c_0, c_1, c_2, c_3⟩ := box4_later B2.out
    go_wp2_with fail
    refine (Law08.awake_any _).mono ?_
    rintro e w3 ⟨rfl, b3⟩
    go_wp2
    go_ret
    exact ⟨rfl, below_past (past_later B2.out b3)⟩

theorem infoBool : (Try.prog.info? 4).map (fun i => (i.zero, i.size, i.bytes)) = some (some (.bool false), 1, 1) := by kernel_rfl
set_option maxHeartbeats 1000000 in
set_option maxRecDepth 100000 in
theorem walk_yes (T S L : Nat) (G : Int) (h : rightB T S L G = true) (w : World) :
    Calls Try.prog 4 #[.agg #[.int .i64 (T : Int), .int .i64 (S : Int), .int .i64 (L : Int), .int .u64 G]] w fun e w' => e = .returned (.bool true) ∧ Below w.heap.size w w' := by
  obtain ⟨h1, h2, h3, h4, h5, h6, h7⟩ := right_is h
  have HN := Lib.hid h
  obtain ⟨c_0, c_1, c_2, c_3⟩ := box4 w (.int .i64 (T : Int)) (.int .i64 (S : Int)) (.int .i64 (L : Int)) (.int .u64 G) 24
  obtain ⟨i0, hi, hz0, hz1, hz2⟩ := info_parts infoBool
  have hT : T ≤ 8 := by omega
  have hS : S ≤ 64 := by omega
  have hL : L ≤ 8 := by omega
  clear h h1 h2 h3 h4 h5 h6 h7
  have HC := Lib.hid (words_cast (T := T) (S := S) (L := L) (by omega) (by omega) (by omega))
  have HA := Lib.hid (PlanAll.all_any (G := G) hT hS hL)
  have hm := words_small hT hS hL
  have HLT := Lib.hid (all_lt T S L)
  have HND := Lib.hid (all_nodup T S L)
  have HL := Lib.hid (all_length T S L)
  generalize allN T S L = l at HA HLT HND HL
  generalize wordsN T S L = n at HC hm HLT HL
  have HK := Lib.hid (show (castL l).length = n by rw [cast_length]; exact HL.out)
  go_enter Try.func4, Try.ntmps4
  go_wp2_with fail
  refine (Law08.awake_any _).mono ?_
  rintro e w1 ⟨rfl, b1⟩
  simp only [World.size_alloc] at b1
  have B1 := Lib.hid b1
  clear b1 c_0 c_1 c_2 c_3
  obtain ⟨c_0, c_1, c_2, c_3⟩ := box4_later B1.out
  go_wp2_with fail
  refine (Plan.Right_yes HN.out _).mono ?_
  rintro e w2 ⟨rfl, b2⟩
  have B2 := Lib.hid (past_later B1.out b2)
  clear b2 c_0 c_1 c_2 c_3
  obtain ⟨c_0, c_1, c_2, c_3⟩ := box4_later B2.out
  go_wp2_with fail
  refine (HA.out _).mono ?_
  rintro e w3 ⟨A, c, rfl, r3, b3⟩
  rw [HK.out]
  have R3 := Lib.hid r3
  have B3 := Lib.hid (past_later B2.out b3)
  clear r3 b3 c_0 c_1 c_2 c_3
  obtain ⟨c_0, c_1, c_2, c_3⟩ := box4_later B3.out
  go_wp2_with fail
  refine (Plan.Words_any T S L G _).mono ?_
  rintro e w4 ⟨rfl, b4⟩
  rw [HC.out]
  have R4 := Lib.hid (R3.out.later b4)
  have B4 := Lib.hid (past_later B3.out b4)
  clear b4 c_0 c_1 c_2 c_3
  go_wp2_with (first
    | (at_make; refine wpList_make_full _ rfl (.tmp 75) (.tmp 75) 36 rfl (w.heap.size + 1) 4 i0 _ 1 Try.underlying36 hi hz0 hz1 _ _ _ _ n rfl rfl rfl rfl (by rw [hz2]; omega) (by simp only [maxLen]; omega) (by have := size_past B4.out; omega) ?_; intro w5 hown hg5; have B5 := Lib.hid (past_grown B4.out hg5 (fun k hk => by cases hk)); rw [made_bools] at hown; have HO := Lib.hid hown; have R5 := Lib.hid (R4.out.below ((Below.refl _ _).grown hg5 (Nat.le_refl _) (fun k hk => by cases hk))); clear hown hg5))
  have HZ := Lib.hid (size_past B4.out)
  go_loopw [6] (fun iv wr => ∃ m : Nat, m ≤ n ∧ iv = .int .i64 m ∧ wr.ownsRow (w.heap.size + 1) 4 1 (.slice (some ⟨w4.heap.size, 0, none⟩) n n) n (flat encB (seenL l m n)) ∧ Row wr w4.heap.size A (flat (encZ .i64) (castL l)) ∧ Below (w.heap.size + 1) (w.alloc (.cells #[.int .i64 (T : Int), .int .i64 (S : Int), .int .i64 (L : Int), .int .u64 G] 24)) wr)
    (fun iv _ => n - (intOf iv).toNat)
  case atStart => exact ⟨0, Nat.zero_le _, rfl, by rw [seen_zero]; exact HO.out, R5.out, B5.out⟩
  case round =>
    obtain ⟨m, hm', rfl, ho, hr, hp⟩ := hrel
    have HO2 := Lib.hid ho
    have HR2 := Lib.hid hr
    have HP := Lib.hid hp
    clear ho hr hp
    by_cases hlt : m < n
    · have hml : m < l.length := by rw [HL.out]; exact hlt
      obtain ⟨x, hx⟩ : ∃ x, l[m] = x := ⟨_, rfl⟩
      have hxn : x < n := by rw [← hx]; exact HLT.out _ (List.getElem_mem hml)
      have hget : (castL l)[m]? = some (x : Int) := by simp [castL, hml, hx]
      obtain ⟨b, o, rfl, hbB, hc⟩ := int_at HR2.out (show m < (castL l).length by rw [HK.out]; exact hlt)
      have d := hc m _ hget
      have hsg : (seenL l m n)[x]? = some false := by have := seen_get HND.out (n := n) hml (by rw [hx]; exact hxn); rwa [hx] at this
      have HSS := Lib.hid (show (seenL l m n).set x true = seenL l (m + 1) n by have := seen_step (n := n) hml (by rw [hx]; exact hxn); rwa [hx] at this)
      obtain ⟨e0, e1⟩ := own_bool_at HO2.out (seen_length l m n).symm hsg
      clear hc hget hsg hx hml
      have hxi : (0 : Int) ≤ (x : Int) ∧ ¬ n ≤ x := ⟨by omega, by omega⟩
      go_wp2
      refine ⟨⟨m + 1, by omega, by go_num, by rw [← HSS.out]; exact own_bool_set HO2.out x true, HR2.out.below ((Below.refl _ _).setCell (p := ⟨w4.heap.size, x, none⟩) (Nat.le_refl _) _), HP.out.setCell (p := ⟨w4.heap.size, x, none⟩) HZ.out _⟩, by simp [intOf]; omega⟩
    · go_wp2_with fail
      refine (Law08.awake_any _).mono ?_
      rintro e w' ⟨rfl, hb⟩
      go_wp2
      go_ret
      exact ⟨rfl, below_past (past_later HP.out hb)⟩

theorem walk (x : Int × Int × Int × Int) (_ : (Lit.int .i64 x.1).wf = true) (_ : (Lit.int .i64 x.2.1).wf = true) (_ : (Lit.int .i64 x.2.2.1).wf = true) (_ : (Lit.int .u64 x.2.2.2).wf = true) (w : World) :
    Calls Try.prog 4 #[.agg #[.int .i64 x.1, .int .i64 x.2.1, .int .i64 x.2.2.1, .int .u64 x.2.2.2]] w fun e w' => e = .returned (.bool true) ∧ Below w.heap.size w w' := by
  cases h : rightB x.1 x.2.1 x.2.2.1 x.2.2.2
  · exact walk_no _ _ _ _ h w
  · obtain ⟨T, S, L, G⟩ := x
    have hr := right_is h
    obtain ⟨a, rfl⟩ := Int.eq_ofNat_of_zero_le (show 0 ≤ T by have := hr.1; simp at this; omega)
    obtain ⟨b, rfl⟩ := Int.eq_ofNat_of_zero_le (show 0 ≤ S by have := hr.2.2.1; simp at this; omega)
    obtain ⟨c, rfl⟩ := Int.eq_ofNat_of_zero_le (show 0 ≤ L by have := hr.2.2.2.2.1; simp at this; omega)
    exact walk_yes a b c G h w
theorem laidOut : laidOutB Try.prog = true := by kernel_rfl
theorem own : ownKnob Try.prog.godebug = none := by kernel_rfl
theorem lifted (os : Os) (started : os.Started) (H : Type) (enc : TypeId × Value → H) :
    ReturnsInHanded {} Try.checked os 4 .any (Rows.planApartSpec.pre6 enc Try.prog Try.f4 Rows.planApartRow.domain false) (Rows.planApartSpec.post enc Try.prog Try.f4 false true false false) := by
  refine Frame.lifted (C := Try.checked) (fn := Try.f4) (tb := 4) own started (by kernel_rfl) Try.func4
    (ChangeSpec.witness6 (enc := enc) (C := Try.checked) false ⟨#[], #[.agg #[.int .i64 0, .int .i64 0, .int .i64 0, .int .u64 0]], []⟩ 8 (by kernel_rfl) (by kernel_rfl) (by kernel_rfl) (by kernel_rfl))
    rfl rfl Try.underlying4 laidOut (by kernel_rfl) (fun ds h => by match ds, h with | [_], _ => rfl) ?_
  intro W base args ds ps hval0 hA0 hlt
  have hval : ∀ (j : Nat) t v, Try.f4.params[j]? = some t → args[j]? = some v → Value.okWide Try.prog W .any base t v := hval0
  have hA : DataW.TrodAll enc Try.prog W 0 (fun _ => true) true Try.f4.params.toList args.toList ds ps := hA0
  rw [Try.params4] at hA hval
  obtain ⟨v0, vs0, d0, ds0, p0, q0, hargs, rfl, rfl, h0, r0⟩ := trodAll_cons hA
  obtain ⟨rfl, rfl, rfl⟩ := trodAll_nil r0
  obtain rfl : args = #[v0] := by cases args; simp_all
  obtain ⟨x0, rfl, w0_0, w0_1, w0_2, w0_3⟩ := Open.open_four_ints Try.underlying24 (by kernel_rfl) (by kernel_rfl) Try.underlying3 Try.underlying3 Try.underlying3 Try.underlying22 (hval 0 24 v0 rfl rfl) h0
  refine (walk x0 w0_0 w0_1 w0_2 w0_3 W).mono fun e W' h => ?_
  exact h

theorem over : Rows.planApartRow.holds Try.pinned (OpenSpec.ofChange Rows.planApartSpec) :=
  OpenClaim.holds_of_wide 4 Try.f4 rfl rfl rfl rfl rfl rfl rfl ⟨rfl, rfl, rfl, rfl, rfl⟩ rfl rfl rfl rfl rfl (by kernel_rfl) Try.func4 (by kernel_rfl)
    (of_decide_eq_true (by kernel_rfl)) (by unfold Func.isWrapper; first | (rw [if_pos (by decide +kernel)]; kernel_rfl) | (rw [if_neg (by decide +kernel)]; exact ⟨rfl, rfl⟩))
    (fun os started H enc _ => lifted os started H enc)

theorem proved : Rows.PlanApartSaid := over
#print axioms proved
end Go.Proofs.Ytdmikjfkdppofaa.PlanApart
