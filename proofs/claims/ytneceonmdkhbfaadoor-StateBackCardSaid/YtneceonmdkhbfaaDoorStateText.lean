/- The texts of states, by package state and by the document's own answer: of any word they are textL's bytes; what lay in memory ahead stays as it was. -/
import Derived.Test.YtneceonmdkhbfaaDoorStateWalks
import Derived.Test.YtneceonmdkhbfaaDoorStateRef
import Derived.Test.YtneceonmdkhbfaaDoorFmtUint
import Derived.Test.YtneceonmdkhbfaaDoorDigits
import Derived.Test.YtneceonmdkhbfaaDoorFrameLaid
namespace Go.Proofs.YtneceonmdkhbfaaDoor.StateText
open Go.ChangeShapes Go.WideShapes Go.ChangeAt Go.RowKit FM SM Str Fmt

/-- The table of the statuses' words holds what its initialiser lays. -/
def Words (w : World) : Prop := w.var? Tryd.prog "sundial/state.words" = some (wordsL.map fun l => Value.string (bs l)).toArray
theorem Words.later {w w' : World} (h : Words w) (hb : Below w.heap.size w w') : Words w' := Frame.var_later h hb
theorem tens_later {w w' : World} (h : Tens w) (hb : Below w.heap.size w w') : Tens w' := Frame.tab_later h hb
theorem gWords : Tryd.prog.globalNamed "sundial/state.words" = some 0 := by kernel_rfl
theorem Words.cell {w : World} (h : Words w) (i : Nat) (hi : i < 5) : w.cell? ⟨0, i, none⟩ = some (.string (bs (calledI i))) := by
  have := World.var?_cell gWords h i
  rw [this]
  have e := words_at i hi
  simp [List.getElem?_map, e]

theorem digits_len (u : Int) (h : u < 18446744073709551616) : (decI u).length ≤ 20 := by unfold decI; rw [Lib.decDigits_length]; exact Lib.nDigits_le20 _ (by omega)
theorem called_len (s : Int) (h : s < 18446744073709551616) : (calledI s).length ≤ 20 := by
  unfold calledI
  repeat' split
  all_goals first | exact digits_len s h | simp

theorem called_any (s : Int) (s0 : 0 ≤ s) (hs : s ≤ 4294967295) (w : World) (hW : Words w) (hT : Tens w) :
    Calls Tryd.prog 24 #[.int .i64 s] w fun e w' => e = .returned (.string (bs (calledI s))) ∧ Below w.heap.size w w' := by
  obtain ⟨s, rfl⟩ := Int.eq_ofNat_of_zero_le s0
  by_cases h : s < 5
  · have hc := hW.cell s h
    have i5 : (s : Int) < 5 := by omega
    have d0 : decide ((s : Int) < 0) = false := decide_eq_false (by omega)
    have d5 : decide ((5 : Int) ≤ (s : Int)) = false := decide_eq_false (by omega)
    clear hW hT hs
    go_enter Tryd.func24, Tryd.ntmps24
    go_wp2
    go_ret
    exact ⟨rfl, Below.refl _ _⟩
  · have i5 : (5 : Int) ≤ (s : Int) := by omega
    have d0 : decide ((s : Int) < 0) = false := decide_eq_false (by omega)
    have d5 : decide ((5 : Int) ≤ (s : Int)) = true := decide_eq_true (by omega)
    have HC := Lib.hid (called_digits (s := s) (by omega))
    have h1 : (s : Int) ≤ 9223372036854775807 := by omega
    have H1 := Lib.hid h1
    clear hW hs h h1
    go_enter Tryd.func24, Tryd.ntmps24
    go_wp2_with fail
    refine (Itoa_any s s0 H1.out _ hT).mono ?_
    rintro e w' ⟨rfl, hb⟩
    go_wp2
    go_ret
    exact ⟨ret_ba (by rw [HC.out]), hb⟩
/-- The parts of a text, with what the walk wants of them. -/
theorem parts (v : Int) (hv : v < 18446744073709551616) : ¬ (9223372036854775807 < (bs (decI (v / 4294967296))).size + (⟨#[32]⟩ : ByteArray).size) ∧
    ¬ (9223372036854775807 < (bs (decI (v / 4294967296)) ++ ⟨#[32]⟩).size + (bs (calledI (v % 4294967296))).size) ∧ bs (decI (v / 4294967296)) ++ ⟨#[32]⟩ ++ bs (calledI (v % 4294967296)) = bs (textI v) := by
  have l1 := digits_len (v / 4294967296) (by omega)
  have l2 := called_len (v % 4294967296) (by omega)
  have e1 : bs (decI (v / 4294967296)) ++ ⟨#[32]⟩ = bs (decI (v / 4294967296) ++ [32]) := bs_append _ [32]
  refine ⟨short (a := decI (v / 4294967296)) (b := [32]) (by simp; omega), ?_, ?_⟩
  · rw [e1]
    exact short (by simp; omega)
  · rw [e1, bs_append]
    rfl

theorem Text_any (v : Int) (h0 : 0 ≤ v) (hv : v < 18446744073709551616) (w : World) (hW : Words w) (hT : Tens w) :
    Calls Tryd.prog 16 #[.int .u64 v] w fun e w' => e = .returned (.string (bs (textI v))) ∧ Below w.heap.size w w' := by
  have G1 := Lib.hid hv
  have q0 : 0 ≤ v / 4294967296 := by omega
  have q1 := Lib.hid (show v / 4294967296 < 18446744073709551616 by omega)
  have r0 : 0 ≤ v % 4294967296 := by omega
  have r1 : v % 4294967296 ≤ 4294967295 := by omega
  obtain ⟨s1, s2, e⟩ := parts v hv
  have E := Lib.hid e
  have HW := Lib.hid hW
  clear e hv hW
  go_enter Tryd.func16, Tryd.ntmps16
  go_wp2_with fail
  refine (State.Gen_any v h0 G1.out _).mono ?_
  rintro e w' ⟨rfl, rfl⟩
  go_wp2_with fail
  refine (FormatUint_any (v / 4294967296) q0 q1.out _ hT).mono ?_
  rintro e w' ⟨rfl, hb⟩
  go_wp2_with fail
  refine (State.Status_any v h0 G1.out _).mono ?_
  rintro e w' ⟨rfl, rfl⟩
  go_wp2_with fail
  refine (called_any (v % 4294967296) r0 r1 _ (HW.out.later hb) (tens_later hT hb)).mono ?_
  rintro e w' ⟨rfl, hb2⟩
  go_wp2
  go_ret
  exact ⟨ret_ba E.out, hb.trans (hb2.mono hb.size)⟩
theorem refText_any (v : Int) (h0 : 0 ≤ v) (hv : v < 18446744073709551616) (w : World) :
    Calls Tryd.prog 17 #[.int .u64 v] w fun e w' => e = .returned (.string (bs (textI v))) ∧ Below w.heap.size w w' := by
  have G1 := Lib.hid hv
  have q0 : 0 ≤ v / 4294967296 := by omega
  have q1 := Lib.hid (show v / 4294967296 < 18446744073709551616 by omega)
  have r0 : 0 ≤ v % 4294967296 := by omega
  have r1 : v % 4294967296 ≤ 4294967295 := by omega
  obtain ⟨s1, s2, e⟩ := parts v hv
  have l1 := digits_len (v / 4294967296) (by omega)
  have z4 : ¬ 9223372036854775807 < (bs (decI (v / 4294967296))).size + 1 + 4 := by rw [bs_size]; omega
  have z5 : ¬ 9223372036854775807 < (bs (decI (v / 4294967296))).size + 1 + 5 := by rw [bs_size]; omega
  have z6 : ¬ 9223372036854775807 < (bs (decI (v / 4294967296))).size + 1 + 6 := by rw [bs_size]; omega
  clear l1
  rcases (show v % 4294967296 = 0 ∨ v % 4294967296 = 1 ∨ v % 4294967296 = 2 ∨ v % 4294967296 = 3 ∨ v % 4294967296 = 4 ∨ 4 < v % 4294967296 by omega) with hs | hs | hs | hs | hs | hs
  · rw [hs] at e
    have E := Lib.hid e
    have H := Lib.hid hs
    clear e hv hs r0 r1 s2
    go_enter Tryd.func17, Tryd.ntmps17
    go_wp2_with fail
    refine (Ref04.Gen_any v h0 G1.out _).mono ?_
    rintro e w' ⟨rfl, rfl⟩
    go_wp2_with fail
    refine (Digits.Digits_any (v / 4294967296) q0 q1.out _).mono ?_
    rintro e w' ⟨rfl, hb⟩
    go_wp2_with fail
    refine (Ref04.Status_any v h0 G1.out _).mono ?_
    rintro e w' ⟨rfl, rfl⟩
    rw [H.out]
    go_wp2
    go_ret
    exact ⟨ret_ba E.out, hb⟩
  · rw [hs] at e
    have E := Lib.hid e
    have H := Lib.hid hs
    clear e hv hs r0 r1 s2
    go_enter Tryd.func17, Tryd.ntmps17
    go_wp2_with fail
    refine (Ref04.Gen_any v h0 G1.out _).mono ?_
    rintro e w' ⟨rfl, rfl⟩
    go_wp2_with fail
    refine (Digits.Digits_any (v / 4294967296) q0 q1.out _).mono ?_
    rintro e w' ⟨rfl, hb⟩
    go_wp2_with fail
    refine (Ref04.Status_any v h0 G1.out _).mono ?_
    rintro e w' ⟨rfl, rfl⟩
    rw [H.out]
    go_wp2
    go_ret
    exact ⟨ret_ba E.out, hb⟩
  · rw [hs] at e
    have E := Lib.hid e
    have H := Lib.hid hs
    clear e hv hs r0 r1 s2
    go_enter Tryd.func17, Tryd.ntmps17
    go_wp2_with fail
    refine (Ref04.Gen_any v h0 G1.out _).mono ?_
    rintro e w' ⟨rfl, rfl⟩
    go_wp2_with fail
    refine (Digits.Digits_any (v / 4294967296) q0 q1.out _).mono ?_
    rintro e w' ⟨rfl, hb⟩
    go_wp2_with fail
    refine (Ref04.Status_any v h0 G1.out _).mono ?_
    rintro e w' ⟨rfl, rfl⟩
    rw [H.out]
    go_wp2
    go_ret
    exact ⟨ret_ba E.out, hb⟩
  · rw [hs] at e
    have E := Lib.hid e
    have H := Lib.hid hs
    clear e hv hs r0 r1 s2
    go_enter Tryd.func17, Tryd.ntmps17
    go_wp2_with fail
    refine (Ref04.Gen_any v h0 G1.out _).mono ?_
    rintro e w' ⟨rfl, rfl⟩
    go_wp2_with fail
    refine (Digits.Digits_any (v / 4294967296) q0 q1.out _).mono ?_
    rintro e w' ⟨rfl, hb⟩
    go_wp2_with fail
    refine (Ref04.Status_any v h0 G1.out _).mono ?_
    rintro e w' ⟨rfl, rfl⟩
    rw [H.out]
    go_wp2
    go_ret
    exact ⟨ret_ba E.out, hb⟩
  · rw [hs] at e
    have E := Lib.hid e
    have H := Lib.hid hs
    clear e hv hs r0 r1 s2
    go_enter Tryd.func17, Tryd.ntmps17
    go_wp2_with fail
    refine (Ref04.Gen_any v h0 G1.out _).mono ?_
    rintro e w' ⟨rfl, rfl⟩
    go_wp2_with fail
    refine (Digits.Digits_any (v / 4294967296) q0 q1.out _).mono ?_
    rintro e w' ⟨rfl, hb⟩
    go_wp2_with fail
    refine (Ref04.Status_any v h0 G1.out _).mono ?_
    rintro e w' ⟨rfl, rfl⟩
    rw [H.out]
    go_wp2
    go_ret
    exact ⟨ret_ba E.out, hb⟩
  · rw [called_digits hs] at e s2
    have E := Lib.hid e
    have n0 : (v % 4294967296 == 0) = false := by simp; omega
    have n1 : (v % 4294967296 == 1) = false := by simp; omega
    have n2 : (v % 4294967296 == 2) = false := by simp; omega
    have n3 : (v % 4294967296 == 3) = false := by simp; omega
    have n4 : (v % 4294967296 == 4) = false := by simp; omega
    have R1 := Lib.hid (show v % 4294967296 < 18446744073709551616 by omega)
    have l2 := digits_len (v % 4294967296) R1.out
    have l1 := digits_len (v / 4294967296) q1.out
    have z : ¬ 9223372036854775807 < (bs (decI (v / 4294967296))).size + 1 + (bs (decI (v % 4294967296))).size := by rw [bs_size, bs_size]; omega
    clear e hv hs l1 l2
    go_enter Tryd.func17, Tryd.ntmps17
    go_wp2_with fail
    refine (Ref04.Gen_any v h0 G1.out _).mono ?_
    rintro e w' ⟨rfl, rfl⟩
    go_wp2_with fail
    refine (Digits.Digits_any (v / 4294967296) q0 q1.out _).mono ?_
    rintro e w' ⟨rfl, hb⟩
    go_wp2_with fail
    refine (Ref04.Status_any v h0 G1.out _).mono ?_
    rintro e w' ⟨rfl, rfl⟩
    go_wp2_with fail
    refine (Ref04.Status_any v h0 G1.out _).mono ?_
    rintro e w' ⟨rfl, rfl⟩
    go_wp2_with fail
    refine (Digits.Digits_any (v % 4294967296) r0 R1.out _).mono ?_
    rintro e w' ⟨rfl, hb2⟩
    go_wp2
    go_ret
    exact ⟨ret_ba E.out, hb.trans (hb2.mono hb.size)⟩
end Go.Proofs.YtneceonmdkhbfaaDoor.StateText
