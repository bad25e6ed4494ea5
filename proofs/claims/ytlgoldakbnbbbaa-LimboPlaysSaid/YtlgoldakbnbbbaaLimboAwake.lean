/- Law 15's example. -/
import Derived.Test.YtlgoldakbnbbbaaLimboRipe
import Derived.Test.YtlgoldakbnbbbaaLimboRef
namespace Go.Proofs.Ytlgoldakbnbbbaa.Law15
set_option maxRecDepth 20000
open Go.ChangeShapes Go.WideShapes Go.RowKit LM Lay Limbo
set_option linter.unusedVariables false
set_option linter.unusedSimpArgs false

theorem wf_u64 {a : Int} (h : (Lit.int .u64 a).wf = true) : 0 ≤ a ∧ a < 18446744073709551616 := by
  simp [Lit.wf, IntKind.min, IntKind.max, IntKind.signed, IntKind.bits] at h; omega

/-- A limbo all of whose blocks lie from B on. -/
def LimFrom (w : World) (B p : Nat) (L : Ls) : Prop := ∃ S, Lim w p S L ∧ (∀ k, S k → B ≤ k) ∧ B ≤ w.heap.size
section
variable {w w' : World} {B p : Nat} {L L' : Ls} {S : Nat → Prop}
theorem from_made {e : Ending} (h : Made w L e w') : ∃ q, e = .returned (.pointer (some ⟨q, 0, none⟩)) ∧ LimFrom w' w.heap.size q L ∧ Below w.heap.size w w' := by
  obtain ⟨q, S, he, hl, hS, hb⟩ := h
  exact ⟨q, he, ⟨S, hl, hS, hb.size⟩, hb⟩
end

def lsA : Ls := addL (addL (addL noL (1, 4)) (2, 5)) (3, 4)
theorem lsA_ripe : (allL lsA).filter (ripeB 6) = [(1, 4), (3, 4)] := by decide
theorem lsA_left : lenL (amidL lsA 6 3) = 1 := by decide
theorem lsA_l0 : lenL noL = 0 := by decide
theorem lsA_l1 : lenL (addL noL (1, 4)) = 1 := by decide
theorem lsA_l2 : lenL (addL (addL noL (1, 4)) (2, 5)) = 2 := by decide
theorem lsA_l3 : lenL lsA = 3 := by decide

theorem awake_any (w : World) : Calls Try.prog 5 #[] w fun e w' => e = .returned (.bool true) ∧ Below w.heap.size w w' := by
  go_enter Try.func5, Try.ntmps5
  go_wp2_with fail
  refine (New_any _).mono ?_
  rintro e w1 ⟨p, S1, rfl, l1, s1, b1⟩
  have HL1 := Lib.hid l1
  have HB1 := Lib.hid b1
  have HS1 := Lib.hid s1
  clear l1 s1 b1
  go_wp2_with fail
  refine (Add_any (r := 1) (e := 4) HL1.out (by rw [lsA_l0]; decide) (by decide)).mono ?_
  rintro e w2 ⟨S2, rfl, l2, s2, o2⟩
  have HL2 := Lib.hid l2
  have HB2 := Lib.hid (HB1.out.trans (o2.below HB1.out.size HS1.out))
  have HS2 := Lib.hid (show ∀ k, S2 k → w.heap.size ≤ k from fun k hk => (s2 k hk).elim (HS1.out k) (fun h => Nat.le_trans HB1.out.size h))
  clear l2 s2 o2
  go_wp2_with fail
  refine (Add_any (r := 2) (e := 5) HL2.out (by rw [lsA_l1]; decide) (by decide)).mono ?_
  rintro e w3 ⟨S3, rfl, l3, s3, o3⟩
  have HL3 := Lib.hid l3
  have HB3 := Lib.hid (HB2.out.trans (o3.below HB2.out.size HS2.out))
  have HS3 := Lib.hid (show ∀ k, S3 k → w.heap.size ≤ k from fun k hk => (s3 k hk).elim (HS2.out k) (fun h => Nat.le_trans HB2.out.size h))
  clear l3 s3 o3
  go_wp2_with fail
  refine (Add_any (r := 3) (e := 4) HL3.out (by rw [lsA_l2]; decide) (by decide)).mono ?_
  rintro e w4 ⟨S4, rfl, l4, s4, o4⟩
  have HL4 := Lib.hid (show Lim w4 p S4 lsA from l4)
  have HB4 := Lib.hid (HB3.out.trans (o4.below HB3.out.size HS3.out))
  have HS4 := Lib.hid (show ∀ k, S4 k → w.heap.size ≤ k from fun k hk => (s4 k hk).elim (HS3.out k) (fun h => Nat.le_trans HB3.out.size h))
  clear l4 s4 o4
  go_wp2_with fail
  refine (Ripe_any (c := 6) HL4.out (by rw [lsA_l3]; decide) (by decide) (by decide)).mono ?_
  rintro e w5 ⟨A, n, c, S5, rfl, hn, hr, hf, l5, s5, o5⟩
  rw [lsA_ripe] at hn hr
  obtain rfl : n = 2 := hn
  obtain ⟨b, o, rfl, _, hc⟩ := Open.two_at hr (i := 0) (by decide)
  obtain ⟨c0, c1⟩ := hc 0 (1, 4) rfl
  obtain ⟨c2, c3⟩ := hc 1 (3, 4) rfl
  have HL5 := Lib.hid l5
  have HB5 := Lib.hid (HB4.out.trans (o5.below HB4.out.size HS4.out))
  have N1 := fun W => LimboRef.eqlR (1, 4) (1, 4) W
  have N2 := fun W => LimboRef.eqlR (3, 4) (3, 4) W
  rw [decide_eq_true rfl] at N1 N2
  have hgu := LimboRef.guardR
  simp at c0 c1 c2 c3 N1 N2
  clear hc hr hf l5 s5 o5
  go_wp2_with fail
  refine (Len_any HL5.out lsA_left (by decide)).mono ?_
  rintro e w6 ⟨rfl, rfl⟩
  go_wp2
  go_ret
  exact ⟨rfl, HB5.out⟩
end Go.Proofs.Ytlgoldakbnbbbaa.Law15
