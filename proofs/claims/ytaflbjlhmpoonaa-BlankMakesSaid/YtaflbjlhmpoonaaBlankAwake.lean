/- Law 10's example, and what Make and Free end in together. -/
import Derived.Test.YtaflbjlhmpoonaaBlankWords
import Derived.Test.YtaflbjlhmpoonaaCellsRef
namespace Go.Proofs.Ytaflbjlhmpoonaa.Law10
open Go.ChangeShapes Go.WideShapes Go.RowKit PM CM SM BM Lay Ints Plan Blank
set_option linter.unusedVariables false

theorem wf_u64 {a : Int} (h : (Lit.int .u64 a).wf = true) : 0 ≤ a ∧ a < 18446744073709551616 := by
  simp [Lit.wf, IntKind.min, IntKind.max, IntKind.signed, IntKind.bits] at h; omega

/-- A new memory of which all words are such as there can be, and in which all slots are free. -/
def Begins (w : World) (T S L n : Nat) (l : List Int) (p h : Nat) (w' : World) : Prop := Cells.Mem w' p h n l ∧ BM.Fits l ∧ freeL (T : Int) S (L : Int) l = firstL S ∧ Below w.heap.size w w'

theorem Make_begins {T S L : Nat} {G : Int} (hr : rightB (T : Int) (S : Int) (L : Int) G = true) (hG : 0 ≤ G) (w : World) : Calls Try.prog 6 #[.agg #[.int .i64 (T : Int), .int .i64 (S : Int), .int .i64 (L : Int), .int .u64 G]] w fun e w' => ∃ p h n l, e = .returned (.tuple #[.pointer (some ⟨p, 0, none⟩), .int .i64 0]) ∧ Begins w T S L n l p h w' := by
  obtain ⟨t1, t8, s1, s64, l1, l8⟩ := right_nat hr
  refine (Make_yes hr hG w).mono ?_
  rintro e w' ⟨p, h, he, hm, h1, h2, hb⟩
  refine ⟨p, h, _, _, he, hm, fits_lay _ _ _ ⟨stI_lo _ _, stI_hi _ _⟩ (by omega) _, free_all _ t8 s1 s64 l8, hb⟩
theorem Free_is {T S L n p h : Nat} {G : Int} {l F : List Int} {w : World} (hF : freeL (T : Int) S (L : Int) l = F) (hr : rightB (T : Int) (S : Int) (L : Int) G = true) (hM : Cells.Mem w p h n l) (hfit : BM.Fits l) : Calls Try.prog 14 #[.pointer (some ⟨p, 0, none⟩), .agg #[.int .i64 (T : Int), .int .i64 (S : Int), .int .i64 (L : Int), .int .u64 G]] w (Lists w F) := by
  rw [← hF]
  exact Free_yes hr hM hfit

theorem make_ex (w : World) : Calls Try.prog 6 #[.agg #[.int .i64 1, .int .i64 2, .int .i64 1, .int .u64 0]] w fun e w' => ∃ p h n l, e = .returned (.tuple #[.pointer (some ⟨p, 0, none⟩), .int .i64 0]) ∧ Begins w 1 2 1 n l p h w' :=
  Make_begins (T := 1) (S := 2) (L := 1) (G := 0) (by decide) (by decide) w
theorem free_ex {n p h : Nat} {l : List Int} {w : World} (hF : freeL ((1 : Nat) : Int) 2 ((1 : Nat) : Int) l = firstL 2) (hM : Cells.Mem w p h n l) (hfit : BM.Fits l) : Calls Try.prog 14 #[.pointer (some ⟨p, 0, none⟩), .agg #[.int .i64 1, .int .i64 2, .int .i64 1, .int .u64 0]] w fun e w' => ∃ A c, e = .returned (.slice A 2 c) ∧ Row w' w'.heap.size A (flat (encZ .i64) [1, 2]) ∧ Below w.heap.size w w' :=
  Free_is (T := 1) (S := 2) (L := 1) (G := 0) (F := [1, 2]) (hF.trans rfl) (by decide) hM hfit

theorem awake_any (w : World) : Calls Try.prog 8 #[] w fun e w' => e = .returned (.bool true) ∧ Below w.heap.size w w' := by
  go_enter Try.func8, Try.ntmps8
  go_wp2_with fail
  refine (make_ex _).mono ?_
  rintro e w1 ⟨p, h, n, l, rfl, m1, f1, r1, b1⟩
  simp only [World.size_alloc] at b1
  have M1 := Lib.hid m1
  have F1 := Lib.hid f1
  have R1 := Lib.hid r1
  have B1 := Lib.hid b1
  obtain ⟨c0, c1, c2, c3⟩ := box4_later b1
  clear m1 f1 r1 b1
  go_wp2_with fail
  refine (free_ex R1.out M1.out F1.out).mono ?_
  rintro e w2 ⟨A, c, rfl, r2, b2⟩
  have R2 := Lib.hid r2
  have B2 := Lib.hid (past_later B1.out b2)
  clear r2 b2 c0 c1 c2 c3
  go_wp2_with fail
  refine (DrawRef.Same_yes (l := [1, 2]) rfl rfl (R2.out.later (box_below _ _)) (Cells.row_new w2 #[.int .i64 1, .int .i64 2] 3) (by decide)).mono ?_
  rintro e w3 ⟨rfl, b3⟩
  go_wp2
  go_ret
  exact ⟨rfl, below_past (past_later ((B2.out).alloc (size_past B2.out) _) b3)⟩
end Go.Proofs.Ytaflbjlhmpoonaa.Law10
