/- Law 29's examples. -/
import Derived.Test.YtelnkbikgboblaaDoorParkWalks
import Derived.Test.YtelnkbikgboblaaDoorTaskEq
import Derived.Deep.DeepCutAuto
import Derived.Deep.RegionHeld3
namespace Go.Proofs.YtelnkbikgboblaaDoor.Law29
set_option maxRecDepth 20000
open Go.ChangeShapes Go.WideShapes Go.ChangeAt Go.RowKit CM DM PM PaM Runs Lay Plan Go.Proofs.YtelnkbikgboblaaDoor.Task
open Go.Proofs.YtelnkbikgboblaaDoor.Prk (Parks Park_any Park_next Park_tell)
set_option linter.unusedVariables false
set_option linter.unusedSimpArgs false

theorem wf_u64 {a : Int} (h : (Lit.int .u64 a).wf = true) : 0 ≤ a ∧ a < 18446744073709551616 := by
  simp [Lit.wf, IntKind.min, IntKind.max, IntKind.signed, IntKind.bits] at h; omega
theorem wf_i64 {a : Int} (h : (Lit.int .i64 a).wf = true) : -9223372036854775808 ≤ a ∧ a ≤ 9223372036854775807 := by
  simp [Lit.wf, IntKind.min, IntKind.max, IntKind.signed, IntKind.bits] at h; omega
theorem plan4 {w w' : World} {N : Nat} {R : Nat → Prop} {T S L G : Int} (h : w.cell? ⟨N, 0, none⟩ = some (.int .i64 T) ∧ w.cell? ⟨N, 1, none⟩ = some (.int .i64 S) ∧ w.cell? ⟨N, 2, none⟩ = some (.int .i64 L) ∧ w.cell? ⟨N, 3, none⟩ = some (.int .u64 G)) (ho : Only R w w') (hr : ¬ R N) :
    w'.cell? ⟨N, 0, none⟩ = some (.int .i64 T) ∧ w'.cell? ⟨N, 1, none⟩ = some (.int .i64 S) ∧ w'.cell? ⟨N, 2, none⟩ = some (.int .i64 L) ∧ w'.cell? ⟨N, 3, none⟩ = some (.int .u64 G) :=
  ⟨ho.cell h.1 hr, ho.cell h.2.1 hr, ho.cell h.2.2.1 hr, ho.cell h.2.2.2 hr⟩
theorem ba (w : World) (o : Obj) : Below w.heap.size w (w.alloc o) := (Below.refl _ _).alloc (Nat.le_refl _) _
theorem chain {w a b : World} (h : Below w.heap.size w a) (k : Below a.heap.size a b) : Below w.heap.size w b := h.trans (k.mono h.size)
/-- The examples' numbers. -/
theorem ex_a : parkT 9 PaM.start 2 = ⟨2⟩ := parkT_1 (by decide)
theorem ex_z (un : Int) : parkT un PaM.start 0 = ⟨3⟩ := parkT_1z
theorem ex_b : parkT 4 ⟨3⟩ 4 = ⟨0⟩ := parkT_3 (by unfold wrap64; decide)
theorem ex_c : parkT 5 ⟨3⟩ 4 = ⟨1⟩ := parkT_3n (by unfold wrap64; decide)
/-- The three parkers. -/
structure Three (w W : World) (a b c : Nat) (sa sb sc : PaM.St) : Prop where
  pa : Parks W a 1 1 1 0 0 9 sa
  pb : Parks W b 1 1 1 0 0 4 sb
  pc : Parks W c 1 1 1 0 0 5 sc
  ab : w.heap.size < a ∧ a < b ∧ b < c
  past : Below (w.alloc (.cells #[.int .i64 1, .int .i64 1, .int .i64 1, .int .u64 0] 24)).heap.size (w.alloc (.cells #[.int .i64 1, .int .i64 1, .int .i64 1, .int .u64 0] 24)) W
section
variable {w W W' : World} {a b c : Nat} {sa sb sc s : PaM.St}
theorem Three.later (h : Three w W a b c sa sb sc) (hb : Below W.heap.size W W') : Three w W' a b c sa sb sc := ⟨h.pa.later hb, h.pb.later hb, h.pc.later hb, h.ab, h.past.trans (hb.mono h.past.size)⟩
theorem Three.box (h : Three w W a b c sa sb sc) : (fun W : World => W.cell? ⟨w.heap.size, 0, none⟩ = some (.int .i64 1) ∧ W.cell? ⟨w.heap.size, 1, none⟩ = some (.int .i64 1) ∧ W.cell? ⟨w.heap.size, 2, none⟩ = some (.int .i64 1) ∧ W.cell? ⟨w.heap.size, 3, none⟩ = some (.int .u64 0)) W := box4_later (by have h1 := h.past; rwa [World.size_alloc] at h1)
theorem Three.toA (h : Three w W a b c sa sb sc) (hp : Parks W' a 1 1 1 0 0 9 s) (ho : Only (fun k => k = a) W W') : Three w W' a b c s sb sc :=
  ⟨hp, h.pb.only ho (by have := h.ab; omega), h.pc.only ho (by have := h.ab; omega), h.ab, h.past.trans (ho.below h.past.size fun k e => by subst e; simp only [World.size_alloc]; have := h.ab; omega)⟩
theorem Three.toB (h : Three w W a b c sa sb sc) (hp : Parks W' b 1 1 1 0 0 4 s) (ho : Only (fun k => k = b) W W') : Three w W' a b c sa s sc :=
  ⟨h.pa.only ho (by have := h.ab; omega), hp, h.pc.only ho (by have := h.ab; omega), h.ab, h.past.trans (ho.below h.past.size fun k e => by subst e; simp only [World.size_alloc]; have := h.ab; omega)⟩
theorem Three.toC (h : Three w W a b c sa sb sc) (hp : Parks W' c 1 1 1 0 0 5 s) (ho : Only (fun k => k = c) W W') : Three w W' a b c sa sb s :=
  ⟨h.pa.only ho (by have := h.ab; omega), h.pb.only ho (by have := h.ab; omega), hp, h.ab, h.past.trans (ho.below h.past.size fun k e => by subst e; simp only [World.size_alloc]; have := h.ab; omega)⟩
end
theorem deed_only {W W' : World} {k : Nat} {pl : Int} {R : Nat → Prop} (h : W.cell? ⟨k, 0, none⟩ = some (.int .i64 4) ∧ W.cell? ⟨k, 1, none⟩ = some (.int .i64 pl) ∧ W.cell? ⟨k, 2, none⟩ = some (.int .u64 18446744073709551615) ∧ W.cell? ⟨k, 3, none⟩ = some (.int .u64 0) ∧ W.cell? ⟨k, 4, none⟩ = some (.int .u64 0)) (ho : Only R W W') (hr : ¬ R k) : (fun W : World => W.cell? ⟨k, 0, none⟩ = some (.int .i64 4) ∧ W.cell? ⟨k, 1, none⟩ = some (.int .i64 pl) ∧ W.cell? ⟨k, 2, none⟩ = some (.int .u64 18446744073709551615) ∧ W.cell? ⟨k, 3, none⟩ = some (.int .u64 0) ∧ W.cell? ⟨k, 4, none⟩ = some (.int .u64 0)) W' :=
  ⟨ho.cell h.1 hr, ho.cell h.2.1 hr, ho.cell h.2.2.1 hr, ho.cell h.2.2.2.1 hr, ho.cell h.2.2.2.2 hr⟩
set_option maxHeartbeats 1000000 in
theorem awake_any (w : World) : Calls Tryd.prog 4 #[] w fun e w' => e = .returned (.bool true) ∧ Below w.heap.size w w' := by
  have HB0 := Lib.hid (box_below w (.cells #[.int .i64 1, .int .i64 1, .int .i64 1, .int .u64 0] 24))
  have HP0 := Lib.hid (show Below (w.alloc (.cells #[.int .i64 1, .int .i64 1, .int .i64 1, .int .u64 0] 24)).heap.size (w.alloc (.cells #[.int .i64 1, .int .i64 1, .int .i64 1, .int .u64 0] 24)) (w.alloc (.cells #[.int .i64 1, .int .i64 1, .int .i64 1, .int .u64 0] 24)).drew from (Below.refl _ _).drew)
  have HS0 := Lib.hid (show (fun W : World => W.cell? ⟨w.heap.size, 0, none⟩ = some (.int .i64 1) ∧ W.cell? ⟨w.heap.size, 1, none⟩ = some (.int .i64 1) ∧ W.cell? ⟨w.heap.size, 2, none⟩ = some (.int .i64 1) ∧ W.cell? ⟨w.heap.size, 3, none⟩ = some (.int .u64 0)) (w.alloc (.cells #[.int .i64 1, .int .i64 1, .int .i64 1, .int .u64 0] 24)).drew from box4_later (by have h := HP0.out; rwa [World.size_alloc] at h))
  have HC := Lib.hid (box4 w (.int .i64 1) (.int .i64 1) (.int .i64 1) (.int .u64 0) 24)
  obtain ⟨c_0, c_1, c_2, c_3⟩ := HC.out
  go_enter Tryd.func4, Tryd.ntmps4
  go_wp2_with fail
  go_region_held3 (fun W => W.cell? ⟨w.heap.size, 0, none⟩ = some (.int .i64 1) ∧ W.cell? ⟨w.heap.size, 1, none⟩ = some (.int .i64 1) ∧ W.cell? ⟨w.heap.size, 2, none⟩ = some (.int .i64 1) ∧ W.cell? ⟨w.heap.size, 3, none⟩ = some (.int .u64 0))
    ((first | (with_reducible exact HS0.out) | (with_reducible assumption) | (with_reducible exact HS1.out) | (with_reducible exact HS2.out) | (with_reducible exact HS3.out)))
    (first
      | (go_at_call 9; with_reducible refine (Park_any 1 1 1 0 0 9 _).mono ?_; rintro e w1 ⟨a, rfl, m1, q1, b1⟩; have HM1 := Lib.hid m1; have HQ1 := Lib.hid q1; have HP1 := Lib.hid (show Below (w.alloc (.cells #[.int .i64 1, .int .i64 1, .int .i64 1, .int .u64 0] 24)).heap.size (w.alloc (.cells #[.int .i64 1, .int .i64 1, .int .i64 1, .int .u64 0] 24)) w1 from HP0.out.trans (b1.mono HP0.out.size)); have HS1 := Lib.hid (show (fun W : World => W.cell? ⟨w.heap.size, 0, none⟩ = some (.int .i64 1) ∧ W.cell? ⟨w.heap.size, 1, none⟩ = some (.int .i64 1) ∧ W.cell? ⟨w.heap.size, 2, none⟩ = some (.int .i64 1) ∧ W.cell? ⟨w.heap.size, 3, none⟩ = some (.int .u64 0)) w1 from box4_later (by have h := HP1.out; rwa [World.size_alloc] at h)); clear m1 q1 b1)
      | (go_at_call 9; with_reducible refine (Park_any 1 1 1 0 0 4 _).mono ?_; rintro e w2 ⟨b, rfl, m2, q2, b2⟩; have HM2 := Lib.hid m2; have HQ2 := Lib.hid q2; have HB2 := Lib.hid b2; have HP2 := Lib.hid (show Below (w.alloc (.cells #[.int .i64 1, .int .i64 1, .int .i64 1, .int .u64 0] 24)).heap.size (w.alloc (.cells #[.int .i64 1, .int .i64 1, .int .i64 1, .int .u64 0] 24)) w2 from HP1.out.trans (b2.mono HP1.out.size)); have HS2 := Lib.hid (show (fun W : World => W.cell? ⟨w.heap.size, 0, none⟩ = some (.int .i64 1) ∧ W.cell? ⟨w.heap.size, 1, none⟩ = some (.int .i64 1) ∧ W.cell? ⟨w.heap.size, 2, none⟩ = some (.int .i64 1) ∧ W.cell? ⟨w.heap.size, 3, none⟩ = some (.int .u64 0)) w2 from box4_later (by have h := HP2.out; rwa [World.size_alloc] at h)); clear m2 q2 b2)
      | (go_at_call 9; with_reducible refine (Park_any 1 1 1 0 0 5 _).mono ?_; rintro e w3 ⟨c, rfl, m3, q3, b3⟩; have HM3 := Lib.hid m3; have HQ3 := Lib.hid q3; have HB3 := Lib.hid b3; have HP3 := Lib.hid (show Below (w.alloc (.cells #[.int .i64 1, .int .i64 1, .int .i64 1, .int .u64 0] 24)).heap.size (w.alloc (.cells #[.int .i64 1, .int .i64 1, .int .i64 1, .int .u64 0] 24)) w3 from HP2.out.trans (b3.mono HP2.out.size)); have HS3 := Lib.hid (show (fun W : World => W.cell? ⟨w.heap.size, 0, none⟩ = some (.int .i64 1) ∧ W.cell? ⟨w.heap.size, 1, none⟩ = some (.int .i64 1) ∧ W.cell? ⟨w.heap.size, 2, none⟩ = some (.int .i64 1) ∧ W.cell? ⟨w.heap.size, 3, none⟩ = some (.int .u64 0)) w3 from box4_later (by have h := HP3.out; rwa [World.size_alloc] at h)); clear m3 q3 b3))
  have H3 := Lib.hid (show Three w w3 a b c PaM.start PaM.start PaM.start from ⟨(HM1.out.later HB2.out).later HB3.out, HM2.out.later HB3.out, HM3.out, by
    have h1 := HQ1.out; have h2 := HQ2.out; have h3 := HQ3.out; have h4 := HM1.out.lt; have h5 := HM2.out.lt
    simp only [World.size_drew, World.size_alloc] at h1
    omega, HP3.out⟩)
  clear HM1 HM2 HM3 HQ1 HQ2 HQ3 HB2 HB3 HP0 HP1 HP2 HP3 HS0 HS1 HS2 HS3 HC c_0 c_1 c_2 c_3
  go_wp2_with fail
  refine (Park_tell H3.out.pa (x := 2) ⟨by decide, by decide⟩).mono ?_
  rintro e w4 ⟨rfl, m, o⟩
  rw [ex_a] at m
  have H4 := Lib.hid (H3.out.toA m o)
  clear m o H3
  have HNX := Lib.hid (Park_next H4.out.pa)
  rw [parkA_2] at HNX
  have HSM := Lib.hid fun W => Plan.Sem_any 1 1 1 0 0 W
  obtain ⟨pl, hpl⟩ : ∃ pl, pl = ofI 1 2 0 := ⟨_, rfl⟩
  rw [← hpl] at HNX HSM
  have HPL := Lib.hid hpl
  clear hpl
  go_wp2_with fail
  refine HNX.out.mono ?_
  rintro e w5 ⟨rfl, b5⟩
  simp only [Option.getD_some, Option.isSome_some]
  go_wp2_with fail
  have HK := Lib.hid (show w4.heap.size ≤ w5.heap.size from b5.size)
  have H5 := Lib.hid (H4.out.later (chain b5 (ba w5 (.cells #[.int .i64 4, .int .i64 pl, .int .u64 18446744073709551615, .int .u64 0, .int .u64 0] 38))))
  have HKL := Lib.hid (show a < w5.heap.size ∧ b < w5.heap.size ∧ c < w5.heap.size from ⟨Nat.lt_of_lt_of_le H4.out.pa.lt HK.out, Nat.lt_of_lt_of_le H4.out.pb.lt HK.out, Nat.lt_of_lt_of_le H4.out.pc.lt HK.out⟩)
  have HD5 := Lib.hid (show (fun (k : Nat) (W : World) => W.cell? ⟨k, 0, none⟩ = some (.int .i64 4) ∧ W.cell? ⟨k, 1, none⟩ = some (.int .i64 pl) ∧ W.cell? ⟨k, 2, none⟩ = some (.int .u64 18446744073709551615) ∧ W.cell? ⟨k, 3, none⟩ = some (.int .u64 0) ∧ W.cell? ⟨k, 4, none⟩ = some (.int .u64 0)) w5.heap.size (w5.alloc (.cells #[.int .i64 4, .int .i64 pl, .int .u64 18446744073709551615, .int .u64 0, .int .u64 0] 38)) from by
    have hn := new_heap w5 (.cells #[.int .i64 4, .int .i64 pl, .int .u64 18446744073709551615, .int .u64 0, .int .u64 0] 38)
    exact ⟨(cell_heap hn 0).1, (cell_heap hn 1).1, (cell_heap hn 2).1, (cell_heap hn 3).1, (cell_heap hn 4).1⟩)
  have HKK := Lib.hid (show w5.heap.size < (w5.alloc (.cells #[.int .i64 4, .int .i64 pl, .int .u64 18446744073709551615, .int .u64 0, .int .u64 0] 38)).heap.size from by simp)
  clear b5 HNX H4 HK
  generalize w5.heap.size = k at HKL HD5 HKK ⊢
  generalize w5.alloc (.cells #[.int .i64 4, .int .i64 pl, .int .u64 18446744073709551615, .int .u64 0, .int .u64 0] 38) = w6 at H5 HD5 HKK ⊢
  go_wp2_with fail
  refine (Park_tell H5.out.pb (x := 0) ⟨by decide, by decide⟩).mono ?_
  rintro e w7 ⟨rfl, m, o⟩
  rw [ex_z] at m
  have H7 := Lib.hid (H5.out.toB m o)
  have HD7 := Lib.hid (deed_only HD5.out o (by have := HKL.out; omega))
  have HZ7 := Lib.hid o.size
  clear m o H5
  go_wp2_with fail
  refine (Park_tell H7.out.pb (x := 4) ⟨by decide, by decide⟩).mono ?_
  rintro e w8 ⟨rfl, m, o⟩
  rw [ex_b] at m
  have H8 := Lib.hid (H7.out.toB m o)
  have HD8 := Lib.hid (deed_only HD7.out o (by have := HKL.out; omega))
  have HZ8 := Lib.hid o.size
  clear m o H7
  go_wp2_with fail
  refine (Park_tell H8.out.pc (x := 0) ⟨by decide, by decide⟩).mono ?_
  rintro e w9 ⟨rfl, m, o⟩
  rw [ex_z] at m
  have H9 := Lib.hid (H8.out.toC m o)
  have HD9 := Lib.hid (deed_only HD8.out o (by have := HKL.out; omega))
  have HZ9 := Lib.hid o.size
  clear m o H8
  go_wp2_with fail
  refine (Park_tell H9.out.pc (x := 4) ⟨by decide, by decide⟩).mono ?_
  rintro e w10 ⟨rfl, m, o⟩
  rw [ex_c] at m
  have H10 := Lib.hid (H9.out.toC m o)
  have HD10 := Lib.hid (deed_only HD9.out o (by have := HKL.out; omega))
  have HZ10 := Lib.hid o.size
  clear m o H9
  have HZ := Lib.hid (show k < w10.heap.size by have h0 := HKK.out; have h7 := HZ7.out; have h8 := HZ8.out; have h9 := HZ9.out; have h10 := HZ10.out; omega)
  clear HZ7 HZ8 HZ9 HZ10 HKK HD5 HD7 HD8 HD9
  have HNX := Lib.hid (Park_next H10.out.pb)
  rw [parkA_0] at HNX
  go_wp2_with fail
  refine HNX.out.mono ?_
  rintro e w11 ⟨rfl, b11⟩
  simp only [Option.getD_none, Option.isSome_none]
  go_wp2_with fail
  have H11 := Lib.hid (H10.out.later (chain b11 (ba w11 (.cells #[.int .i64 0, .int .i64 0, .int .u64 0, .int .u64 0, .int .u64 0] 38))))
  have HD11 := Lib.hid (deed_only HD10.out (only_below (fun _ => False) (chain b11 (ba w11 (.cells #[.int .i64 0, .int .i64 0, .int .u64 0, .int .u64 0, .int .u64 0] 38)))) id)
  clear b11 HNX H10 HD10
  generalize w11.alloc (.cells #[.int .i64 0, .int .i64 0, .int .u64 0, .int .u64 0, .int .u64 0] 38) = w12 at H11 HD11 ⊢
  have HNX := Lib.hid (Park_next H11.out.pc)
  rw [parkA_1, ← HPL.out] at HNX
  go_wp2_with fail
  refine HNX.out.mono ?_
  rintro e w13 ⟨rfl, b13⟩
  simp only [Option.getD_some, Option.isSome_some]
  have H13 := Lib.hid (H11.out.later (chain b13 (ba w13 (.cells #[.int .i64 1, .int .i64 pl, .int .u64 0, .int .u64 0, .int .u64 0] 38))))
  have HD13 := Lib.hid (deed_only HD11.out (only_below (fun _ => False) (chain b13 (ba w13 (.cells #[.int .i64 1, .int .i64 pl, .int .u64 0, .int .u64 0, .int .u64 0] 38)))) id)
  have HE13 := Lib.hid (show (fun (k : Nat) (W : World) => W.cell? ⟨k, 0, none⟩ = some (.int .i64 1) ∧ W.cell? ⟨k, 1, none⟩ = some (.int .i64 pl) ∧ W.cell? ⟨k, 2, none⟩ = some (.int .u64 0) ∧ W.cell? ⟨k, 3, none⟩ = some (.int .u64 0) ∧ W.cell? ⟨k, 4, none⟩ = some (.int .u64 0)) w13.heap.size (w13.alloc (.cells #[.int .i64 1, .int .i64 pl, .int .u64 0, .int .u64 0, .int .u64 0] 38)) from by
    have hn := new_heap w13 (.cells #[.int .i64 1, .int .i64 pl, .int .u64 0, .int .u64 0, .int .u64 0] 38)
    exact ⟨(cell_heap hn 0).1, (cell_heap hn 1).1, (cell_heap hn 2).1, (cell_heap hn 3).1, (cell_heap hn 4).1⟩)
  clear b13 HNX H11 HD11
  obtain ⟨c_0, c_1, c_2, c_3⟩ := H13.out.box
  go_wp2_with fail
  generalize w13.heap.size = ke at HE13 ⊢
  generalize w13.alloc (.cells #[.int .i64 1, .int .i64 pl, .int .u64 0, .int .u64 0, .int .u64 0] 38) = w14 at H13 HD13 HE13 c_0 c_1 c_2 c_3 ⊢
  refine (HSM.out _).mono ?_
  rintro e w15 ⟨rfl, b15⟩
  obtain ⟨d0, d1, d2, d3, d4⟩ := deed_only HD13.out (only_below (fun _ => False) b15) id
  obtain ⟨e0, e1, e2, e3, e4⟩ := (show (fun (k : Nat) (W : World) => W.cell? ⟨k, 0, none⟩ = some (.int .i64 1) ∧ W.cell? ⟨k, 1, none⟩ = some (.int .i64 pl) ∧ W.cell? ⟨k, 2, none⟩ = some (.int .u64 0) ∧ W.cell? ⟨k, 3, none⟩ = some (.int .u64 0) ∧ W.cell? ⟨k, 4, none⟩ = some (.int .u64 0)) ke w15 from ⟨cell_later b15 HE13.out.1, cell_later b15 HE13.out.2.1, cell_later b15 HE13.out.2.2.1, cell_later b15 HE13.out.2.2.2.1, cell_later b15 HE13.out.2.2.2.2⟩)
  have HEND := Lib.hid (show Below w.heap.size w w15 from HB0.out.trans ((H13.out.later b15).past.mono HB0.out.size))
  have N1 := fun W => eqlD (4, pl, 18446744073709551615, 0, 0) (4, pl, 18446744073709551615, 0, 0) W
  have N2 := fun W => eqlD (1, pl, 0, 0, 0) (1, pl, 0, 0, 0) W
  have hg := guardD
  simp only [decide_true] at N1 N2
  clear b15 HPL c_0 c_1 c_2 c_3
  go_wp2
  go_ret
  exact ⟨rfl, HEND.out⟩
end Go.Proofs.YtelnkbikgboblaaDoor.Law29
