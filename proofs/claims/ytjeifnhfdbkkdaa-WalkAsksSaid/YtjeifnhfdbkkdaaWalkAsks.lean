/- WalkAsks: for all arguments and every list of words, what taking what is due asks for, which timers are taken, and by which deadline it is stopped, whatever is found, is what the document's answer for layer 26 tells, deed by deed (of more than 300 words just the chapter's example is asked); and that example comes out; the arguments read as they did. -/
import Derived.Test.YtjeifnhfdbkkdaaWalkAwake
import Derived.Test.YtjeifnhfdbkkdaaWalkRef
import Derived.Test.YtjeifnhfdbkkdaaWalkDues
import Derived.Test.YtjeifnhfdbkkdaaTaskRef
import Derived.Test.YtjeifnhfdbkkdaaFrame
namespace Go.Proofs.Ytjeifnhfdbkkdaa.WalkAsks
set_option maxRecDepth 20000
open Go.ChangeShapes Go.WideShapes Go.ChangeAt Go.RowKit CM DM PM Runs Lay Plan Ints Go.Proofs.Ytjeifnhfdbkkdaa.Task Go.Proofs.Ytjeifnhfdbkkdaa.Tape WaM Go.Proofs.Ytjeifnhfdbkkdaa.Wlk
set_option linter.unusedVariables false
set_option linter.unusedSimpArgs false

/-- Amid the deeds: w0 is the world behind the plan's box, in block b. -/
def Loop (w0 : World) (b B p : Nat) (T N L G ct : Int) (fs : List Int) (v : Value) (j : Nat) (wr : World) : Prop :=
  ∃ out s S, j = out.length ∧ wr.ownsRow B 31 5 v j (flat encD out) ∧ Walks wr p S T N L G ct j s ∧ (∀ k, S k → b < k ∧ k < wr.heap.size) ∧ (∀ k, v.ownBlock = some k → ¬ S k) ∧ Below (b + 1) w0 wr ∧ B ≤ wr.heap.size ∧
    (Mid (walkA T L) (walkT ct) fs WaM.start out s ∨ (Fin (walkA T L) (walkT ct) fs WaM.start out s ∧ (walkA T L s).isSome = true ∧ j = fs.length + 1))

set_option maxHeartbeats 4000000 in
theorem walk_small (T N L G ct : Int) (A : Option Addr) (l : List Int) (c : Nat) (w : World) (hR : Row w w.heap.size A (flat (encZ .u64) l)) (hl : l.length ≤ 300) (hw : ∀ f ∈ l, 0 ≤ f ∧ f < 18446744073709551616) :
    Calls Try.prog 3 #[.agg #[.int .i64 T, .int .i64 N, .int .i64 L, .int .u64 G], .int .i64 ct, .slice A l.length c] w fun e w' => e = .returned (.bool true) ∧ Below w.heap.size w w' := by
  obtain ⟨n, hn⟩ : ∃ n, n = l.length := ⟨_, rfl⟩
  rw [← hn] at hl ⊢
  have HN := Lib.hid hn
  have HR := Lib.hid hR
  have HW := Lib.hid hw

  have HB0 := Lib.hid (box_below w (.cells #[.int .i64 T, .int .i64 N, .int .i64 L, .int .u64 G] 24))
  have HSZ := Lib.hid (show (w.alloc (.cells #[.int .i64 T, .int .i64 N, .int .i64 L, .int .u64 G] 24)).heap.size = w.heap.size + 1 by simp)
  obtain ⟨i0, hi, hz0, hz1, hz2⟩ := info_parts info_deed
  obtain ⟨c_0, c_1, c_2, c_3⟩ := box4 w (.int .i64 T) (.int .i64 N) (.int .i64 L) (.int .u64 G) 24
  clear hn hR hw
  go_enter Try.func3, Try.ntmps3
  go_wp2_with fail
  refine (Walk_any T N L G ct _).mono ?_
  rintro e w1 ⟨p, S1, rfl, p1, hp1, b1⟩
  have HB1 := Lib.hid (show Below (w.heap.size + 1) (w.alloc (.cells #[.int .i64 T, .int .i64 N, .int .i64 L, .int .u64 G] 24)) w1 from by have h := b1; rw [HSZ.out] at h; exact h)
  have HP0 := Lib.hid (show w.heap.size + 1 ≤ w1.heap.size by have := b1.size; rw [HSZ.out] at this; exact this)
  have H1 := Lib.hid (show Loop (w.alloc (.cells #[.int .i64 T, .int .i64 N, .int .i64 L, .int .u64 G] 24)) w.heap.size w1.heap.size p T N L G ct l (.slice none 0 0) 0 w1 from ⟨[], _, S1, rfl, World.ownsRow_nil _ _ _ _, p1, fun k e => by have := hp1 k e; rw [HSZ.out] at this; omega, fun k e => (by cases e), HB1.out, Nat.le_refl _, .inl (Mid.start _ _)⟩)
  clear p1 hp1 b1 c_0 c_1 c_2 c_3
  go_wp2
  go_loopw [8, 9] (fun v iv wr => ∃ j : Nat, iv = .int .i64 j ∧ Loop (w.alloc (.cells #[.int .i64 T, .int .i64 N, .int .i64 L, .int .u64 G] 24)) w.heap.size w1.heap.size p T N L G ct l v j wr) (fun v iv _ => n + 2 - (intOf iv).toNat)
  case atStart => exact ⟨0, rfl, H1.out⟩
  case round =>
    obtain ⟨j, rfl, out, s, S, hj, ho, hp, hS, hvS, hon, hB, hor⟩ := hrel
    obtain ⟨A', c', rfl, hc'⟩ := slice_of_own ho
    have HJ := Lib.hid hj
    have HO := Lib.hid ho
    have HP := Lib.hid hp
    have HS := Lib.hid hS
    have HVS := Lib.hid hvS
    have HON := Lib.hid hon
    have HBB := Lib.hid hB
    have HBW := Lib.hid (show Below w.heap.size w wr from HB0.out.trans (hon.mono (Nat.le_succ _)))
    have HNX := Lib.hid (Walk_next hp)
    clear hj ho hp hon hS hvS hB
    rcases hor with hm | ⟨hfin, hmo, hjn⟩
    · have HM := Lib.hid hm
      have hle : j ≤ n := by have h1 := hm.len; have h2 := HN.out; have h3 := HJ.out; omega
      clear hm
      cases hx : walkA T L s with
      | none =>
        have HFIN := Lib.hid (HM.out.done hx)
        have HIS := Lib.hid (show (walkA T L s).isSome = false by rw [hx]; rfl)
        rw [hx] at HNX
        clear hx
        go_wp2_with fail
        refine HNX.out.mono ?_
        rintro e w2 ⟨rfl, b2⟩
        simp only [Option.getD_none, Option.isSome_none]
        have HB2 := Lib.hid (b2.trans ((box_below w2 (.cells #[.int .i64 0, .int .i64 0, .int .u64 0, .int .u64 0, .int .u64 0] 31)).mono b2.size))
        clear b2
        have HWT := Lib.hid (show Walks (w2.alloc (.cells #[.int .i64 0, .int .i64 0, .int .u64 0, .int .u64 0, .int .u64 0] 31)) p S T N L G ct j s ∧ (w2.alloc (.cells #[.int .i64 0, .int .i64 0, .int .u64 0, .int .u64 0, .int .u64 0] 31)).ownsRow w1.heap.size 31 5 (.slice A' j c') j (flat encD out) ∧ Below (w.heap.size + 1) (w.alloc (.cells #[.int .i64 T, .int .i64 N, .int .i64 L, .int .u64 G] 24)) (w2.alloc (.cells #[.int .i64 0, .int .i64 0, .int .u64 0, .int .u64 0, .int .u64 0] 31)) ∧ Below w.heap.size w (w2.alloc (.cells #[.int .i64 0, .int .i64 0, .int .u64 0, .int .u64 0, .int .u64 0] 31)) from ⟨Walks.only HP.out (only_below (fun _ => False) HB2.out) (fun _ _ => id), own_later HO.out HB2.out, HON.out.trans (HB2.out.mono (by have := HON.out.size; have := HSZ.out; omega)), HBW.out.trans (HB2.out.mono HBW.out.size)⟩)
        have htp := Tp.made (c := c) HN.out (HR.out.later HWT.out.2.2.2) (by have := HN.out; omega)
        try simp only [World.size_alloc] at htp
        have HTP := Lib.hid htp
        clear htp
        obtain ⟨c_0, c_1, c_2, c_3⟩ := box4_later (HWT.out.2.2.1.trans ((box_below (w2.alloc (.cells #[.int .i64 0, .int .i64 0, .int .u64 0, .int .u64 0, .int .u64 0] 31)) (.cells #[.slice A n c, .slice none 0 0, .bool false] 37)).mono (by have := HWT.out.2.2.1.size; have := HSZ.out; omega)))
        go_wp2_with fail
        refine (WalkRef.Walk_run HTP.out HW.out T N L G ct).mono ?_
        rintro e w5 ⟨s5, out5, A5, c5, took, rfl, hf5, t5, o5, r5, u5, l5⟩
        obtain ⟨rfl, rfl⟩ := HFIN.out.one hf5
        have HR5 := Lib.hid r5
        have HU5 := Lib.hid u5
        have HL5 := Lib.hid (show took.length ≤ 1000000 by omega)
        clear r5 u5 l5
        have HB5 := Lib.hid (show Below (w2.alloc (.cells #[.int .i64 0, .int .i64 0, .int .u64 0, .int .u64 0, .int .u64 0] 31)).heap.size (w2.alloc (.cells #[.int .i64 0, .int .i64 0, .int .u64 0, .int .u64 0, .int .u64 0] 31)) w5 from (box_below _ _).trans (o5.below (by simp) (fun k e => by (try simp only [World.size_alloc]); exact Nat.not_lt.1 e)))
        have HNX5 := Lib.hid (Walk_next (Walks.only HWT.out.1 (only_below (fun _ => False) HB5.out) (fun _ _ => id)))
        have HT5 := Lib.hid t5
        unfold Wlk.Told Wlk.ToldD at HNX5
        generalize (walkA T L s).isSome = bo at HT5 HNX5 HIS
        generalize (walkA T L s).getD (0, 0, 0, 0, 0) = d5 at HNX5
        clear hf5 t5 o5 c_0 c_1 c_2 c_3
        go_wp2_with fail
        refine HNX5.out.mono ?_
        rintro e w6 ⟨rfl, b6⟩
        have HB6 := Lib.hid (b6.trans ((box_below w6 (.cells #[.int .i64 d5.1, .int .i64 d5.2.1, .int .u64 d5.2.2.1, .int .u64 d5.2.2.2.1, .int .u64 d5.2.2.2.2] 31)).mono b6.size))
        have HT6 := Lib.hid (HT5.out.later HB6.out)
        obtain ⟨O, oc, q1, r1⟩ := HT6.out.row
        rw [← HJ.out] at q1
        have HR6 := Lib.hid r1
        have HRA := Lib.hid ((Row.of_own (own_later HWT.out.2.1 HB5.out)).later HB6.out)
        clear b6 r1
        go_wp2_with fail
        refine (TaskRef.Same_yes (l := out) HJ.out HJ.out HRA.out HR6.out (by omega)).mono ?_
        rintro e w7 ⟨rfl, b7⟩
        have HB7 := Lib.hid b7
        have HT7 := Lib.hid (HT6.out.later b7)
        have q2 := (HT6.out.later b7).stop
        have hbb : (bo == bo) = true := by simp
        clear b7 q1
        have HP7 := Lib.hid (((HWT.out.1.later HB5.out).later HB6.out).later HB7.out)
        have HR7 := Lib.hid ((HR5.out.later HB6.out).later HB7.out)
        have hj1 : j ≤ 301 := by omega
        have HOL := Lib.hid (show s.out.length ≤ 1000000 by have := HP7.out.1.len; omega)
        go_wp2_with fail
        refine (Batch_any HP7.out (by omega)).mono ?_
        rintro e w8 ⟨A8, c8, rfl, o8, b8⟩
        have HR8 := Lib.hid (Row.of_own o8)
        have HRT := Lib.hid (HR7.out.later b8)
        have HB8 := Lib.hid b8
        have HP8 := Lib.hid (HP7.out.later b8)
        clear o8 b8 q2
        have q2 := (HT7.out.later HB8.out).stop
        go_wp2_with fail
        refine (WalkDues.Dues_any rfl HRT.out HL5.out).mono ?_
        rintro e w9 ⟨A9, c9, rfl, o9, b9⟩
        have HR9 := Lib.hid (show Row w9 w9.heap.size A9 (flat DueRows.encU s.out) from by rw [HU5.out]; exact Row.of_own o9)
        have HR8b := Lib.hid (HR8.out.later b9)
        have HB9 := Lib.hid b9
        have HP9 := Lib.hid (HP8.out.later b9)
        have HLL := Lib.hid (show took.length = s.out.length by rw [HU5.out, List.length_map])
        clear o9 b9
        go_wp2_with fail
        refine (WalkDues.Same_yes (l := s.out) rfl HLL.out HR8b.out HR9.out HOL.out).mono ?_
        rintro e w10 ⟨rfl, b10⟩
        have HP10 := Lib.hid (HP9.out.later b10)
        have HBX := Lib.hid (HB8.out.trans ((HB9.out.trans (b10.mono HB9.out.size)).mono HB8.out.size))
        replace HB7 := Lib.hid (HB7.out.trans (HBX.out.mono HB7.out.size))
        clear b10
        go_wp2_with fail
        refine (Stop_any HP10.out).mono ?_
        rintro e w11 ⟨rfl, rfl⟩
        have hss : (s.sp == s.sp) = true := by simp
        go_wp2_with fail
        refine (Law26.awake_any _).mono ?_
        rintro e w8 ⟨rfl, b8⟩
        go_wp2
        go_ret
        exact ⟨rfl, ((HWT.out.2.2.2.trans (HB5.out.mono HWT.out.2.2.2.size)).trans (HB6.out.mono (HWT.out.2.2.2.trans (HB5.out.mono HWT.out.2.2.2.size)).size)).trans ((HB7.out.trans (b8.mono HB7.out.size)).mono ((HWT.out.2.2.2.trans (HB5.out.mono HWT.out.2.2.2.size)).trans (HB6.out.mono (HWT.out.2.2.2.trans (HB5.out.mono HWT.out.2.2.2.size)).size)).size)⟩
      | some d =>
        have HX := Lib.hid hx
        rw [hx] at HNX
        clear hx
        go_wp2_with fail
        refine HNX.out.mono ?_
        rintro e w2 ⟨rfl, b2⟩
        simp only [Option.getD_some, Option.isSome_some]
        have HB2 := Lib.hid (b2.trans ((box_below w2 (.cells #[.int .i64 d.1, .int .i64 d.2.1, .int .u64 d.2.2.1, .int .u64 d.2.2.2.1, .int .u64 d.2.2.2.2] 31)).mono b2.size))
        have HSZ2 := Lib.hid (show wr.heap.size ≤ w2.heap.size from b2.size)
        have HAFT := Lib.hid (show ∀ (o : Obj) (w3 : World), Only (fun k => (Value.slice A' j c').ownBlock = some k) ((w2.alloc (.cells #[.int .i64 d.1, .int .i64 d.2.1, .int .u64 d.2.2.1, .int .u64 d.2.2.2.1, .int .u64 d.2.2.2.2] 31)).alloc o) w3 → Walks w3 p S T N L G ct j s ∧ Below (w.heap.size + 1) (w.alloc (.cells #[.int .i64 T, .int .i64 N, .int .i64 L, .int .u64 G] 24)) w3 ∧ Below w.heap.size w w3 from fun o w3 ho => by
          have z1 : w.heap.size + 1 ≤ wr.heap.size := by have h1 := HON.out.size; rw [HSZ.out] at h1; exact h1
          have z2 : w.heap.size + 1 ≤ (w2.alloc (.cells #[.int .i64 d.1, .int .i64 d.2.1, .int .u64 d.2.2.1, .int .u64 d.2.2.2.1, .int .u64 d.2.2.2.2] 31)).heap.size := Nat.le_trans z1 HB2.out.size
          have z3 : w.heap.size + 1 ≤ ((w2.alloc (.cells #[.int .i64 d.1, .int .i64 d.2.1, .int .u64 d.2.2.1, .int .u64 d.2.2.2.1, .int .u64 d.2.2.2.2] 31)).alloc o).heap.size := Nat.le_trans z2 (box_below _ o).size
          have e1 : Below (w.heap.size + 1) (w.alloc (.cells #[.int .i64 T, .int .i64 N, .int .i64 L, .int .u64 G] 24)) w3 := (HON.out.trans (HB2.out.mono z1)).trans (((box_below _ o).mono z2).trans (ho.below z3 (fun k e => by have := (HO.out.lt k e).1; have := HP0.out; omega)))
          exact ⟨Walks.only (Walks.only (Walks.only HP.out (only_below (fun _ => False) HB2.out) (fun _ _ => id)) (only_alloc _ (fun _ => False) o) (fun _ _ => id)) ho (fun k q e => HVS.out k e q), e1, HB0.out.trans (e1.mono (Nat.le_succ _))⟩)
        clear b2
        by_cases hlt : j < n
        · obtain ⟨f, hf⟩ : ∃ f, l[j]? = some f := ⟨_, List.getElem?_eq_getElem (by have := HN.out; omega)⟩
          obtain ⟨b, o, rfl, _, _⟩ := int_at HR.out (show j < l.length by have := HN.out; omega)
          have HF := Lib.hid hf
          clear hf
          go_wp2_with (at_builtin; refine wpList_append_only _ rfl (.tmp 37) (.tmp 39) 29 rfl w1.heap.size 31 i0 _ 5 40 Try.underlying29 hi hz0 hz1 hz2 rfl (by decide) _ j _ rfl ((own_later HO.out HB2.out).alloc _) ⟨w2.heap.size + 1, 0, none⟩ 1 1 (encD d) rfl (by decide) rfl (cells_past _ _ _ _) (encD_one _) (by simp only [maxLen]; omega) (by omega) (by have h1 := HON.out.size; have h2 := HB2.out.size; have h3 := HBB.out; simp at h2 ⊢; omega) ?_; intro g2 cap w3 ho3 hg3 hlt3 hor3 hon3; obtain ⟨k1, k2, k3⟩ := HAFT.out _ _ hon3; have HP3 := Lib.hid k1; have HON3 := Lib.hid k2; have HO3 := Lib.hid ho3; have HG3 := Lib.hid hor3; have HL3 := Lib.hid hlt3; have HH3 := Lib.hid hon3.size; have d3 := row_cell (HR.out.later k3) HF.out; clear ho3 hg3 hlt3 hor3 hon3 k1 k2 k3)
          have HNS := Lib.hid (show ¬ S g2 ∧ g2 < w3.heap.size ∧ ∀ k, S k → w.heap.size < k ∧ k < w3.heap.size from ⟨fun q => by
              have h1 := HS.out g2 q
              have h2 := HSZ2.out
              rcases HG3.out with e | e
              · exact HVS.out _ e q
              · rw [e] at h1; simp only [World.size_alloc] at h1; omega, (HO3.out.lt g2 rfl).2, fun k q => by
              have h1 := HS.out k q
              have h2 := HSZ2.out
              have h3 := HH3.out
              simp only [World.size_alloc] at h3
              omega⟩)
          refine (Walk_tell HP3.out (by omega) (HW.out f (List.mem_of_getElem? HF.out))).mono ?_
          rintro e w4 ⟨rfl, S4, p4, o4, s4⟩
          have H4 := Lib.hid (show Loop (w.alloc (.cells #[.int .i64 T, .int .i64 N, .int .i64 L, .int .u64 G] 24)) w.heap.size w1.heap.size p T N L G ct l (.slice (some ⟨g2, 0, none⟩) (j + 1) cap) (j + 1) w4 from ⟨out ++ [d], _, S4, by rw [List.length_append, ← HJ.out]; rfl, by rw [flat_append, flat_one]; exact o4.own HO3.out (fun k e => by cases e; exact HNS.out.1), p4, fun k q => by
              rcases s4 k q with h | h
              · have h1 := HNS.out.2.2 k h
                have h2 := o4.size
                omega
              · have h1 := HON3.out.size
                have h2 := HSZ.out
                omega, fun k e q => by
              cases e
              rcases s4 _ q with h | h
              · exact HNS.out.1 h
              · exact absurd (show w3.heap.size ≤ g2 from h.1) (Nat.not_le.2 HNS.out.2.1), HON3.out.trans (o4.below (by have := HON3.out.size; have := HSZ.out; omega) (fun k q => (HNS.out.2.2 k q).1)), Nat.le_trans HBB.out (Nat.le_trans HSZ2.out (Nat.le_trans (by have h3 := HH3.out; simp only [World.size_alloc] at h3; omega) o4.size)), .inl (HM.out.more HX.out (by rw [← HJ.out]; exact HF.out))⟩)
          clear p4 o4 s4 d3
          go_wp2
          go_roundw
          case rel => exact ⟨j + 1, by go_num, H4.out⟩
          case measure => simp [intOf]; omega
        · obtain rfl : j = n := by omega
          go_wp2_with (at_builtin; refine wpList_append_only _ rfl (.tmp 37) (.tmp 39) 29 rfl w1.heap.size 31 i0 _ 5 40 Try.underlying29 hi hz0 hz1 hz2 rfl (by decide) _ j _ rfl ((own_later HO.out HB2.out).alloc _) ⟨w2.heap.size + 1, 0, none⟩ 1 1 (encD d) rfl (by decide) rfl (cells_past _ _ _ _) (encD_one _) (by simp only [maxLen]; omega) (by omega) (by have h1 := HON.out.size; have h2 := HB2.out.size; have h3 := HBB.out; simp at h2 ⊢; omega) ?_; intro g2 cap w3 ho3 hg3 hlt3 hor3 hon3; obtain ⟨k1, k2, k3⟩ := HAFT.out _ _ hon3; have HP3 := Lib.hid k1; have HON3 := Lib.hid k2; have HO3 := Lib.hid ho3; have HG3 := Lib.hid hor3; have HH3 := Lib.hid hon3.size; clear ho3 hg3 hlt3 hor3 hon3 k1 k2 k3)
          have HNS := Lib.hid (show ¬ S g2 ∧ ∀ k, S k → w.heap.size < k ∧ k < w3.heap.size from ⟨fun q => by
              have h1 := HS.out g2 q
              have h2 := HSZ2.out
              rcases HG3.out with e | e
              · exact HVS.out _ e q
              · rw [e] at h1; simp only [World.size_alloc] at h1; omega, fun k q => by
              have h1 := HS.out k q
              have h2 := HSZ2.out
              have h3 := HH3.out
              simp only [World.size_alloc] at h3
              omega⟩)
          have H4 := Lib.hid (show Loop (w.alloc (.cells #[.int .i64 T, .int .i64 N, .int .i64 L, .int .u64 G] 24)) w.heap.size w1.heap.size p T N L G ct l (.slice (some ⟨g2, 0, none⟩) (j + 1) cap) (j + 1) w3 from ⟨out ++ [d], s, S, by rw [List.length_append, ← HJ.out]; rfl, by rw [flat_append, flat_one]; exact HO3.out, HP3.out.up (Nat.le_succ _), HNS.out.2, fun k e => by cases e; exact HNS.out.1, HON3.out, Nat.le_trans HBB.out (Nat.le_trans HSZ2.out (by have h3 := HH3.out; simp only [World.size_alloc] at h3; omega)), .inr ⟨HM.out.last HX.out (by rw [← HJ.out, ← HN.out]; exact Nat.le_refl _), by rw [HX.out]; rfl, by rw [← HN.out]⟩⟩)
          go_roundw
          case rel => exact ⟨_, by go_num, H4.out⟩
          case measure => simp [intOf] <;> omega
    · have HFIN := Lib.hid hfin
      have HIS := Lib.hid hmo
      have hjn1 : ¬ ((j : Int) ≤ (n : Int)) := by have := HN.out; omega
      have hle : j ≤ 301 := by have := HN.out; omega
      clear hfin hmo hjn
      have HWT := Lib.hid (show Walks (wr) p S T N L G ct j s ∧ (wr).ownsRow w1.heap.size 31 5 (.slice A' j c') j (flat encD out) ∧ Below (w.heap.size + 1) (w.alloc (.cells #[.int .i64 T, .int .i64 N, .int .i64 L, .int .u64 G] 24)) (wr) ∧ Below w.heap.size w (wr) from ⟨HP.out, HO.out, HON.out, HBW.out⟩)
      have htp := Tp.made (c := c) HN.out (HR.out.later HWT.out.2.2.2) (by have := HN.out; omega)
      try simp only [World.size_alloc] at htp
      have HTP := Lib.hid htp
      clear htp
      obtain ⟨c_0, c_1, c_2, c_3⟩ := box4_later (HWT.out.2.2.1.trans ((box_below (wr) (.cells #[.slice A n c, .slice none 0 0, .bool false] 37)).mono (by have := HWT.out.2.2.1.size; have := HSZ.out; omega)))
      go_wp2_with fail
      refine (WalkRef.Walk_run HTP.out HW.out T N L G ct).mono ?_
      rintro e w5 ⟨s5, out5, A5, c5, took, rfl, hf5, t5, o5, r5, u5, l5⟩
      obtain ⟨rfl, rfl⟩ := HFIN.out.one hf5
      have HR5 := Lib.hid r5
      have HU5 := Lib.hid u5
      have HL5 := Lib.hid (show took.length ≤ 1000000 by omega)
      clear r5 u5 l5
      have HB5 := Lib.hid (show Below (wr).heap.size (wr) w5 from (box_below _ _).trans (o5.below (by simp) (fun k e => by (try simp only [World.size_alloc]); exact Nat.not_lt.1 e)))
      have HNX5 := Lib.hid (Walk_next (Walks.only HWT.out.1 (only_below (fun _ => False) HB5.out) (fun _ _ => id)))
      have HT5 := Lib.hid t5
      unfold Wlk.Told Wlk.ToldD at HNX5
      generalize (walkA T L s).isSome = bo at HT5 HNX5 HIS
      generalize (walkA T L s).getD (0, 0, 0, 0, 0) = d5 at HNX5
      clear hf5 t5 o5 c_0 c_1 c_2 c_3
      go_wp2_with fail
      refine HNX5.out.mono ?_
      rintro e w6 ⟨rfl, b6⟩
      have HB6 := Lib.hid (b6.trans ((box_below w6 (.cells #[.int .i64 d5.1, .int .i64 d5.2.1, .int .u64 d5.2.2.1, .int .u64 d5.2.2.2.1, .int .u64 d5.2.2.2.2] 31)).mono b6.size))
      have HT6 := Lib.hid (HT5.out.later HB6.out)
      obtain ⟨O, oc, q1, r1⟩ := HT6.out.row
      rw [← HJ.out] at q1
      have HR6 := Lib.hid r1
      have HRA := Lib.hid ((Row.of_own (own_later HWT.out.2.1 HB5.out)).later HB6.out)
      clear b6 r1
      go_wp2_with fail
      refine (TaskRef.Same_yes (l := out) HJ.out HJ.out HRA.out HR6.out (by omega)).mono ?_
      rintro e w7 ⟨rfl, b7⟩
      have HB7 := Lib.hid b7
      have HT7 := Lib.hid (HT6.out.later b7)
      have q2 := (HT6.out.later b7).stop
      have hbb : (bo == bo) = true := by simp
      clear b7 q1
      have HP7 := Lib.hid (((HWT.out.1.later HB5.out).later HB6.out).later HB7.out)
      have HR7 := Lib.hid ((HR5.out.later HB6.out).later HB7.out)
      have hj1 : j ≤ 301 := by omega
      have HOL := Lib.hid (show s.out.length ≤ 1000000 by have := HP7.out.1.len; omega)
      go_wp2_with fail
      refine (Batch_any HP7.out (by omega)).mono ?_
      rintro e w8 ⟨A8, c8, rfl, o8, b8⟩
      have HR8 := Lib.hid (Row.of_own o8)
      have HRT := Lib.hid (HR7.out.later b8)
      have HB8 := Lib.hid b8
      have HP8 := Lib.hid (HP7.out.later b8)
      clear o8 b8 q2
      have q2 := (HT7.out.later HB8.out).stop
      go_wp2_with fail
      refine (WalkDues.Dues_any rfl HRT.out HL5.out).mono ?_
      rintro e w9 ⟨A9, c9, rfl, o9, b9⟩
      have HR9 := Lib.hid (show Row w9 w9.heap.size A9 (flat DueRows.encU s.out) from by rw [HU5.out]; exact Row.of_own o9)
      have HR8b := Lib.hid (HR8.out.later b9)
      have HB9 := Lib.hid b9
      have HP9 := Lib.hid (HP8.out.later b9)
      have HLL := Lib.hid (show took.length = s.out.length by rw [HU5.out, List.length_map])
      clear o9 b9
      go_wp2_with fail
      refine (WalkDues.Same_yes (l := s.out) rfl HLL.out HR8b.out HR9.out HOL.out).mono ?_
      rintro e w10 ⟨rfl, b10⟩
      have HP10 := Lib.hid (HP9.out.later b10)
      have HBX := Lib.hid (HB8.out.trans ((HB9.out.trans (b10.mono HB9.out.size)).mono HB8.out.size))
      replace HB7 := Lib.hid (HB7.out.trans (HBX.out.mono HB7.out.size))
      clear b10
      go_wp2_with fail
      refine (Stop_any HP10.out).mono ?_
      rintro e w11 ⟨rfl, rfl⟩
      have hss : (s.sp == s.sp) = true := by simp
      go_wp2_with fail
      refine (Law26.awake_any _).mono ?_
      rintro e w8 ⟨rfl, b8⟩
      go_wp2
      go_ret
      exact ⟨rfl, ((HWT.out.2.2.2.trans (HB5.out.mono HWT.out.2.2.2.size)).trans (HB6.out.mono (HWT.out.2.2.2.trans (HB5.out.mono HWT.out.2.2.2.size)).size)).trans ((HB7.out.trans (b8.mono HB7.out.size)).mono ((HWT.out.2.2.2.trans (HB5.out.mono HWT.out.2.2.2.size)).trans (HB6.out.mono (HWT.out.2.2.2.trans (HB5.out.mono HWT.out.2.2.2.size)).size)).size)⟩

theorem walk (x : Int × Int × Int × Int) (ct : Int) (A : Option Addr) (l : List Int) (c : Nat) (_ : (Lit.int .i64 x.1).wf = true) (_ : (Lit.int .i64 x.2.1).wf = true) (_ : (Lit.int .i64 x.2.2.1).wf = true) (_ : (Lit.int .u64 x.2.2.2).wf = true) (hr : (Lit.int .i64 ct).wf = true) (w : World)
    (hR : Row w w.heap.size A (flat (encZ .u64) l)) (hl : l.length ≤ maxLen) (hw : ∀ x ∈ l, (Lit.int .u64 x).wf = true) :
    Calls Try.prog 3 #[.agg #[.int .i64 x.1, .int .i64 x.2.1, .int .i64 x.2.2.1, .int .u64 x.2.2.2], .int .i64 ct, .slice A l.length c] w fun e w' => e = .returned (.bool true) ∧ Below w.heap.size w w' := by
  by_cases h : l.length ≤ 300
  · exact walk_small _ _ _ _ ct A l c w hR h fun f hf => Law26.wf_u64 (hw f hf)
  · obtain ⟨n, hn⟩ : ∃ n, n = l.length := ⟨_, rfl⟩
    unfold maxLen at hl
    rw [← hn] at hl h ⊢
    clear hn hR hw
    obtain ⟨T, N, L, G⟩ := x
    simp only
    go_enter Try.func3, Try.ntmps3
    go_wp2_with fail
    refine (Law26.awake_any _).mono ?_
    rintro e w' ⟨rfl, b1⟩
    go_wp2
    go_ret
    exact ⟨rfl, (box_below _ _).trans (b1.mono (by simp))⟩
theorem laidOut : laidOutB Try.prog = true := by kernel_rfl
theorem own : ownKnob Try.prog.godebug = none := by kernel_rfl
theorem lifted (os : Os) (started : os.Started) (H : Type) (enc : TypeId × Value → H) :
    ReturnsInHanded {} Try.checked os 3 .any (Rows.walkAsksSpec.pre6 enc Try.prog Try.f3 Rows.walkAsksRow.domain false) (Rows.walkAsksSpec.post enc Try.prog Try.f3 false true false false) := by
  refine Frame.lifted (C := Try.checked) (fn := Try.f3) (tb := 4) own started (by kernel_rfl) Try.func3
    (ChangeSpec.witness6 (enc := enc) (C := Try.checked) false ⟨#[], #[.agg #[.int .i64 0, .int .i64 0, .int .i64 0, .int .u64 0], .int .i64 0, .slice none 0 0], []⟩ 8 (by kernel_rfl) (by kernel_rfl) (by kernel_rfl) (by kernel_rfl))
    rfl rfl Try.underlying4 laidOut (by kernel_rfl) (fun ds h => by match ds, h with | [_, _, _], _ => rfl) ?_
  intro W base args ds ps hval0 hA0 hlt
  have hval : ∀ (j : Nat) t v, Try.f3.params[j]? = some t → args[j]? = some v → Value.okWide Try.prog W .any base t v := hval0
  have hA : DataW.TrodAll enc Try.prog W 0 (fun _ => true) true Try.f3.params.toList args.toList ds ps := hA0
  rw [Try.params3] at hA hval
  obtain ⟨v0, vs0, d0, ds0, p0, q0, hargs, rfl, rfl, h0, r0⟩ := trodAll_cons hA
  obtain ⟨v1, vs1, d1, ds1, p1, q1, rfl, rfl, rfl, h1, r1⟩ := trodAll_cons r0
  obtain ⟨v2, vs2, d2, ds2, p2, q2, rfl, rfl, rfl, h2, r2⟩ := trodAll_cons r1
  obtain ⟨rfl, rfl, rfl⟩ := trodAll_nil r2
  obtain rfl : args = #[v0, v1, v2] := by cases args; simp_all
  obtain ⟨x0, rfl, w0_0, w0_1, w0_2, w0_3⟩ := Open.open_four_ints Try.underlying24 (by kernel_rfl) (by kernel_rfl) Try.underlying3 Try.underlying3 Try.underlying3 Try.underlying22 (hval 0 24 v0 rfl rfl) h0
  obtain ⟨a1, rfl, _, _, w1⟩ := open_int Try.underlying3 (hval 1 3 v1 rfl rfl) h1
  obtain ⟨A2, x2, c2, rfl, b2, m2, R2, g2⟩ := Open.open_rows (k := 1) (Ints.encZ .u64) (fun x => (Lit.int .u64 x).wf = true) Try.underlying25 (by kernel_rfl) (by decide) (Ints.encZ_length _) (fun n cs y h hl => Ints.one_int Try.underlying22 n cs y h hl) (hval 2 25 v2 rfl rfl) h2
  refine (walk x0 a1 A2 x2 c2 w0_0 w0_1 w0_2 w0_3 w1 W R2 (Nat.le_trans b2 m2) g2).mono fun e W' h => ?_
  exact h

theorem over : Rows.walkAsksRow.holds Try.pinned (OpenSpec.ofChange Rows.walkAsksSpec) :=
  OpenClaim.holds_of_wide 3 Try.f3 rfl rfl rfl rfl rfl rfl rfl ⟨rfl, rfl, rfl, rfl, rfl⟩ rfl rfl rfl rfl rfl (by kernel_rfl) Try.func3 (by kernel_rfl)
    (of_decide_eq_true (by kernel_rfl)) (by unfold Func.isWrapper; first | (rw [if_pos (by decide +kernel)]; kernel_rfl) | (rw [if_neg (by decide +kernel)]; exact ⟨rfl, rfl⟩))
    (fun os started H enc _ => lifted os started H enc)

theorem proved : Rows.WalkAsksSaid := over
#print axioms proved
end Go.Proofs.Ytjeifnhfdbkkdaa.WalkAsks
