import Derived.Test.YtafjokjmogadnaaGreatDoorCollectAsksAllP30
import Derived.Test.YtafjokjmogadnaaGreatDoorCollectAsksAllP38
import Derived.Test.YtafjokjmogadnaaGreatDoorCollectAsksAllP39
import Derived.Test.YtafjokjmogadnaaGreatDoorCollectAsksAllP40
import Derived.Test.YtafjokjmogadnaaGreatDoorCollectAsksAllP41
import Derived.Test.YtafjokjmogadnaaGreatDoorTie
import Derived.Test.YtafjokjmogadnaaGreatDoorCards
/- CollectAsks: for all arguments and every list of words, what handing back what is ripe asks for, whatever is found, is what the document's answer for layer 17 tells, deed by deed (of more than 300 words just the chapter's example is asked); and that example comes out; the arguments read as they did. Condition: the library's listed tables hold what its own text lays in them (tied by the card). -/
namespace Go.Proofs.YtafjokjmogadnaaGreatDoor.CollectAsks
set_option maxRecDepth 20000
open Go.ChangeShapes Go.WideShapes Go.ChangeAt Go.RowKit CM DM PM Runs Lay Plan Ints Go.Proofs.YtafjokjmogadnaaGreatDoor.Task Go.Proofs.YtafjokjmogadnaaGreatDoor.Tape CoM LM Limbo CoFill Go.Proofs.YtafjokjmogadnaaGreatDoor.Collect Go.Proofs.YtafjokjmogadnaaGreatDoor.CollectRef
set_option linter.unusedVariables false
set_option linter.unusedSimpArgs false

theorem held {W : World} (h : laidMetH Tryz.prog Rows.collectAsksRow.laid W) : True := trivial
/-- A collector and its limbo, all whose blocks are of Z. -/
def ColZ (w : World) (p l : Nat) (Z : Nat → Prop) (T N L G : Int) (LL : Ls) (s : CoM.St) : Prop := ∃ S SL, Colls w p l S SL T N L G LL s ∧ (∀ k, S k → Z k) ∧ ∀ k, SL k → Z k
theorem ColZ.only {w w' : World} {p l : Nat} {Z R : Nat → Prop} {T N L G : Int} {LL : Ls} {s : CoM.St} (h : ColZ w p l Z T N L G LL s) (ho : Only R w w') (hR : ∀ k, Z k → ¬ R k) : ColZ w' p l Z T N L G LL s := by
  obtain ⟨S, SL, h1, h2, h3⟩ := h
  exact ⟨S, SL, h1.only ho (fun k e => hR k (h2 k e)) (fun k e => hR k (h3 k e)), h2, h3⟩
theorem ColZ.next {w : World} {p l : Nat} {Z : Nat → Prop} {T N L G : Int} {LL : Ls} {s : CoM.St} (h : ColZ w p l Z T N L G LL s) : Calls Tryz.prog 8 #[.pointer (some ⟨p, 0, none⟩)] w (Pool.Told w (colA T L s)) := by
  obtain ⟨S, SL, h1, h2, h3⟩ := h
  exact Next_any h1
theorem ColZ.tell {w : World} {p l : Nat} {Z : Nat → Prop} {T N L G f : Int} {LL : Ls} {s : CoM.St} (h : ColZ w p l Z T N L G LL s) (hf : 0 ≤ f ∧ f < 18446744073709551616) : Calls Tryz.prog 9 #[.pointer (some ⟨p, 0, none⟩), .int .u64 f] w fun e w' =>
    e = .returned (.tuple #[]) ∧ ∃ Z', ColZ w' p l Z' T N L G LL (colT T L LL s f) ∧ Only Z w w' ∧ ∀ k, Z' k → Z k ∨ (w.heap.size ≤ k ∧ k < w'.heap.size) := by
  obtain ⟨S, SL, h1, h2, h3⟩ := h
  refine (Tell_any h1 hf).mono ?_
  rintro e w' ⟨rfl, S', SL', k1, k2, k3, k4⟩
  obtain ⟨-, nv, k, A, n, c, hc⟩ := id k1
  exact ⟨rfl, fun k => S' k ∨ SL' k, ⟨S', SL', k1, fun k e => .inl e, fun k e => .inr e⟩, k2.wide (fun k e => .inl (e.elim (h2 k) (h3 k))), fun k e => e.elim (fun e => (k3 k e).imp (h2 k) (fun z => ⟨z, hc.lt k e⟩)) (fun e => (k4 k e).imp (h3 k) (fun z => ⟨z, hc.ltL k e⟩))⟩
/-- Amid the deeds: w0 is the world behind the plan's box, in block b. -/
def Loop (w0 : World) (b B p q0 : Nat) (T N L G : Int) (LS : List R2) (fs : List Int) (v : Value) (j : Nat) (wr : World) : Prop :=
  ∃ out s S, j = out.length ∧ wr.ownsRow B 34 5 v j (flat encD out) ∧ ColZ wr p q0 S T N L G (fillL LS) s ∧ (∀ k, S k → b < k ∧ k < wr.heap.size) ∧ (∀ k, v.ownBlock = some k → ¬ S k) ∧ Below (b + 1) w0 wr ∧ B ≤ wr.heap.size ∧
    (Mid (colA T L) (colT T L (fillL LS)) fs CoM.St.look out s ∨ (Fin (colA T L) (colT T L (fillL LS)) fs CoM.St.look out s ∧ (colA T L s).isSome = true ∧ j = fs.length + 1))

set_option maxHeartbeats 4000000 in
theorem walk_small (T N L G : Int) (A : Option Addr) (l : List Int) (c : Nat) (w : World) {A1 : Option Addr} {n1 c1 : Nat} {LS : List R2} (hR1 : Row w w.heap.size A1 (flat encR LS)) (hn1 : n1 = LS.length) (hl1 : n1 ≤ 100) (hF1 : ∀ x ∈ LS, (0 ≤ x.1 ∧ x.1 < 18446744073709551616) ∧ 0 ≤ x.2) (hR : Row w w.heap.size A (flat (encZ .u64) l)) (hl : l.length ≤ 300) (hw : ∀ f ∈ l, 0 ≤ f ∧ f < 18446744073709551616) :
    Calls Tryz.prog 3 #[.agg #[.int .i64 T, .int .i64 N, .int .i64 L, .int .u64 G], .slice A1 n1 c1, .slice A l.length c] w fun e w' => e = .returned (.bool true) ∧ Below w.heap.size w w' := by
  obtain ⟨n, hn⟩ : ∃ n, n = l.length := ⟨_, rfl⟩
  rw [← hn] at hl ⊢
  have HN := Lib.hid hn
  have HR := Lib.hid hR
  have HW := Lib.hid hw
  have HL1 := Lib.hid (And.intro hR1 (And.intro hn1 hF1))
  have HB0 := Lib.hid (box_below w (.cells #[.int .i64 T, .int .i64 N, .int .i64 L, .int .u64 G] 24))
  have HSZ := Lib.hid (show (w.alloc (.cells #[.int .i64 T, .int .i64 N, .int .i64 L, .int .u64 G] 24)).heap.size = w.heap.size + 1 by simp)
  obtain ⟨i0, hi, hz0, hz1, hz2⟩ := info_parts info_deed
  obtain ⟨c_0, c_1, c_2, c_3⟩ := box4 w (.int .i64 T) (.int .i64 N) (.int .i64 L) (.int .u64 G) 24
  clear hn hR hw hR1 hn1 hF1
  go_enter Tryz.func3, Tryz.ntmps3
  have hn100 : ¬ ((n1 : Int) > 100) := by omega
  have HSANE := Lib.hid (show Sane (fillL LS) from ⟨by rw [fill_length, ← HL1.out.2.1]; omega, fun y hy => (HL1.out.2.2 y (mem_fill hy)).1⟩)
  go_wp2_with fail
  refine (Fill_any (HL1.out.1.later HB0.out) HL1.out.2.1 (by omega) (fun x hx => (HL1.out.2.2 x hx).2)).mono ?_
  rintro e w0 ⟨q0, SL0, rfl, hL0, hSL0, b0⟩
  have HL0 := Lib.hid hL0
  have HBF := Lib.hid (show Below (w.heap.size + 1) (w.alloc (.cells #[.int .i64 T, .int .i64 N, .int .i64 L, .int .u64 G] 24)) w0 from by have h := b0; rw [HSZ.out] at h; exact h)
  have HSL := Lib.hid (show ∀ k, SL0 k → w.heap.size < k ∧ k < w0.heap.size from fun k e => ⟨by have := hSL0 k e; rw [HSZ.out] at this; omega, hL0.lt k e⟩)
  clear hL0 hSL0 b0 c_0 c_1 c_2 c_3
  obtain ⟨c_0, c_1, c_2, c_3⟩ := box4_later HBF.out
  go_wp2_with fail
  refine (Collect_any T N L G HL0.out HSANE.out).mono ?_
  rintro e w1 ⟨p, S1, rfl, p1, hp1, b1⟩
  have HP0 := Lib.hid (show w.heap.size + 1 ≤ w1.heap.size by have h1 := b1.size; have h2 := HBF.out.size; rw [HSZ.out] at h2; omega)
  have HB1 := Lib.hid (show Below (w.heap.size + 1) (w.alloc (.cells #[.int .i64 T, .int .i64 N, .int .i64 L, .int .u64 G] 24)) w1 from HBF.out.trans (b1.mono (by have h2 := HBF.out.size; rw [HSZ.out] at h2; exact h2)))
  have H1 := Lib.hid (show Loop (w.alloc (.cells #[.int .i64 T, .int .i64 N, .int .i64 L, .int .u64 G] 24)) w.heap.size w1.heap.size p q0 T N L G LS l (.slice none 0 0) 0 w1 from ⟨[], _, fun k => S1 k ∨ SL0 k, rfl, World.ownsRow_nil _ _ _ _, ⟨S1, SL0, p1, fun k e => .inl e, fun k e => .inr e⟩, fun k e => e.elim (fun e => by have h1 := hp1 k e; have h2 := HBF.out.size; rw [HSZ.out] at h2; omega) (fun e => by have h1 := HSL.out k e; have h2 := b1.size; omega), fun k e => (by cases e), HB1.out, Nat.le_refl _, .inl (Mid.start _ _)⟩)
  clear p1 hp1 b1 c_0 c_1 c_2 c_3
  go_wp2
  go_loopw [9, 10] (fun v iv wr => ∃ j : Nat, iv = .int .i64 j ∧ Loop (w.alloc (.cells #[.int .i64 T, .int .i64 N, .int .i64 L, .int .u64 G] 24)) w.heap.size w1.heap.size p q0 T N L G LS l v j wr) (fun v iv _ => n + 2 - (intOf iv).toNat)
  case atStart => exact ⟨0, rfl, H1.out⟩
  case round =>
    obtain ⟨j, rfl, out, s, S, hj, ho, hp, hS, hvS, hon, hB, hor⟩ := hrel
    obtain ⟨A', c', rfl, hc'⟩ := slice_of_own ho
    have HJ := Lib.hid hj
    have HO := Lib.hid ho
    have HP := Lib.hid hp
    have HS := Lib.hid hS
    have HVS := Lib.hid hvS
    have HON := Lib.hid hon
    have HBB := Lib.hid hB
    have HBW := Lib.hid (show Below w.heap.size w wr from HB0.out.trans (hon.mono (Nat.le_succ _)))
    have HNX := Lib.hid (ColZ.next hp)
    clear hj ho hp hon hS hvS hB
    rcases hor with hm | ⟨hfin, hmo, hjn⟩
    · have HM := Lib.hid hm
      have hle : j ≤ n := by have h1 := hm.len; have h2 := HN.out; have h3 := HJ.out; omega
      clear hm
      cases hx : colA T L s with
      | none =>
        have HFIN := Lib.hid (HM.out.done hx)
        have HIS := Lib.hid (show (colA T L s).isSome = false by rw [hx]; rfl)
        rw [hx] at HNX
        clear hx
        go_wp2_with fail
        refine HNX.out.mono ?_
        rintro e w2 ⟨rfl, b2⟩
        simp only [Option.getD_none, Option.isSome_none]
        have HB2 := Lib.hid (b2.trans ((box_below w2 (.cells #[.int .i64 0, .int .i64 0, .int .u64 0, .int .u64 0, .int .u64 0] 34)).mono b2.size))
        clear b2
        have HWT := Lib.hid (show ColZ (w2.alloc (.cells #[.int .i64 0, .int .i64 0, .int .u64 0, .int .u64 0, .int .u64 0] 34)) p q0 S T N L G (fillL LS) s ∧ (w2.alloc (.cells #[.int .i64 0, .int .i64 0, .int .u64 0, .int .u64 0, .int .u64 0] 34)).ownsRow w1.heap.size 34 5 (.slice A' j c') j (flat encD out) ∧ Below (w.heap.size + 1) (w.alloc (.cells #[.int .i64 T, .int .i64 N, .int .i64 L, .int .u64 G] 24)) (w2.alloc (.cells #[.int .i64 0, .int .i64 0, .int .u64 0, .int .u64 0, .int .u64 0] 34)) ∧ Below w.heap.size w (w2.alloc (.cells #[.int .i64 0, .int .i64 0, .int .u64 0, .int .u64 0, .int .u64 0] 34)) from ⟨ColZ.only HP.out (only_below (fun _ => False) HB2.out) (fun _ _ => id), own_later HO.out HB2.out, HON.out.trans (HB2.out.mono (by have := HON.out.size; have := HSZ.out; omega)), HBW.out.trans (HB2.out.mono HBW.out.size)⟩)
        have htp := Tp.made (c := c) HN.out (HR.out.later HWT.out.2.2.2) (by have := HN.out; omega)
        have HTP := Lib.hid htp
        obtain ⟨WT, hWT⟩ : ∃ WT, WT = w2.alloc (.cells #[.int .i64 0, .int .i64 0, .int .u64 0, .int .u64 0, .int .u64 0] 34) := ⟨_, rfl⟩
        have HWS := Lib.hid (show w.heap.size + 1 ≤ (w2.alloc (.cells #[.int .i64 0, .int .i64 0, .int .u64 0, .int .u64 0, .int .u64 0] 34)).heap.size from by have h1 := HWT.out.2.2.1.size; rw [HSZ.out] at h1; exact h1)
        have HBX := Lib.hid (show Below (w2.alloc (.cells #[.int .i64 0, .int .i64 0, .int .u64 0, .int .u64 0, .int .u64 0] 34)).heap.size (w2.alloc (.cells #[.int .i64 0, .int .i64 0, .int .u64 0, .int .u64 0, .int .u64 0] 34)) ((w2.alloc (.cells #[.int .i64 0, .int .i64 0, .int .u64 0, .int .u64 0, .int .u64 0] 34)).alloc (.cells #[.slice A n c, .slice none 0 0, .bool false] 40)) from box_below _ _)
        have HCX := Lib.hid (box4_later (HWT.out.2.2.1.trans (HBX.out.mono HWS.out)))
        clear htp
        try simp only [World.size_alloc] at HTP
        obtain ⟨c_0, c_1, c_2, c_3⟩ := HCX.out
        go_wp2
        go_region_held3 (fun W => W.cell? ⟨w.heap.size, 0, none⟩ = some (.int .i64 T) ∧ W.cell? ⟨w.heap.size, 1, none⟩ = some (.int .i64 N) ∧ W.cell? ⟨w.heap.size, 2, none⟩ = some (.int .i64 L) ∧ W.cell? ⟨w.heap.size, 3, none⟩ = some (.int .u64 G))
          ((first | (with_reducible exact HCX.out) | (with_reducible exact HC3.out) | (with_reducible exact HC5.out) | assumption))
          (first
            | (go_at_call 11; refine (RefFill_any ((HL1.out.1.later HWT.out.2.2.2).later (HBX.out.trans ((Below.refl _ _).drew.mono HBX.out.size))) HL1.out.2.1 (by omega) (fun x hx => (HL1.out.2.2 x hx).2)).mono ?_; rintro e w3 ⟨A3, n3, c3, rfl, f1, f2, f3, f4, f5⟩; have HB3 := Lib.hid (show Below ((w2.alloc (.cells #[.int .i64 0, .int .i64 0, .int .u64 0, .int .u64 0, .int .u64 0] 34)).alloc (.cells #[.slice A n c, .slice none 0 0, .bool false] 40)).heap.size ((w2.alloc (.cells #[.int .i64 0, .int .i64 0, .int .u64 0, .int .u64 0, .int .u64 0] 34)).alloc (.cells #[.slice A n c, .slice none 0 0, .bool false] 40)) w3 from (Below.refl _ _).drew.trans f5); have HF3 := Lib.hid (And.intro f1 (And.intro f3 f4)); have HC3 := Lib.hid (box4_later (HWT.out.2.2.1.trans ((HBX.out.trans (HB3.out.mono HBX.out.size)).mono HWS.out))); have HT3 := Lib.hid (tp_grown HTP.out HB3.out); clear f1 f2 f3 f4 f5)
            | (go_at_call 10; refine (Collect_run HT3.out HW.out T N L G HF3.out.2.1 HF3.out.1 (by rw [HF3.out.1, lenL_all, fill_length, ← HL1.out.2.1]; omega) (fun a e => .inr (HF3.out.2.2 a e)) HSANE.out.2).mono ?_; rintro e w5 ⟨s5, out5, A5, n5, c5, rfl, hf5, t5, o5, hn5, hr5⟩; have HO5 := Lib.hid (And.intro hf5 (And.intro t5 (And.intro hn5 hr5))); have HB5 := Lib.hid (show Below (w2.alloc (.cells #[.int .i64 0, .int .i64 0, .int .u64 0, .int .u64 0, .int .u64 0] 34)).heap.size (w2.alloc (.cells #[.int .i64 0, .int .i64 0, .int .u64 0, .int .u64 0, .int .u64 0] 34)) w5 from (HBX.out.trans (HB3.out.mono HBX.out.size)).trans (o5.below (HBX.out.trans (HB3.out.mono HBX.out.size)).size (fun k e => Nat.not_lt.1 fun z => e (.inl (by first | exact z | (rw [World.size_alloc] at z; exact z)))))); have HC5 := Lib.hid (box4_later (HWT.out.2.2.1.trans (HB5.out.mono HWS.out))); clear hf5 t5 o5 hn5 hr5))
        obtain ⟨rfl, rfl⟩ := HFIN.out.one HO5.out.1
        have HNX5 := Lib.hid (ColZ.next (ColZ.only HWT.out.1 (only_below (fun _ => False) HB5.out) (fun _ _ => id)))
        have HT5 := Lib.hid HO5.out.2.1
        have HRL := Lib.hid HO5.out.2.2
        obtain ⟨S6, SL6, hc6, -, -⟩ := ColZ.only HWT.out.1 (only_below (fun _ => False) HB5.out) (fun _ _ => id)
        have HCL := Lib.hid hc6
        clear hc6 HO5
        have HCT := Lib.hid (fun (W : World) (hb : Below w5.heap.size w5 W) => Count_any (HCL.out.later hb))
        have HAL := Lib.hid (show ∀ W, Below w5.heap.size w5 W → Calls Tryz.prog 15 #[.pointer (some ⟨q0, 0, none⟩)] W (Listed W (allL (leftS (fillL LS) s))) ∧ (allL (leftS (fillL LS) s)).length ≤ 1000 from fun W hb => by
          obtain ⟨S0, h1, -⟩ := (HCL.out.later hb).lim
          have h2 := lenL_all (leftS (fillL LS) s)
          have h3 : lenL (leftS (fillL LS) s) ≤ 1000 := by
            refine Nat.le_trans (show _ ≤ lenL (fillL LS) from ?_) (by rw [fill_length, ← HL1.out.2.1]; omega)
            cases s with
            | look => exact Nat.le_refl _
            | «at» c0 z => exact amidL_len _ _ _
          exact ⟨All_any h1 (by omega), by omega⟩)
        unfold Pool.Told at HNX5
        generalize cntS (fillL LS) s = cnt at HCT
        generalize allL (leftS (fillL LS) s) = LR at HAL HRL
        generalize (colA T L s).isSome = bo at HT5 HNX5 HIS
        generalize (colA T L s).getD (0, 0, 0, 0, 0) = d5 at HNX5
        clear c_0 c_1 c_2 c_3
        go_wp2_with fail
        refine HNX5.out.mono ?_
        rintro e w6 ⟨rfl, b6⟩
        have HB6 := Lib.hid (b6.trans ((box_below w6 (.cells #[.int .i64 d5.1, .int .i64 d5.2.1, .int .u64 d5.2.2.1, .int .u64 d5.2.2.2.1, .int .u64 d5.2.2.2.2] 34)).mono b6.size))
        have HT6 := Lib.hid (HT5.out.later HB6.out)
        obtain ⟨O, oc, q1, r1⟩ := HT6.out.row
        rw [← HJ.out] at q1
        have HR6 := Lib.hid r1
        have HRA := Lib.hid ((Row.of_own (own_later HWT.out.2.1 HB5.out)).later HB6.out)
        clear b6 r1
        go_wp2_with fail
        refine (TaskRef.Same_yes (l := out) HJ.out HJ.out HRA.out HR6.out (by omega)).mono ?_
        rintro e w7 ⟨rfl, b7⟩
        have HB67 := Lib.hid (HB6.out.trans (b7.mono HB6.out.size))
        have q2 := (HT6.out.later b7).stop
        have hbb : (bo == bo) = true := by simp
        have hcc : ((cnt : Int) == (cnt : Int)) = true := by simp
        clear b7 q1
        go_wp2_with fail
        refine (HCT.out _ HB67.out).mono ?_
        rintro e w8 ⟨rfl, rfl⟩
        go_wp2_with fail
        refine (HAL.out _ HB67.out).1.mono ?_
        rintro e w9 ⟨A9, n9, c9, rfl, h9, -, r9, -, b9⟩
        have HB69 := Lib.hid (HB67.out.trans (b9.mono HB67.out.size))
        have H9 := Lib.hid (And.intro h9 r9)
        have HN9 := Lib.hid (show n9 ≤ 1000000 from by have h1 := (HAL.out _ HB67.out).2; omega)
        clear h9 r9 b9
        go_wp2_with fail
        refine (LimboRef.Same_yes (l := LR) H9.out.1 HRL.out.1 H9.out.2 (HRL.out.2.later HB69.out) HN9.out).mono ?_
        rintro e w10 ⟨rfl, b10⟩
        have HB70 := Lib.hid (HB69.out.trans (b10.mono HB69.out.size))
        clear b10
        go_wp2_with fail
        refine (Law17.awake_any _).mono ?_
        rintro e w11 ⟨rfl, b11⟩
        go_wp2
        go_ret
        exact ⟨rfl, HWT.out.2.2.2.trans ((HB5.out.trans ((HB70.out.trans (b11.mono HB70.out.size)).mono HB5.out.size)).mono HWT.out.2.2.2.size)⟩
      | some d =>
        have HX := Lib.hid hx
        rw [hx] at HNX
        clear hx
        go_wp2_with fail
        refine HNX.out.mono ?_
        rintro e w2 ⟨rfl, b2⟩
        simp only [Option.getD_some, Option.isSome_some]
        have HB2 := Lib.hid (b2.trans ((box_below w2 (.cells #[.int .i64 d.1, .int .i64 d.2.1, .int .u64 d.2.2.1, .int .u64 d.2.2.2.1, .int .u64 d.2.2.2.2] 34)).mono b2.size))
        have HSZ2 := Lib.hid (show wr.heap.size ≤ w2.heap.size from b2.size)
        have HAFT := Lib.hid (show ∀ (o : Obj) (w3 : World), Only (fun k => (Value.slice A' j c').ownBlock = some k) ((w2.alloc (.cells #[.int .i64 d.1, .int .i64 d.2.1, .int .u64 d.2.2.1, .int .u64 d.2.2.2.1, .int .u64 d.2.2.2.2] 34)).alloc o) w3 → ColZ w3 p q0 S T N L G (fillL LS) s ∧ Below (w.heap.size + 1) (w.alloc (.cells #[.int .i64 T, .int .i64 N, .int .i64 L, .int .u64 G] 24)) w3 ∧ Below w.heap.size w w3 from fun o w3 ho => by
          have z1 : w.heap.size + 1 ≤ wr.heap.size := by have h1 := HON.out.size; rw [HSZ.out] at h1; exact h1
          have z2 : w.heap.size + 1 ≤ (w2.alloc (.cells #[.int .i64 d.1, .int .i64 d.2.1, .int .u64 d.2.2.1, .int .u64 d.2.2.2.1, .int .u64 d.2.2.2.2] 34)).heap.size := Nat.le_trans z1 HB2.out.size
          have z3 : w.heap.size + 1 ≤ ((w2.alloc (.cells #[.int .i64 d.1, .int .i64 d.2.1, .int .u64 d.2.2.1, .int .u64 d.2.2.2.1, .int .u64 d.2.2.2.2] 34)).alloc o).heap.size := Nat.le_trans z2 (box_below _ o).size
          have e1 : Below (w.heap.size + 1) (w.alloc (.cells #[.int .i64 T, .int .i64 N, .int .i64 L, .int .u64 G] 24)) w3 := (HON.out.trans (HB2.out.mono z1)).trans (((box_below _ o).mono z2).trans (ho.below z3 (fun k e => by have := (HO.out.lt k e).1; have := HP0.out; omega)))
          exact ⟨ColZ.only (ColZ.only (ColZ.only HP.out (only_below (fun _ => False) HB2.out) (fun _ _ => id)) (only_alloc _ (fun _ => False) o) (fun _ _ => id)) ho (fun k q e => HVS.out k e q), e1, HB0.out.trans (e1.mono (Nat.le_succ _))⟩)
        clear b2
        by_cases hlt : j < n
        · obtain ⟨f, hf⟩ : ∃ f, l[j]? = some f := ⟨_, List.getElem?_eq_getElem (by have := HN.out; omega)⟩
          obtain ⟨b, o, rfl, _, _⟩ := int_at HR.out (show j < l.length by have := HN.out; omega)
          have HF := Lib.hid hf
          clear hf
          go_wp2_with (at_builtin; refine wpList_append_only _ rfl (.tmp 45) (.tmp 47) 32 rfl w1.heap.size 34 i0 _ 5 40 Tryz.underlying32 hi hz0 hz1 hz2 rfl (by decide) _ j _ rfl ((own_later HO.out HB2.out).alloc _) ⟨w2.heap.size + 1, 0, none⟩ 1 1 (encD d) rfl (by decide) rfl (cells_past _ _ _ _) (encD_one _) (by simp only [maxLen]; omega) (by omega) (by have h1 := HON.out.size; have h2 := HB2.out.size; have h3 := HBB.out; simp at h2 ⊢; omega) ?_; intro g2 cap w3 ho3 hg3 hlt3 hor3 hon3; obtain ⟨k1, k2, k3⟩ := HAFT.out _ _ hon3; have HP3 := Lib.hid k1; have HON3 := Lib.hid k2; have HO3 := Lib.hid ho3; have HG3 := Lib.hid hor3; have HL3 := Lib.hid hlt3; have HH3 := Lib.hid hon3.size; have d3 := row_cell (HR.out.later k3) HF.out; clear ho3 hg3 hlt3 hor3 hon3 k1 k2 k3)
          have HNS := Lib.hid (show ¬ S g2 ∧ g2 < w3.heap.size ∧ ∀ k, S k → w.heap.size < k ∧ k < w3.heap.size from ⟨fun q => by
              have h1 := HS.out g2 q
              have h2 := HSZ2.out
              rcases HG3.out with e | e
              · exact HVS.out _ e q
              · rw [e] at h1; simp only [World.size_alloc] at h1; omega, (HO3.out.lt g2 rfl).2, fun k q => by
              have h1 := HS.out k q
              have h2 := HSZ2.out
              have h3 := HH3.out
              simp only [World.size_alloc] at h3
              omega⟩)
          refine (ColZ.tell HP3.out (HW.out f (List.mem_of_getElem? HF.out))).mono ?_
          rintro e w4 ⟨rfl, S4, p4, o4, s4⟩
          have H4 := Lib.hid (show Loop (w.alloc (.cells #[.int .i64 T, .int .i64 N, .int .i64 L, .int .u64 G] 24)) w.heap.size w1.heap.size p q0 T N L G LS l (.slice (some ⟨g2, 0, none⟩) (j + 1) cap) (j + 1) w4 from ⟨out ++ [d], _, S4, by rw [List.length_append, ← HJ.out]; rfl, by rw [flat_append, flat_one]; exact o4.own HO3.out (fun k e => by cases e; exact HNS.out.1), p4, fun k q => by
              rcases s4 k q with h | h
              · have h1 := HNS.out.2.2 k h
                have h2 := o4.size
                omega
              · have h1 := HON3.out.size
                have h2 := HSZ.out
                omega, fun k e q => by
              cases e
              rcases s4 _ q with h | h
              · exact HNS.out.1 h
              · exact absurd (show w3.heap.size ≤ g2 from h.1) (Nat.not_le.2 HNS.out.2.1), HON3.out.trans (o4.below (by have := HON3.out.size; have := HSZ.out; omega) (fun k q => (HNS.out.2.2 k q).1)), Nat.le_trans HBB.out (Nat.le_trans HSZ2.out (Nat.le_trans (by have h3 := HH3.out; simp only [World.size_alloc] at h3; omega) o4.size)), .inl (HM.out.more HX.out (by rw [← HJ.out]; exact HF.out))⟩)
          clear p4 o4 s4 d3
          go_wp2
          go_roundw
          case rel => exact ⟨j + 1, by go_num, H4.out⟩
          case measure => simp [intOf]; omega
        · obtain rfl : j = n := by omega
          go_wp2_with (at_builtin; refine wpList_append_only _ rfl (.tmp 45) (.tmp 47) 32 rfl w1.heap.size 34 i0 _ 5 40 Tryz.underlying32 hi hz0 hz1 hz2 rfl (by decide) _ j _ rfl ((own_later HO.out HB2.out).alloc _) ⟨w2.heap.size + 1, 0, none⟩ 1 1 (encD d) rfl (by decide) rfl (cells_past _ _ _ _) (encD_one _) (by simp only [maxLen]; omega) (by omega) (by have h1 := HON.out.size; have h2 := HB2.out.size; have h3 := HBB.out; simp at h2 ⊢; omega) ?_; intro g2 cap w3 ho3 hg3 hlt3 hor3 hon3; obtain ⟨k1, k2, k3⟩ := HAFT.out _ _ hon3; have HP3 := Lib.hid k1; have HON3 := Lib.hid k2; have HO3 := Lib.hid ho3; have HG3 := Lib.hid hor3; have HH3 := Lib.hid hon3.size; clear ho3 hg3 hlt3 hor3 hon3 k1 k2 k3)
          have HNS := Lib.hid (show ¬ S g2 ∧ ∀ k, S k → w.heap.size < k ∧ k < w3.heap.size from ⟨fun q => by
              have h1 := HS.out g2 q
              have h2 := HSZ2.out
              rcases HG3.out with e | e
              · exact HVS.out _ e q
              · rw [e] at h1; simp only [World.size_alloc] at h1; omega, fun k q => by
              have h1 := HS.out k q
              have h2 := HSZ2.out
              have h3 := HH3.out
              simp only [World.size_alloc] at h3
              omega⟩)
          have H4 := Lib.hid (show Loop (w.alloc (.cells #[.int .i64 T, .int .i64 N, .int .i64 L, .int .u64 G] 24)) w.heap.size w1.heap.size p q0 T N L G LS l (.slice (some ⟨g2, 0, none⟩) (j + 1) cap) (j + 1) w3 from ⟨out ++ [d], s, S, by rw [List.length_append, ← HJ.out]; rfl, by rw [flat_append, flat_one]; exact HO3.out, HP3.out, HNS.out.2, fun k e => by cases e; exact HNS.out.1, HON3.out, Nat.le_trans HBB.out (Nat.le_trans HSZ2.out (by have h3 := HH3.out; simp only [World.size_alloc] at h3; omega)), .inr ⟨HM.out.last HX.out (by rw [← HJ.out, ← HN.out]; exact Nat.le_refl _), by rw [HX.out]; rfl, by rw [← HN.out]⟩⟩)
          go_roundw
          case rel => exact ⟨_, by go_num, H4.out⟩
          case measure => simp [intOf] <;> omega
    · have HFIN := Lib.hid hfin
      have HIS := Lib.hid hmo
      have hjn1 : ¬ ((j : Int) ≤ (n : Int)) := by have := HN.out; omega
      have hle : j ≤ 301 := by have := HN.out; omega
      clear hfin hmo hjn
      have HWT := Lib.hid (show ColZ (wr) p q0 S T N L G (fillL LS) s ∧ (wr).ownsRow w1.heap.size 34 5 (.slice A' j c') j (flat encD out) ∧ Below (w.heap.size + 1) (w.alloc (.cells #[.int .i64 T, .int .i64 N, .int .i64 L, .int .u64 G] 24)) (wr) ∧ Below w.heap.size w (wr) from ⟨HP.out, HO.out, HON.out, HBW.out⟩)
      have htp := Tp.made (c := c) HN.out (HR.out.later HWT.out.2.2.2) (by have := HN.out; omega)
      have HTP := Lib.hid htp
      obtain ⟨WT, hWT⟩ : ∃ WT, WT = wr := ⟨_, rfl⟩
      have HWS := Lib.hid (show w.heap.size + 1 ≤ (wr).heap.size from by have h1 := HWT.out.2.2.1.size; rw [HSZ.out] at h1; exact h1)
      have HBX := Lib.hid (show Below (wr).heap.size (wr) ((wr).alloc (.cells #[.slice A n c, .slice none 0 0, .bool false] 40)) from box_below _ _)
      have HCX := Lib.hid (box4_later (HWT.out.2.2.1.trans (HBX.out.mono HWS.out)))
      clear htp
      try simp only [World.size_alloc] at HTP
      obtain ⟨c_0, c_1, c_2, c_3⟩ := HCX.out
      go_wp2
      go_region_held3 (fun W => W.cell? ⟨w.heap.size, 0, none⟩ = some (.int .i64 T) ∧ W.cell? ⟨w.heap.size, 1, none⟩ = some (.int .i64 N) ∧ W.cell? ⟨w.heap.size, 2, none⟩ = some (.int .i64 L) ∧ W.cell? ⟨w.heap.size, 3, none⟩ = some (.int .u64 G))
        ((first | (with_reducible exact HCX.out) | (with_reducible exact HC3.out) | (with_reducible exact HC5.out) | assumption))
        (first
          | (go_at_call 11; refine (RefFill_any ((HL1.out.1.later HWT.out.2.2.2).later (HBX.out.trans ((Below.refl _ _).drew.mono HBX.out.size))) HL1.out.2.1 (by omega) (fun x hx => (HL1.out.2.2 x hx).2)).mono ?_; rintro e w3 ⟨A3, n3, c3, rfl, f1, f2, f3, f4, f5⟩; have HB3 := Lib.hid (show Below ((wr).alloc (.cells #[.slice A n c, .slice none 0 0, .bool false] 40)).heap.size ((wr).alloc (.cells #[.slice A n c, .slice none 0 0, .bool false] 40)) w3 from (Below.refl _ _).drew.trans f5); have HF3 := Lib.hid (And.intro f1 (And.intro f3 f4)); have HC3 := Lib.hid (box4_later (HWT.out.2.2.1.trans ((HBX.out.trans (HB3.out.mono HBX.out.size)).mono HWS.out))); have HT3 := Lib.hid (tp_grown HTP.out HB3.out); clear f1 f2 f3 f4 f5)
          | (go_at_call 10; refine (Collect_run HT3.out HW.out T N L G HF3.out.2.1 HF3.out.1 (by rw [HF3.out.1, lenL_all, fill_length, ← HL1.out.2.1]; omega) (fun a e => .inr (HF3.out.2.2 a e)) HSANE.out.2).mono ?_; rintro e w5 ⟨s5, out5, A5, n5, c5, rfl, hf5, t5, o5, hn5, hr5⟩; have HO5 := Lib.hid (And.intro hf5 (And.intro t5 (And.intro hn5 hr5))); have HB5 := Lib.hid (show Below (wr).heap.size (wr) w5 from (HBX.out.trans (HB3.out.mono HBX.out.size)).trans (o5.below (HBX.out.trans (HB3.out.mono HBX.out.size)).size (fun k e => Nat.not_lt.1 fun z => e (.inl (by first | exact z | (rw [World.size_alloc] at z; exact z)))))); have HC5 := Lib.hid (box4_later (HWT.out.2.2.1.trans (HB5.out.mono HWS.out))); clear hf5 t5 o5 hn5 hr5))
      obtain ⟨rfl, rfl⟩ := HFIN.out.one HO5.out.1
      have HNX5 := Lib.hid (ColZ.next (ColZ.only HWT.out.1 (only_below (fun _ => False) HB5.out) (fun _ _ => id)))
      have HT5 := Lib.hid HO5.out.2.1
      have HRL := Lib.hid HO5.out.2.2
      obtain ⟨S6, SL6, hc6, -, -⟩ := ColZ.only HWT.out.1 (only_below (fun _ => False) HB5.out) (fun _ _ => id)
      have HCL := Lib.hid hc6
      clear hc6 HO5
      have HCT := Lib.hid (fun (W : World) (hb : Below w5.heap.size w5 W) => Count_any (HCL.out.later hb))
      have HAL := Lib.hid (show ∀ W, Below w5.heap.size w5 W → Calls Tryz.prog 15 #[.pointer (some ⟨q0, 0, none⟩)] W (Listed W (allL (leftS (fillL LS) s))) ∧ (allL (leftS (fillL LS) s)).length ≤ 1000 from fun W hb => by
        obtain ⟨S0, h1, -⟩ := (HCL.out.later hb).lim
        have h2 := lenL_all (leftS (fillL LS) s)
        have h3 : lenL (leftS (fillL LS) s) ≤ 1000 := by
          refine Nat.le_trans (show _ ≤ lenL (fillL LS) from ?_) (by rw [fill_length, ← HL1.out.2.1]; omega)
          cases s with
          | look => exact Nat.le_refl _
          | «at» c0 z => exact amidL_len _ _ _
        exact ⟨All_any h1 (by omega), by omega⟩)
      unfold Pool.Told at HNX5
      generalize cntS (fillL LS) s = cnt at HCT
      generalize allL (leftS (fillL LS) s) = LR at HAL HRL
      generalize (colA T L s).isSome = bo at HT5 HNX5 HIS
      generalize (colA T L s).getD (0, 0, 0, 0, 0) = d5 at HNX5
      clear c_0 c_1 c_2 c_3
      go_wp2_with fail
      refine HNX5.out.mono ?_
      rintro e w6 ⟨rfl, b6⟩
      have HB6 := Lib.hid (b6.trans ((box_below w6 (.cells #[.int .i64 d5.1, .int .i64 d5.2.1, .int .u64 d5.2.2.1, .int .u64 d5.2.2.2.1, .int .u64 d5.2.2.2.2] 34)).mono b6.size))
      have HT6 := Lib.hid (HT5.out.later HB6.out)
      obtain ⟨O, oc, q1, r1⟩ := HT6.out.row
      rw [← HJ.out] at q1
      have HR6 := Lib.hid r1
      have HRA := Lib.hid ((Row.of_own (own_later HWT.out.2.1 HB5.out)).later HB6.out)
      clear b6 r1
      go_wp2_with fail
      refine (TaskRef.Same_yes (l := out) HJ.out HJ.out HRA.out HR6.out (by omega)).mono ?_
      rintro e w7 ⟨rfl, b7⟩
      have HB67 := Lib.hid (HB6.out.trans (b7.mono HB6.out.size))
      have q2 := (HT6.out.later b7).stop
      have hbb : (bo == bo) = true := by simp
      have hcc : ((cnt : Int) == (cnt : Int)) = true := by simp
      clear b7 q1
      go_wp2_with fail
      refine (HCT.out _ HB67.out).mono ?_
      rintro e w8 ⟨rfl, rfl⟩
      go_wp2_with fail
      refine (HAL.out _ HB67.out).1.mono ?_
      rintro e w9 ⟨A9, n9, c9, rfl, h9, -, r9, -, b9⟩
      have HB69 := Lib.hid (HB67.out.trans (b9.mono HB67.out.size))
      have H9 := Lib.hid (And.intro h9 r9)
      have HN9 := Lib.hid (show n9 ≤ 1000000 from by have h1 := (HAL.out _ HB67.out).2; omega)
      clear h9 r9 b9
      go_wp2_with fail
      refine (LimboRef.Same_yes (l := LR) H9.out.1 HRL.out.1 H9.out.2 (HRL.out.2.later HB69.out) HN9.out).mono ?_
      rintro e w10 ⟨rfl, b10⟩
      have HB70 := Lib.hid (HB69.out.trans (b10.mono HB69.out.size))
      clear b10
      go_wp2_with fail
      refine (Law17.awake_any _).mono ?_
      rintro e w11 ⟨rfl, b11⟩
      go_wp2
      go_ret
      exact ⟨rfl, HWT.out.2.2.2.trans ((HB5.out.trans ((HB70.out.trans (b11.mono HB70.out.size)).mono HB5.out.size)).mono HWT.out.2.2.2.size)⟩

theorem walk (x : Int × Int × Int × Int) (A1 : Option Addr) (LS : List (Int × Int)) (c1 : Nat) (A : Option Addr) (l : List Int) (c : Nat) (_ : (Lit.int .i64 x.1).wf = true) (_ : (Lit.int .i64 x.2.1).wf = true) (_ : (Lit.int .i64 x.2.2.1).wf = true) (_ : (Lit.int .u64 x.2.2.2).wf = true) (w : World)
    (hR1 : Row w w.heap.size A1 (flat (Open.enc2 .u64 .u64) LS)) (hl1 : LS.length ≤ maxLen) (hw1 : ∀ x ∈ LS, (Lit.int .u64 x.1).wf = true ∧ (Lit.int .u64 x.2).wf = true) (hR : Row w w.heap.size A (flat (encZ .u64) l)) (hl : l.length ≤ maxLen) (hw : ∀ x ∈ l, (Lit.int .u64 x).wf = true) (_ : True) :
    Calls Tryz.prog 3 #[.agg #[.int .i64 x.1, .int .i64 x.2.1, .int .i64 x.2.2.1, .int .u64 x.2.2.2], .slice A1 LS.length c1, .slice A l.length c] w fun e w' => e = .returned (.bool true) ∧ Below w.heap.size w w' := by
  by_cases h : l.length ≤ 300 ∧ LS.length ≤ 100
  · exact walk_small _ _ _ _ A l c w hR1 rfl h.2 (fun y hy => ⟨Law17.wf_u64 (hw1 y hy).1, (Law17.wf_u64 (hw1 y hy).2).1⟩) hR h.1 fun f hf => Law17.wf_u64 (hw f hf)
  · obtain ⟨n, hn⟩ : ∃ n, n = l.length := ⟨_, rfl⟩
    obtain ⟨m, hm⟩ : ∃ m, m = LS.length := ⟨_, rfl⟩
    unfold maxLen at hl hl1
    rw [← hn] at hl h ⊢
    rw [← hm] at hl1 h ⊢
    clear hn hR hw hm hR1 hw1
    obtain ⟨T, N, L, G⟩ := x
    simp only
    by_cases h3 : n ≤ 300
    · have h1 : ¬ 300 < (n : Int) := by omega
      have h2 : 100 < (m : Int) := by omega
      clear h h3
      go_enter Tryz.func3, Tryz.ntmps3
      go_wp2_with fail
      refine (Law17.awake_any _).mono ?_
      rintro e w' ⟨rfl, b1⟩
      go_wp2
      go_ret
      exact ⟨rfl, (box_below _ _).trans (b1.mono (by simp))⟩
    · have h1 : 300 < (n : Int) := by omega
      clear h h3
      go_enter Tryz.func3, Tryz.ntmps3
      go_wp2_with fail
      refine (Law17.awake_any _).mono ?_
      rintro e w' ⟨rfl, b1⟩
      go_wp2
      go_ret
      exact ⟨rfl, (box_below _ _).trans (b1.mono (by simp))⟩
theorem laidOut : laidOutB Tryz.prog = true := by kernel_rfl
theorem own : ownKnob Tryz.prog.godebug = none := by kernel_rfl
theorem door_met (os : Os) (args : Array Value) : laidMetH Tryz.prog Rows.collectAsksRow.laid ((World.doorLaid Tryz.prog 400 os).forCall (fun _ _ => 0) ⟨#[], args, []⟩).memory :=
  laidMetH_of_parts3 (fuel := 8) (laidMet_of_run' 8 (by kernel_rfl) (by kernel_rfl)) (by kernel_rfl) (by kernel_rfl)
set_option maxRecDepth 100000 in
theorem lifted (os : Os) (started : os.Started) (H : Type) (enc : TypeId × Value → H) :
    ReturnsInHanded {} Tryz.checked os 3 .any (fun w args => (Rows.collectAsksSpec.pre enc Tryz.prog Tryz.f3 [] false w args ∧ laidMetH Tryz.prog Rows.collectAsksRow.laid w) ∧ sizedMet enc Tryz.prog Tryz.f3 (OpenSpec.ofChange Rows.collectAsksSpec) false w args) (Rows.collectAsksSpec.post enc Tryz.prog Tryz.f3 false true false false) := by
  refine Frame.liftedLaid (C := Tryz.checked) (fn := Tryz.f3) (tb := 4) own started (by kernel_rfl) Tryz.func3
    (ChangeSpec.witness_shaped (enc := enc) (C := Tryz.checked) (os := os) (X := fun w _ => laidMetH Tryz.prog Rows.collectAsksRow.laid w) false (World.doorLaid Tryz.prog 400 os) #[.agg #[.int .i64 0, .int .i64 0, .int .i64 0, .int .u64 0], .slice none 0 0, .slice none 0 0] 8 rfl (World.shaped_of_RefB (by kernel_rfl) (by kernel_rfl)) (by kernel_rfl) (by kernel_rfl) (by kernel_rfl) (door_met os _))
    rfl rfl Tryz.underlying4 laidOut (by kernel_rfl) (fun ds h => by match ds, h with | [_, _, _], _ => rfl) ?_
  intro W base args ds ps hval0 hA0 hlt hL
  have hval : ∀ (j : Nat) t v, Tryz.f3.params[j]? = some t → args[j]? = some v → Value.okWide Tryz.prog W .any base t v := hval0
  have hA : DataW.TrodAll enc Tryz.prog W 0 (fun _ => true) true Tryz.f3.params.toList args.toList ds ps := hA0
  rw [Tryz.params3] at hA hval
  obtain ⟨v0, vs0, d0, ds0, p0, q0, hargs, rfl, rfl, h0, r0⟩ := trodAll_cons hA
  obtain ⟨v1, vs1, d1, ds1, p1, q1, rfl, rfl, rfl, h1, r1⟩ := trodAll_cons r0
  obtain ⟨v2, vs2, d2, ds2, p2, q2, rfl, rfl, rfl, h2, r2⟩ := trodAll_cons r1
  obtain ⟨rfl, rfl, rfl⟩ := trodAll_nil r2
  obtain rfl : args = #[v0, v1, v2] := by cases args; simp_all
  obtain ⟨x0, rfl, w0_0, w0_1, w0_2, w0_3⟩ := Open.open_four_ints Tryz.underlying24 (by kernel_rfl) (by kernel_rfl) Tryz.underlying3 Tryz.underlying3 Tryz.underlying3 Tryz.underlying22 (hval 0 24 v0 rfl rfl) h0
  obtain ⟨A1, x1, c1, rfl, b1, m1, R1, g1⟩ := Open.open_rows (k := 2) (Open.enc2 .u64 .u64) (fun x => (Lit.int .u64 x.1).wf = true ∧ (Lit.int .u64 x.2).wf = true) Tryz.underlying25 (by kernel_rfl) (by decide) (Open.enc2_length .u64 .u64) (fun n cs y h hl => Open.two_ints Tryz.underlying63 (by kernel_rfl) Tryz.underlying22 Tryz.underlying22 n cs y h hl) (hval 1 25 v1 rfl rfl) h1
  obtain ⟨A2, x2, c2, rfl, b2, m2, R2, g2⟩ := Open.open_rows (k := 1) (Ints.encZ .u64) (fun x => (Lit.int .u64 x).wf = true) Tryz.underlying26 (by kernel_rfl) (by decide) (Ints.encZ_length _) (fun n cs y h hl => Ints.one_int Tryz.underlying22 n cs y h hl) (hval 2 26 v2 rfl rfl) h2
  refine (walk x0 A1 x1 c1 A2 x2 c2 w0_0 w0_1 w0_2 w0_3 W R1 (Nat.le_trans b1 m1) g1 R2 (Nat.le_trans b2 m2) g2 (held hL)).mono fun e W' h => ?_
  exact h

theorem over : Rows.collectAsksRow.holds Tryz.pinned (OpenSpec.ofChange Rows.collectAsksSpec) :=
  OpenClaim.holds_of_wide 3 Tryz.f3 rfl rfl rfl rfl rfl rfl rfl ⟨rfl, rfl, rfl, rfl, rfl⟩ rfl rfl rfl rfl rfl (by kernel_rfl) Tryz.func3 (by kernel_rfl)
    (of_decide_eq_true (by kernel_rfl)) (by unfold Func.isWrapper; first | (rw [if_pos (by decide +kernel)]; kernel_rfl) | (rw [if_neg (by decide +kernel)]; exact ⟨rfl, rfl⟩))
    (fun os started H enc _ => lifted os started H enc)

theorem proved : Rows.CollectAsksCardSaid :=
  Claim7.holds_tied_plain_at .later [] Rows.collectAsksCard.laidKinds true Rows.collectAsksCard.stood.harness Rows.collectAsksCard.stood.looks
    over (fun _ h => by cases h) (by kernel_rfl) (fun _ h => by cases h) collectAsks_row_tie rfl ⟨rfl, rfl⟩ (by kernel_rfl) rfl
    (fun f fn hf hfn => by
      obtain rfl : f = 3 := Option.some.inj ((show Tryz.prog.funcNamed Rows.collectAsksRow.func = some 3 by kernel_rfl).symm.trans hf) |>.symm
      obtain rfl : fn = Tryz.f3 := (Option.some.inj (Tryz.func3.symm.trans hfn)).symm
      exact ⟨by kernel_rfl, fun j t ht => by
        rw [Tryz.params3] at ht
        have hm : t ∈ [24, 25, 26] := by simpa using Array.mem_of_getElem? ht
        have hall : ([24, 25, 26].all fun u => !Tryz.prog.wantsStandIn u) = true := by kernel_rfl
        exact (show Tryz.prog.wantsStandIn t = false by simpa using List.all_eq_true.1 hall t hm)⟩)
    (by kernel_rfl)
#print axioms proved
end Go.Proofs.YtafjokjmogadnaaGreatDoor.CollectAsks
