import Derived.Test.YtjeifnhfdbkkdaaGreatDoorWalkTakesAllP27
import Derived.Test.YtjeifnhfdbkkdaaGreatDoorWalkTakesAllP28
import Derived.Test.YtjeifnhfdbkkdaaGreatDoorWalkTakesAllP30
import Derived.Test.YtjeifnhfdbkkdaaGreatDoorWalkTakesAllP31
import Derived.Test.YtjeifnhfdbkkdaaGreatDoorWalkTakesAllP32
import Derived.Test.YtjeifnhfdbkkdaaGreatDoorWalkTakesAllP33
import Derived.Test.YtjeifnhfdbkkdaaGreatDoorTie
import Derived.Test.YtjeifnhfdbkkdaaGreatDoorCards
/- WalkTakes: for every plan, every list of words and every count, where the plan is right, the list is as long as the plan says, and the document calls its lowest chain whole: a walker, made and done alone to a memory of these words, is done soon; it took just the first live timers of that chain that are due, in order, as many as there are and as it may, and tells the deadline by which it was stopped, if it was; and just as many words are other ones then (else just the chapter's example is asked); and that example comes out; the arguments read as they did. Condition: the library's listed tables hold what its own text lays in them (tied by the card). -/
namespace Go.Proofs.YtjeifnhfdbkkdaaGreatDoor.WalkTakes
set_option maxRecDepth 20000
open Go.ChangeShapes Go.WideShapes Go.ChangeAt Go.RowKit CM DM PM KM WaM MM Runs Lay Plan Ints Go.Proofs.YtjeifnhfdbkkdaaGreatDoor.Task Go.Proofs.YtjeifnhfdbkkdaaGreatDoor.DueRows
open Go.Proofs.YtjeifnhfdbkkdaaGreatDoor.Cells (Mem Does Of_any Words_any)
open Go.Proofs.YtjeifnhfdbkkdaaGreatDoor.Wlk (Walks Walk_any Walk_next Walk_tell Batch_any Stop_any)
open Go.Proofs.YtjeifnhfdbkkdaaGreatDoor.SeekRef (Chain_all Chained)
open Go.Proofs.YtjeifnhfdbkkdaaGreatDoor.Law26 (awake_any wf_u64 wf_i64 first_any Firsts)
set_option linter.unusedVariables false
set_option linter.unusedSimpArgs false

theorem held {W : World} (h : laidMetH Tryz.prog Rows.walkTakesRow.laid W) : True := trivial
theorem ba (w : World) (o : Obj) : Below w.heap.size w (w.alloc o) := (Below.refl _ _).alloc (Nat.le_refl _) _
theorem chain {w a b : World} (h : Below w.heap.size w a) (k : Below a.heap.size a b) : Below w.heap.size w b := h.trans (k.mono h.size)
theorem past_later {w W W' : World} {o1 : Obj} (h : Below (w.heap.size + 1) (w.alloc o1) W) (hb : Below W.heap.size W W') : Below (w.heap.size + 1) (w.alloc o1) W' := h.trans (hb.mono (by have := h.size; simp only [World.size_alloc] at this; omega))
theorem past_old {w W : World} {o1 : Obj} (h : Below (w.heap.size + 1) (w.alloc o1) W) : Below w.heap.size w W := (box_below w o1).trans (h.mono (by omega))
theorem past_only {w W W' : World} {o1 : Obj} {R : Nat → Prop} (h : Below (w.heap.size + 1) (w.alloc o1) W) (ho : Only R W W') (hR : ∀ k, R k → w.heap.size + 1 ≤ k) : Below (w.heap.size + 1) (w.alloc o1) W' := h.trans (ho.below (by have := h.size; simp only [World.size_alloc] at this; omega) hR)
theorem past_lt {w W : World} {o1 : Obj} (h : Below (w.heap.size + 1) (w.alloc o1) W) : w.heap.size + 1 ≤ W.heap.size := by have := h.size; simpa only [World.size_alloc] using this
theorem Words_new {p h n : Nat} {l : List Int} {w : World} (hM : Mem w p h n l) : Calls Tryz.prog 17 #[.pointer (some ⟨p, 0, none⟩)] w fun e w' => ∃ A, e = .returned (.slice A n n) ∧ Row w' w'.heap.size A (flat (encZ .u64) l) ∧ Below w.heap.size w w' :=
  (Words_any hM).mono fun _ _ ⟨he, ho, hb⟩ => ⟨_, he, Row.of_own ho, hb⟩
/-- Amid the walker's steps. -/
def Amid (w : World) (S0 : Nat → Prop) (pc hc n q : Nat) (T N L G ct : Int) (K : Nat) (lf : List Int) (sf : WaM.St) (j : Nat) (wr : World) : Prop :=
  ∃ m s S, j ≤ K ∧ Mem wr pc hc n m ∧ BM.Fits m ∧ Walks wr q S T N L G ct j s ∧ steps (walkA T L) (walkT ct) (K - j) m s = some (lf, sf) ∧ (∀ k, S k → S0 k ∨ (w.heap.size ≤ k ∧ k < wr.heap.size)) ∧ Only (fun k => k = hc ∨ S0 k) w wr
set_option maxHeartbeats 1000000 in
theorem walk_any (T N L G : Int) (A : Option Addr) (l : List Int) (c : Nat) (ct : Int) (w : World) (hR : Row w w.heap.size A (flat (encZ .u64) l)) (hl : l.length ≤ maxLen) (hf : BM.Fits l) :
    Calls Tryz.prog 3 #[.agg #[.int .i64 T, .int .i64 N, .int .i64 L, .int .u64 G], .slice A l.length c, .int .i64 ct] w fun e w' => e = .returned (.bool true) ∧ Below w.heap.size w w' := by
  obtain ⟨n, hn⟩ : ∃ n, n = l.length := ⟨_, rfl⟩
  rw [← hn] at hl ⊢
  unfold maxLen at hl
  have HN := Lib.hid hn
  have HF := Lib.hid hf
  have HROW := Lib.hid (show ∀ W, Below (w.heap.size + 1) (w.alloc (.cells #[.int .i64 T, .int .i64 N, .int .i64 L, .int .u64 G] 24)) W → Row W W.heap.size A (flat (encZ .u64) l) from fun W hb => hR.later (past_old hb))
  have HBX := Lib.hid (show ∀ W, Below (w.heap.size + 1) (w.alloc (.cells #[.int .i64 T, .int .i64 N, .int .i64 L, .int .u64 G] 24)) W → (W.cell? ⟨w.heap.size, 0, none⟩ = some (.int .i64 T) ∧ W.cell? ⟨w.heap.size, 1, none⟩ = some (.int .i64 N) ∧ W.cell? ⟨w.heap.size, 2, none⟩ = some (.int .i64 L) ∧ W.cell? ⟨w.heap.size, 3, none⟩ = some (.int .u64 G)) from fun W hb => box4_later hb)
  have HAW := Lib.hid (show ∀ W, Below (w.heap.size + 1) (w.alloc (.cells #[.int .i64 T, .int .i64 N, .int .i64 L, .int .u64 G] 24)) W → Calls Tryz.prog 7 #[] W fun e w' => e = .returned (.bool true) ∧ Below w.heap.size w w' from fun W h => (awake_any W).mono fun e w' ⟨h1, h2⟩ => ⟨h1, chain (past_old h) h2⟩)
  have HB1 := Lib.hid (show Below (w.heap.size + 1) (w.alloc (.cells #[.int .i64 T, .int .i64 N, .int .i64 L, .int .u64 G] 24)) (w.alloc (.cells #[.int .i64 T, .int .i64 N, .int .i64 L, .int .u64 G] 24)) from Below.refl _ _)
  have HCH := Lib.hid (Chain_all (T := T) (L := L) (G := G) (N := N) c hn (by omega) (HROW.out _ HB1.out) hf 0)
  obtain ⟨ch, hch⟩ : ∃ ch, ch = chainI T L N l 0 := ⟨_, rfl⟩
  rw [← hch] at HCH
  have HCE := Lib.hid hch
  clear hn hf hR hch
  obtain ⟨c_0, c_1, c_2, c_3⟩ := HBX.out _ HB1.out
  go_enter Tryz.func3, Tryz.ntmps3
  go_wp2_with fail
  refine HCH.out.mono ?_
  rintro e w1 ⟨A1, m1, d1, rfl, -, -, -, b1⟩
  have HB2 := Lib.hid (past_later HB1.out b1)
  clear b1 c_0 c_1 c_2 c_3
  obtain ⟨c_0, c_1, c_2, c_3⟩ := HBX.out _ HB2.out
  cases hright : rightB T N L G with
  | false =>
    have HRT := Lib.hid fun W => PlanRef.Right_no hright W
    clear hright
    go_wp2_with fail
    refine (HRT.out _).mono ?_
    rintro e w2 ⟨rfl, b2⟩
    have HB3 := Lib.hid (past_later HB2.out b2)
    clear b2 c_0 c_1 c_2 c_3
    go_wp2_with fail
    refine (HAW.out _ HB3.out).mono ?_
    rintro e w3 ⟨rfl, b3⟩
    go_wp2
    go_ret
    exact ⟨rfl, b3⟩
  | true =>
    have HRT := Lib.hid fun W => PlanRef.Right_yes hright W
    have hri := right_is hright
    obtain ⟨T, rfl⟩ : ∃ T' : Nat, T = T' := ⟨T.toNat, by omega⟩
    obtain ⟨N, rfl⟩ : ∃ N' : Nat, N = N' := ⟨N.toNat, by omega⟩
    obtain ⟨L, rfl⟩ : ∃ L' : Nat, L = L' := ⟨L.toNat, by omega⟩
    have HWD := Lib.hid (show ∀ W, Calls Tryz.prog 6 #[.agg #[.int .i64 T, .int .i64 N, .int .i64 L, .int .u64 G]] W fun e w' => e = .returned (.int .i64 ((wordsN T N L : Nat) : Int)) ∧ Below W.heap.size W w' from fun W => by rw [← words_cast (T := T) (S := N) (L := L) (by omega) (by omega) (by omega)]; exact PlanRef.Words_any T N L G W)
    have HSM := Lib.hid (words_small (T := T) (S := N) (L := L) (by omega) (by omega) (by omega))
    have HW2 := Lib.hid (show 1 < wordsN T N L by unfold wordsN; omega)
    have HRI := Lib.hid (show T ≤ 8 ∧ N ≤ 64 ∧ L ≤ 8 ∧ 1 ≤ L by omega)
    obtain ⟨wn, hwn⟩ : ∃ wn, wn = wordsN T N L := ⟨_, rfl⟩
    rw [← hwn] at HWD HSM HW2
    have HWN := Lib.hid hwn
    clear hright hri hwn
    go_wp2_with fail
    refine (HRT.out _).mono ?_
    rintro e w2 ⟨rfl, b2⟩
    have HB3 := Lib.hid (past_later HB2.out b2)
    clear b2 c_0 c_1 c_2 c_3
    obtain ⟨c_0, c_1, c_2, c_3⟩ := HBX.out _ HB3.out
    go_wp2_with fail
    refine (HWD.out _).mono ?_
    rintro e w3 ⟨rfl, b3⟩
    have HB4 := Lib.hid (past_later HB3.out b3)
    clear b3 c_0 c_1 c_2 c_3
    by_cases hlen : n = wn
    · obtain ⟨cl, ok⟩ := ch
      cases ok with
      | false =>
        have h1 : ((n : Int) != (wn : Int)) = false := by rw [hlen]; simp
        clear hlen
        go_wp2_with fail
        refine (HAW.out _ HB4.out).mono ?_
        rintro e w5 ⟨rfl, b5⟩
        go_wp2
        go_ret
        exact ⟨rfl, b5⟩
      | true =>
        have h1 : ((n : Int) != (wn : Int)) = false := by rw [hlen]; simp
        subst hlen
        obtain ⟨K, m, s, hK, hsteps, hst, hso, hsp, hdf⟩ := walk_alone (T := T) (N := N) (L := L) (l := l) (count := ct) HRI.out.1 HRI.out.2.1 HRI.out.2.2.1 HRI.out.2.2.2 (by rw [← HN.out]; exact HWN.out) HCE.out.symm
        have HSTEPS := Lib.hid hsteps
        have HKK := Lib.hid hK
        have HA1 := Lib.hid hst
        have HDF := Lib.hid hdf
        rw [← HWN.out] at HDF
        have HFT := Lib.hid (show ∀ W, Below (w.heap.size + 1) (w.alloc (.cells #[.int .i64 T, .int .i64 N, .int .i64 L, .int .u64 G] 24)) W → Calls Tryz.prog 13 #[.agg #[.int .i64 T, .int .i64 N, .int .i64 L, .int .u64 G], .slice A n c, .int .i64 ct] W (Firsts W (s.out, s.sp)) from fun W hb => by
          rw [hso, hsp]
          have h := first_any (T := T) (L := L) (G := G) (ct := ct) c HN.out (by have := HSM.out; omega) HW2.out (HROW.out W hb) HF.out HRI.out.2.1
          rw [← HCE.out] at h
          exact h)
        clear hK hsteps hst hso hsp hdf
        go_wp2_with fail
        refine (Of_any (HROW.out _ HB4.out) HN.out HSM.out).mono ?_
        rintro e w5 ⟨pc, hc, rfl, m2, p2, h2, b2⟩
        have HB5 := Lib.hid (past_later HB4.out b2)
        have HM5 := Lib.hid m2
        have HP2 := Lib.hid (show w.heap.size + 1 ≤ pc ∧ w.heap.size + 1 ≤ hc from by have h3 := past_lt HB4.out; omega)
        clear m2 p2 h2 b2
        obtain ⟨c_0, c_1, c_2, c_3⟩ := HBX.out _ HB5.out
        go_wp2_with fail
        refine (Walk_any T N L G ct _).mono ?_
        rintro e w8 ⟨fq, S0, rfl, f8, k8, b8⟩
        have HB8 := Lib.hid (past_later HB5.out b8)
        have HM8 := Lib.hid (HM5.out.later b8)
        have HK8 := Lib.hid (show (∀ k, S0 k → w.heap.size + 1 ≤ k) ∧ ¬ S0 pc ∧ ¬ S0 hc from ⟨fun k e => by have h1 := (k8 k e).1; have h2 := past_lt HB5.out; omega, fun e => by have h1 := (k8 _ e).1; have h2 := HM5.out.lt; omega, fun e => by have h1 := (k8 _ e).1; have h2 := HM5.out.lt; omega⟩)
        have HM80 := Lib.hid (show Amid w8 S0 pc hc n fq T N L G ct K m s 0 w8 from ⟨_, WaM.start, S0, Nat.zero_le _, HM8.out, HF.out, f8, HSTEPS.out, fun k e => .inl e, Only.refl _ _⟩)
        have HLT8 := Lib.hid HM8.out.lt
        clear f8 k8 b8 HSTEPS HM5 c_0 c_1 c_2 c_3
        go_wp2
        go_loopw [12] (fun kv wr => ∃ j : Nat, kv = .int .i64 j ∧ Amid w8 S0 pc hc n fq T N L G ct K m s j wr) (fun kv _ => 500 - (intOf kv).toNat)
        case atStart => exact ⟨0, rfl, HM80.out⟩
        case round =>
          obtain ⟨j, rfl, ⟨mj, sj, S, hj, hmj, hfj, hsj, ha, hsb, ho⟩⟩ := hrel
          have HJK := Lib.hid hj
          have HMJ := Lib.hid hmj
          have HFJ := Lib.hid hfj
          have HSJ := Lib.hid hsj
          have HAJ := Lib.hid ha
          have HSB := Lib.hid hsb
          have HOJ := Lib.hid ho
          have hj5 : (j : Int) < 500 := by have := HKK.out; omega
          have HNX := Lib.hid (Walk_next hsj)
          clear hmj hfj hsj ha hsb ho
          cases hx : walkA T L sj with
          | none =>
            have HE := Lib.hid (show mj = m ∧ sj = s by
              have h1 := HAJ.out
              cases hkj : K - j with
              | zero => rw [hkj] at h1; simp only [steps, Option.some.injEq, Prod.mk.injEq] at h1; exact h1
              | succ k => rw [hkj] at h1; obtain ⟨d, h2, -⟩ := steps_amid h1; rw [hx] at h2; cases h2)
            rw [hx] at HNX
            clear hx
            go_wp2_with fail
            refine HNX.out.mono ?_
            rintro e w9 ⟨rfl, b9⟩
            simp only [Option.getD_none, Option.isSome_none]
            have hb9 := chain b9 (ba w9 (.cells #[.int .i64 0, .int .i64 0, .int .u64 0, .int .u64 0, .int .u64 0] 38))
            have HB9 := Lib.hid (past_later (show Below (w.heap.size + 1) (w.alloc (.cells #[.int .i64 T, .int .i64 N, .int .i64 L, .int .u64 G] 24)) wr from past_only HB8.out HOJ.out (fun k e => e.elim (fun e => by subst e; exact HP2.out.2) (HK8.out.1 k))) hb9)
            have HM9 := Lib.hid (show Mem (w9.alloc (.cells #[.int .i64 0, .int .i64 0, .int .u64 0, .int .u64 0, .int .u64 0] 38)) pc hc n m from HE.out.1 ▸ HMJ.out.later hb9)
            have HS9 := Lib.hid (show Walks (w9.alloc (.cells #[.int .i64 0, .int .i64 0, .int .u64 0, .int .u64 0, .int .u64 0] 38)) fq S T N L G ct j s from HE.out.2 ▸ HSJ.out.later hb9)
            clear b9 hb9
            clear HNX HAJ HSB HOJ HSJ HFJ HMJ HE hj hj5 HM80 HLT8 HK8 HM8 HB8 HB5 HB4 HB3 HB2 HWD HRT HCH HCE HWN HRI
            have hnx2 := Walk_next HS9.out
            rw [HA1.out] at hnx2
            have HNX2 := Lib.hid hnx2
            clear hnx2
            go_wp2_with fail
            refine HNX2.out.mono ?_
            rintro e w10 ⟨rfl, b10⟩
            simp only [Option.getD_none, Option.isSome_none]
            have hb10 := chain b10 (ba w10 (.cells #[.int .i64 0, .int .i64 0, .int .u64 0, .int .u64 0, .int .u64 0] 38))
            have HB10 := Lib.hid (past_later HB9.out hb10)
            have HM10 := Lib.hid (HM9.out.later hb10)
            have HS10 := Lib.hid (HS9.out.later hb10)
            clear b10 hb10
            obtain ⟨c_0, c_1, c_2, c_3⟩ := HBX.out _ HB10.out
            go_wp2_with fail
            refine (HFT.out _ HB10.out).mono ?_
            rintro e w11 ⟨A3, c3, rfl, r3, b3⟩
            simp only
            have HR3 := Lib.hid r3
            have HB11 := Lib.hid (past_later HB10.out b3)
            have HM11 := Lib.hid (HM10.out.later b3)
            have HS11 := Lib.hid (HS10.out.later b3)
            have HOL := Lib.hid (show s.out.length ≤ 1000000 from by have h1 := HS10.out.1.len; have h2 := HKK.out; have h3 := HJK.out; omega)
            have hjk : j ≤ 1000000 := by have := HJK.out; have := HKK.out; omega
            clear r3 b3 c_0 c_1 c_2 c_3
            go_wp2_with fail
            refine (Batch_any HS11.out hjk).mono ?_
            rintro e w12 ⟨A4, c4, rfl, o4, b4⟩
            have HR4 := Lib.hid (Row.of_own o4)
            have HR3b := Lib.hid (HR3.out.later b4)
            have HB12 := Lib.hid (past_later HB11.out b4)
            have HM12 := Lib.hid (HM11.out.later b4)
            have HS12 := Lib.hid (HS11.out.later b4)
            clear o4 b4
            go_wp2_with fail
            refine (WalkDues.Same_yes (l := s.out) rfl rfl HR4.out HR3b.out HOL.out).mono ?_
            rintro e w13 ⟨rfl, b13⟩
            have HB13 := Lib.hid (past_later HB12.out b13)
            have HM13 := Lib.hid (HM12.out.later b13)
            have HS13 := Lib.hid (HS12.out.later b13)
            clear b13
            go_wp2_with fail
            refine (Stop_any HS13.out).mono ?_
            rintro e w' ⟨rfl, rfl⟩
            have hss : (s.sp != s.sp) = false := by simp
            go_wp2_with fail
            refine (Words_new HM13.out).mono ?_
            rintro e w14 ⟨A7, rfl, r14, b14⟩
            have HB14 := Lib.hid (past_later HB13.out b14)
            have HR14 := Lib.hid r14
            have HML := Lib.hid (show n = m.length from HM13.out.len)
            clear r14 b14
            obtain ⟨k0, hk0⟩ : ∃ k0, k0 = s.out.length := ⟨_, rfl⟩
            rw [← hk0] at HDF ⊢
            have hk0m : k0 ≤ 1000000 := by rw [hk0]; exact HOL.out
            have hsm := HSM.out
            clear hss hk0 HR3 HR3b HR4 HS9 HS10 HS11 HS12 HS13 HM9 HM10 HM11 HM12 HM13 HB9 HB10 HB11 HB12 HB13 HFT HJK HNX2 HOL hjk HA1 HKK HP2
            go_wp2
            go_loopw [20, 21] (fun tv iv wr => ∃ i : Nat, i ≤ n ∧ iv = .int .i64 i ∧ tv = .int .i64 ((diffN l m i : Nat) : Int) ∧ diffN l m i ≤ i ∧ Below w14.heap.size w14 wr) (fun _ iv _ => n - (intOf iv).toNat)
            case atStart => exact ⟨0, Nat.zero_le _, rfl, rfl, Nat.le_refl _, Below.refl _ _⟩
            case round =>
              obtain ⟨i, hi, rfl, rfl, hdi, hb⟩ := hrel
              have HBI := Lib.hid hb
              have HPI := Lib.hid (past_later HB14.out hb)
              have HDS := Lib.hid (diff_succ l m i)
              by_cases hlt : i < n
              · obtain ⟨x, hx⟩ : ∃ x, l[i]? = some x := ⟨_, List.getElem?_eq_getElem (by rw [← HN.out]; exact hlt)⟩
                obtain ⟨y, hy⟩ : ∃ y, m[i]? = some y := ⟨_, List.getElem?_eq_getElem (by rw [← HML.out]; exact hlt)⟩
                rw [getI_some hx, getI_some hy] at HDS
                obtain ⟨b1, o1, rfl, -, hc1⟩ := int_at (HROW.out _ HPI.out) (show i < l.length by rw [← HN.out]; exact hlt)
                obtain ⟨b2, o2, rfl, -, hc2⟩ := int_at (HR14.out.later hb) (show i < m.length by rw [← HML.out]; exact hlt)
                have q1 := hc1 i x hx
                have q2 := hc2 i y hy
                have Q1 := fun p : After wr => p.cell q1
                have Q2 := fun p : After wr => p.cell q2
                generalize hD : diffN l m i = D at HDS hdi ⊢
                have HDD := Lib.hid hD
                clear hc1 hc2 hx hy q1 q2 hb hD
                by_cases he : y = x
                · have e1 : (y != x) = false := by simpa using he
                  rw [if_neg (by simpa using he)] at HDS
                  have H1 := Lib.hid (show ((D : Nat) : Int) = ((diffN l m (i + 1) : Nat) : Int) ∧ diffN l m (i + 1) ≤ i + 1 from ⟨by rw [HDS.out]; simp, by rw [HDS.out]; omega⟩)
                  clear he
                  go_wp2
                  refine wp_region_after mixed (by kernel_rfl) ?_
                  repeat (first | go_big_quiet_step (fail) | quiet_step (fail))
                  refine wpQuiet_nil ?_
                  intro _ hw'
                  obtain ⟨pq, hw''⟩ := hw'
                  subst hw''
                  go_wp2
                  go_roundw
                  case rel => exact ⟨i + 1, by omega, by go_num, congrArg (Value.int .i64) H1.out.1, H1.out.2, HBI.out.trans (pq.ok.mono HBI.out.size)⟩
                  case measure => simp [intOf]; omega
                · have e1 : (y != x) = true := by simpa using he
                  rw [if_pos (by simpa using he)] at HDS
                  have H1 := Lib.hid (show ((D : Nat) : Int) + 1 = ((diffN l m (i + 1) : Nat) : Int) ∧ diffN l m (i + 1) ≤ i + 1 from ⟨by rw [HDS.out]; simp, by rw [HDS.out]; omega⟩)
                  clear he
                  go_wp2
                  refine wp_region_after mixed (by kernel_rfl) ?_
                  repeat (first | go_big_quiet_step (fail) | quiet_step (fail))
                  refine wpQuiet_nil ?_
                  intro _ hw'
                  obtain ⟨pq, hw''⟩ := hw'
                  subst hw''
                  go_wp2
                  go_roundw
                  case rel => exact ⟨i + 1, by omega, by go_num, by rw [← H1.out.1], H1.out.2, HBI.out.trans (pq.ok.mono HBI.out.size)⟩
                  case measure => simp [intOf]; omega
              · obtain rfl : i = n := by omega
                have hdd : ((diffN l m i : Nat) : Int) = (k0 : Int) := by rw [HDF.out]
                rw [hdd]
                have heq : ((k0 : Int) == (k0 : Int)) = true := by simp
                clear hdd hdi hb
                go_wp2_with fail
                refine (HAW.out _ HPI.out).mono ?_
                rintro e w16 ⟨rfl, b16⟩
                go_wp2
                go_ret
                exact ⟨rfl, b16⟩
          | some d =>
            have HE := Lib.hid (show j < K ∧ steps (walkA T L) (walkT ct) (K - (j + 1)) (nextD mj d) (walkT ct sj (foundD mj d)) = some (m, s) by
              have h1 := HAJ.out
              cases hkj : K - j with
              | zero =>
                exfalso
                rw [hkj] at h1
                simp only [steps, Option.some.injEq, Prod.mk.injEq] at h1
                have h2 := HA1.out
                rw [← h1.2, hx] at h2
                cases h2
              | succ k =>
                rw [hkj] at h1
                obtain ⟨d2, h2, h3⟩ := steps_amid h1
                rw [hx] at h2
                cases h2
                exact ⟨by omega, by rw [show K - (j + 1) = k by omega]; exact h3⟩)
            have HDFF := Lib.hid (walkA_fits HSJ.out.1 hx)
            rw [hx] at HNX
            clear hx
            go_wp2_with fail
            refine HNX.out.mono ?_
            rintro e w9 ⟨rfl, b9⟩
            simp only [Option.getD_some, Option.isSome_some]
            have HB9 := Lib.hid (chain b9 (ba w9 (.cells #[.int .i64 d.1, .int .i64 d.2.1, .int .u64 d.2.2.1, .int .u64 d.2.2.2.1, .int .u64 d.2.2.2.2] 38)))
            have HM9 := Lib.hid (HMJ.out.later HB9.out)
            have HS9 := Lib.hid (HSJ.out.later HB9.out)
            have HO9 := Lib.hid (HOJ.out.then_below HB9.out)
            have HSB9 := Lib.hid (show ∀ k, S k → S0 k ∨ (w8.heap.size ≤ k ∧ k < (w9.alloc (.cells #[.int .i64 d.1, .int .i64 d.2.1, .int .u64 d.2.2.1, .int .u64 d.2.2.2.1, .int .u64 d.2.2.2.2] 38)).heap.size) from fun k e => (HSB.out k e).imp id fun z => ⟨z.1, Nat.lt_of_lt_of_le z.2 HB9.out.size⟩)
            have HNS := Lib.hid (show ¬ S pc ∧ ¬ S hc from ⟨fun e => (HSB.out _ e).elim HK8.out.2.1 fun z => by have := HLT8.out; omega, fun e => (HSB.out _ e).elim HK8.out.2.2 fun z => by have := HLT8.out; omega⟩)
            clear b9
            go_wp2_with fail
            refine (DeedDo.Do_any HM9.out d).mono ?_
            rintro e w10 ⟨rfl, g10, m10⟩
            have HM10 := Lib.hid m10
            have HO10 := Lib.hid (only_grown (R := fun k => k = hc) g10 fun k e => by cases e; rfl)
            have HS10 := Lib.hid (HS9.out.only HO10.out (fun k z e => HNS.out.2 (e ▸ z)))
            have HO910 := Lib.hid (HO9.out.trans (HO10.out.wide (R' := fun k => k = hc ∨ S0 k) fun k e => .inl (.inl e)))
            clear g10 m10
            go_wp2_with fail
            refine (Walk_tell HS10.out (by have := HE.out.1; have := HKK.out; omega) (fits_found HFJ.out d)).mono ?_
            rintro e w11 ⟨rfl, S11, s11, o11, k11⟩
            have H11 := Lib.hid (show Amid w8 S0 pc hc n fq T N L G ct K m s (j + 1) w11 from ⟨_, _, S11, by have := HE.out.1; omega, ⟨HM10.out.1, HM10.out.2.1, HM10.out.2.2.1, o11.cell HM10.out.box HNS.out.1, o11.own HM10.out.own (fun k e => by cases e; exact HNS.out.2)⟩, fits_next HFJ.out HDFF.out, s11, HE.out.2,
              fun k z => (k11 k z).elim (fun z => (HSB9.out k z).imp id fun z => ⟨z.1, Nat.lt_of_lt_of_le z.2 (Nat.le_trans HO10.out.size o11.size)⟩) (fun z => .inr ⟨Nat.le_trans HO910.out.size z.1, z.2⟩), HO910.out.more o11 (fun k z => (HSB9.out k z).imp (fun z => .inr z) fun z => z.1)⟩)
            have hj2 := HE.out.1
            clear s11 o11 k11
            go_wp2
            go_roundw
            case rel => exact ⟨j + 1, by go_num, H11.out⟩
            case measure => simp [intOf]; omega
    · have h1 : ((n : Int) != (wn : Int)) = true := by simpa using (fun e => hlen (by omega) : ¬ (n : Int) = (wn : Int))
      clear hlen
      go_wp2_with fail
      refine (HAW.out _ HB4.out).mono ?_
      rintro e w5 ⟨rfl, b5⟩
      go_wp2
      go_ret
      exact ⟨rfl, b5⟩

theorem walk (x : Int × Int × Int × Int) (A : Option Addr) (l : List Int) (c : Nat) (ct : Int) (_ : (Lit.int .i64 x.1).wf = true) (_ : (Lit.int .i64 x.2.1).wf = true) (_ : (Lit.int .i64 x.2.2.1).wf = true) (_ : (Lit.int .u64 x.2.2.2).wf = true) (hr : (Lit.int .i64 ct).wf = true) (w : World)
    (hR : Row w w.heap.size A (flat (encZ .u64) l)) (hl : l.length ≤ maxLen) (hw : ∀ z ∈ l, (Lit.int .u64 z).wf = true) (_ : True) :
    Calls Tryz.prog 3 #[.agg #[.int .i64 x.1, .int .i64 x.2.1, .int .i64 x.2.2.1, .int .u64 x.2.2.2], .slice A l.length c, .int .i64 ct] w fun e w' => e = .returned (.bool true) ∧ Below w.heap.size w w' := by
  obtain ⟨T, N, L, G⟩ := x
  exact walk_any T N L G A l c ct w hR hl (fun z hz => wf_u64 (hw z hz))
theorem laidOut : laidOutB Tryz.prog = true := by kernel_rfl
theorem own : ownKnob Tryz.prog.godebug = none := by kernel_rfl
theorem door_met (os : Os) (args : Array Value) : laidMetH Tryz.prog Rows.walkTakesRow.laid ((World.doorLaid Tryz.prog 400 os).forCall (fun _ _ => 0) ⟨#[], args, []⟩).memory :=
  laidMetH_of_parts3 (fuel := 8) (laidMet_of_run' 8 (by kernel_rfl) (by kernel_rfl)) (by kernel_rfl) (by kernel_rfl)
set_option maxRecDepth 100000 in
theorem lifted (os : Os) (started : os.Started) (H : Type) (enc : TypeId × Value → H) :
    ReturnsInHanded {} Tryz.checked os 3 .any (fun w args => (Rows.walkTakesSpec.pre enc Tryz.prog Tryz.f3 [] false w args ∧ laidMetH Tryz.prog Rows.walkTakesRow.laid w) ∧ sizedMet enc Tryz.prog Tryz.f3 (OpenSpec.ofChange Rows.walkTakesSpec) false w args) (Rows.walkTakesSpec.post enc Tryz.prog Tryz.f3 false true false false) := by
  refine Frame.liftedLaid (C := Tryz.checked) (fn := Tryz.f3) (tb := 4) own started (by kernel_rfl) Tryz.func3
    (ChangeSpec.witness_shaped (enc := enc) (C := Tryz.checked) (os := os) (X := fun w _ => laidMetH Tryz.prog Rows.walkTakesRow.laid w) false (World.doorLaid Tryz.prog 400 os) #[.agg #[.int .i64 0, .int .i64 0, .int .i64 0, .int .u64 0], .slice none 0 0, .int .i64 0] 8 rfl (World.shaped_of_RefB (by kernel_rfl) (by kernel_rfl)) (by kernel_rfl) (by kernel_rfl) (by kernel_rfl) (door_met os _))
    rfl rfl Tryz.underlying4 laidOut (by kernel_rfl) (fun ds h => by match ds, h with | [_, _, _], _ => rfl) ?_
  intro W base args ds ps hval0 hA0 hlt hL
  have hval : ∀ (j : Nat) t v, Tryz.f3.params[j]? = some t → args[j]? = some v → Value.okWide Tryz.prog W .any base t v := hval0
  have hA : DataW.TrodAll enc Tryz.prog W 0 (fun _ => true) true Tryz.f3.params.toList args.toList ds ps := hA0
  rw [Tryz.params3] at hA hval
  obtain ⟨v0, vs0, d0, ds0, p0, q0, hargs, rfl, rfl, h0, r0⟩ := trodAll_cons hA
  obtain ⟨v1, vs1, d1, ds1, p1, q1, rfl, rfl, rfl, h1, r1⟩ := trodAll_cons r0
  obtain ⟨v2, vs2, d2, ds2, p2, q2, rfl, rfl, rfl, h2, r2⟩ := trodAll_cons r1
  obtain ⟨rfl, rfl, rfl⟩ := trodAll_nil r2
  obtain rfl : args = #[v0, v1, v2] := by cases args; simp_all
  obtain ⟨x0, rfl, w0_0, w0_1, w0_2, w0_3⟩ := Open.open_four_ints Tryz.underlying24 (by kernel_rfl) (by kernel_rfl) Tryz.underlying3 Tryz.underlying3 Tryz.underlying3 Tryz.underlying22 (hval 0 24 v0 rfl rfl) h0
  obtain ⟨A1, x1, c1, rfl, b1, m1, R1, g1⟩ := Open.open_rows (k := 1) (Ints.encZ .u64) (fun x => (Lit.int .u64 x).wf = true) Tryz.underlying25 (by kernel_rfl) (by decide) (Ints.encZ_length _) (fun n cs y h hl => Ints.one_int Tryz.underlying22 n cs y h hl) (hval 1 25 v1 rfl rfl) h1
  obtain ⟨a2, rfl, _, _, w2⟩ := open_int Tryz.underlying3 (hval 2 3 v2 rfl rfl) h2
  refine (walk x0 A1 x1 c1 a2 w0_0 w0_1 w0_2 w0_3 w2 W R1 (Nat.le_trans b1 m1) g1 (held hL)).mono fun e W' h => ?_
  exact h

theorem over : Rows.walkTakesRow.holds Tryz.pinned (OpenSpec.ofChange Rows.walkTakesSpec) :=
  OpenClaim.holds_of_wide 3 Tryz.f3 rfl rfl rfl rfl rfl rfl rfl ⟨rfl, rfl, rfl, rfl, rfl⟩ rfl rfl rfl rfl rfl (by kernel_rfl) Tryz.func3 (by kernel_rfl)
    (of_decide_eq_true (by kernel_rfl)) (by unfold Func.isWrapper; first | (rw [if_pos (by decide +kernel)]; kernel_rfl) | (rw [if_neg (by decide +kernel)]; exact ⟨rfl, rfl⟩))
    (fun os started H enc _ => lifted os started H enc)

theorem proved : Rows.WalkTakesCardSaid :=
  Claim7.holds_tied_plain_at .later [] Rows.walkTakesCard.laidKinds true Rows.walkTakesCard.stood.harness Rows.walkTakesCard.stood.looks
    over (fun _ h => by cases h) (by kernel_rfl) (fun _ h => by cases h) walkTakes_row_tie rfl ⟨rfl, rfl⟩ (by kernel_rfl) rfl
    (fun f fn hf hfn => by
      obtain rfl : f = 3 := Option.some.inj ((show Tryz.prog.funcNamed Rows.walkTakesRow.func = some 3 by kernel_rfl).symm.trans hf) |>.symm
      obtain rfl : fn = Tryz.f3 := (Option.some.inj (Tryz.func3.symm.trans hfn)).symm
      exact ⟨by kernel_rfl, fun j t ht => by
        rw [Tryz.params3] at ht
        have hm : t ∈ [24, 25, 3] := by simpa using Array.mem_of_getElem? ht
        have hall : ([24, 25, 3].all fun u => !Tryz.prog.wantsStandIn u) = true := by kernel_rfl
        exact (show Tryz.prog.wantsStandIn t = false by simpa using List.all_eq_true.1 hall t hm)⟩)
    (by kernel_rfl)
#print axioms proved
end Go.Proofs.YtjeifnhfdbkkdaaGreatDoor.WalkTakes
