import Derived.Test.YtlegknboccbdpaaDoorScanSeesAllP16
import Derived.Test.YtlegknboccbdpaaDoorScanSeesAllP1
import Derived.Test.YtlegknboccbdpaaDoorScanSeesAllP23
import Derived.Test.YtlegknboccbdpaaDoorScanSeesAllP24
import Derived.Test.YtlegknboccbdpaaDoorScanSeesAllP25
import Derived.Test.YtlegknboccbdpaaDoorScanSeesAllP26
import Derived.Test.YtlegknboccbdpaaDoorScanSeesAllP27
import Derived.Test.YtlegknboccbdpaaDoorScanSeesAllP28
import Derived.Test.YtlegknboccbdpaaDoorTie
import Derived.Test.YtlegknboccbdpaaDoorCards
/- ScanSees: for every plan, every list of words and every limit, where the plan is right, the list is as long as the plan says, and the document calls its lowest chain whole: a scanner, made and done alone to a memory of these words, is done soon; it has seen something just if one of that chain is live, of its own generation, with a deadline below the limit; and no word is another one then (else just the chapter's example is asked); and that example comes out; the arguments read as they did. Condition: the library's listed tables hold what its own text lays in them (tied by the card). -/
namespace Go.Proofs.YtlegknboccbdpaaDoor.ScanSees
set_option maxRecDepth 20000
open Go.ChangeShapes Go.WideShapes Go.ChangeAt Go.RowKit CM DM PM KM ScM MM Runs Lay Plan Ints Go.Proofs.YtlegknboccbdpaaDoor.Task
open ClM (genI)
open Go.Proofs.YtlegknboccbdpaaDoor.Cells (Mem Does Of_any Words_any)
open Go.Proofs.YtlegknboccbdpaaDoor.Scn (Scans Scan_any Scan_next Scan_tell Seen_any)
open Go.Proofs.YtlegknboccbdpaaDoor.SeekRef (Chain_all Chained Key_all chain_refs chain_few)
open Go.Proofs.YtlegknboccbdpaaDoor.Law27 (awake_any wf_u64 wf_i64)
set_option linter.unusedVariables false
set_option linter.unusedSimpArgs false

theorem held {W : World} (h : laidMetH Tryd.prog Rows.scanSeesRow.laid W) : True := trivial
theorem ba (w : World) (o : Obj) : Below w.heap.size w (w.alloc o) := (Below.refl _ _).alloc (Nat.le_refl _) _
theorem chain {w a b : World} (h : Below w.heap.size w a) (k : Below a.heap.size a b) : Below w.heap.size w b := h.trans (k.mono h.size)
theorem past_later {w W W' : World} {o1 : Obj} (h : Below (w.heap.size + 1) (w.alloc o1) W) (hb : Below W.heap.size W W') : Below (w.heap.size + 1) (w.alloc o1) W' := h.trans (hb.mono (by have := h.size; simp only [World.size_alloc] at this; omega))
theorem past_old {w W : World} {o1 : Obj} (h : Below (w.heap.size + 1) (w.alloc o1) W) : Below w.heap.size w W := (box_below w o1).trans (h.mono (by omega))
theorem past_lt {w W : World} {o1 : Obj} (h : Below (w.heap.size + 1) (w.alloc o1) W) : w.heap.size + 1 ≤ W.heap.size := by have := h.size; simpa only [World.size_alloc] using this
theorem now_only {w1 W W' : World} {R : Nat → Prop} (h : Below w1.heap.size w1 W) (ho : Only R W W') (hR : ∀ k, R k → w1.heap.size ≤ k) : Below w1.heap.size w1 W' := h.trans (ho.below h.size hR)
theorem Words_new {p h n : Nat} {l : List Int} {w : World} (hM : Mem w p h n l) : Calls Tryd.prog 21 #[.pointer (some ⟨p, 0, none⟩)] w fun e w' => ∃ A, e = .returned (.slice A n n) ∧ Row w' w'.heap.size A (flat (encZ .u64) l) ∧ Below w.heap.size w w' :=
  (Words_any hM).mono fun _ _ ⟨he, ho, hb⟩ => ⟨_, he, Row.of_own ho, hb⟩
theorem sees_nil {T L lm : Int} {l : List Int} : seesB T L lm l [] = false := rfl
/-- Amid the scanner's steps. -/
def Amid (w : World) (pc hc n q : Nat) (T N L G lm : Int) (K : Nat) (lf : List Int) (sf : ScM.St) (j : Nat) (wr : World) : Prop :=
  ∃ m s, j ≤ K ∧ Mem wr pc hc n m ∧ BM.Fits m ∧ Scans wr q T N L G lm s ∧ steps (scanA T L) (scanT lm) (K - j) m s = some (lf, sf) ∧ Only (fun k => k = hc ∨ k = q) w wr
set_option maxHeartbeats 1000000 in
theorem walk_any (T N L G : Int) (A : Option Addr) (l : List Int) (c : Nat) (lm : Int) (w : World) (hR : Row w w.heap.size A (flat (encZ .u64) l)) (hl : l.length ≤ maxLen) (hf : BM.Fits l) :
    Calls Tryd.prog 3 #[.agg #[.int .i64 T, .int .i64 N, .int .i64 L, .int .u64 G], .slice A l.length c, .int .i64 lm] w fun e w' => e = .returned (.bool true) ∧ Below w.heap.size w w' := by
  obtain ⟨n, hn⟩ : ∃ n, n = l.length := ⟨_, rfl⟩
  rw [← hn] at hl ⊢
  unfold maxLen at hl
  have HN := Lib.hid hn
  have HF := Lib.hid hf
  have HROW := Lib.hid (show ∀ W, Below (w.heap.size + 1) (w.alloc (.cells #[.int .i64 T, .int .i64 N, .int .i64 L, .int .u64 G] 24)) W → Row W W.heap.size A (flat (encZ .u64) l) from fun W hb => hR.later (past_old hb))
  have HBX := Lib.hid (show ∀ W, Below (w.heap.size + 1) (w.alloc (.cells #[.int .i64 T, .int .i64 N, .int .i64 L, .int .u64 G] 24)) W → (W.cell? ⟨w.heap.size, 0, none⟩ = some (.int .i64 T) ∧ W.cell? ⟨w.heap.size, 1, none⟩ = some (.int .i64 N) ∧ W.cell? ⟨w.heap.size, 2, none⟩ = some (.int .i64 L) ∧ W.cell? ⟨w.heap.size, 3, none⟩ = some (.int .u64 G)) from fun W hb => box4_later hb)
  have HAW := Lib.hid (show ∀ W, Below (w.heap.size + 1) (w.alloc (.cells #[.int .i64 T, .int .i64 N, .int .i64 L, .int .u64 G] 24)) W → Calls Tryd.prog 7 #[] W fun e w' => e = .returned (.bool true) ∧ Below w.heap.size w w' from fun W h => (awake_any W).mono fun e w' ⟨h1, h2⟩ => ⟨h1, chain (past_old h) h2⟩)
  have HB1 := Lib.hid (show Below (w.heap.size + 1) (w.alloc (.cells #[.int .i64 T, .int .i64 N, .int .i64 L, .int .u64 G] 24)) (w.alloc (.cells #[.int .i64 T, .int .i64 N, .int .i64 L, .int .u64 G] 24)) from Below.refl _ _)
  have HCH := Lib.hid (Chain_all (T := T) (L := L) (G := G) (N := N) c hn (by omega) (HROW.out _ HB1.out) hf 0)
  obtain ⟨ch, hch⟩ : ∃ ch, ch = chainI T L N l 0 := ⟨_, rfl⟩
  rw [← hch] at HCH
  have HCE := Lib.hid hch
  clear hn hf hR hch
  obtain ⟨c_0, c_1, c_2, c_3⟩ := HBX.out _ HB1.out
  go_enter Tryd.func3, Tryd.ntmps3
  go_wp2_with fail
  refine HCH.out.mono ?_
  rintro e w1 ⟨A1, m1, d1, rfl, hm1, hr1, -, b1⟩
  have HB2 := Lib.hid (past_later HB1.out b1)
  have HM1 := Lib.hid hm1
  have HR1 := Lib.hid (show ∀ W, Below w1.heap.size w1 W → Row W W.heap.size A1 (flat (encZ .u64) ch.1) from fun W hb => hr1.later hb)
  have HNP := Lib.hid (show ∀ W, Below w1.heap.size w1 W → Below (w.heap.size + 1) (w.alloc (.cells #[.int .i64 T, .int .i64 N, .int .i64 L, .int .u64 G] 24)) W from fun W hb => past_later HB2.out hb)
  have HN2 := Lib.hid (show Below w1.heap.size w1 w1 from Below.refl _ _)
  clear hm1 hr1
  clear b1 c_0 c_1 c_2 c_3
  obtain ⟨c_0, c_1, c_2, c_3⟩ := HBX.out _ HB2.out
  cases hright : rightB T N L G with
  | false =>
    have HRT := Lib.hid fun W => PlanRef.Right_no hright W
    clear hright
    go_wp2_with fail
    refine (HRT.out _).mono ?_
    rintro e w2 ⟨rfl, b2⟩
    have HB3 := Lib.hid (past_later HB2.out b2)
    have HN3 := Lib.hid (chain HN2.out b2)
    clear b2 c_0 c_1 c_2 c_3
    go_wp2_with fail
    refine (HAW.out _ HB3.out).mono ?_
    rintro e w3 ⟨rfl, b3⟩
    go_wp2
    go_ret
    exact ⟨rfl, b3⟩
  | true =>
    have HRT := Lib.hid fun W => PlanRef.Right_yes hright W
    have hri := right_is hright
    obtain ⟨T, rfl⟩ : ∃ T' : Nat, T = T' := ⟨T.toNat, by omega⟩
    obtain ⟨N, rfl⟩ : ∃ N' : Nat, N = N' := ⟨N.toNat, by omega⟩
    obtain ⟨L, rfl⟩ : ∃ L' : Nat, L = L' := ⟨L.toNat, by omega⟩
    have HWD := Lib.hid (show ∀ W, Calls Tryd.prog 6 #[.agg #[.int .i64 T, .int .i64 N, .int .i64 L, .int .u64 G]] W fun e w' => e = .returned (.int .i64 ((wordsN T N L : Nat) : Int)) ∧ Below W.heap.size W w' from fun W => by rw [← words_cast (T := T) (S := N) (L := L) (by omega) (by omega) (by omega)]; exact PlanRef.Words_any T N L G W)
    have HSM := Lib.hid (words_small (T := T) (S := N) (L := L) (by omega) (by omega) (by omega))
    have HW2 := Lib.hid (show 1 < wordsN T N L by unfold wordsN; omega)
    have HRI := Lib.hid (show T ≤ 8 ∧ N ≤ 64 ∧ L ≤ 8 ∧ 1 ≤ L by omega)
    obtain ⟨wn, hwn⟩ : ∃ wn, wn = wordsN T N L := ⟨_, rfl⟩
    rw [← hwn] at HWD HSM HW2
    have HWN := Lib.hid hwn
    clear hright hri hwn
    go_wp2_with fail
    refine (HRT.out _).mono ?_
    rintro e w2 ⟨rfl, b2⟩
    have HB3 := Lib.hid (past_later HB2.out b2)
    have HN3 := Lib.hid (chain HN2.out b2)
    clear b2 c_0 c_1 c_2 c_3
    obtain ⟨c_0, c_1, c_2, c_3⟩ := HBX.out _ HB3.out
    go_wp2_with fail
    refine (HWD.out _).mono ?_
    rintro e w3 ⟨rfl, b3⟩
    have HB4 := Lib.hid (past_later HB3.out b3)
    have HN4 := Lib.hid (chain HN3.out b3)
    clear b3 c_0 c_1 c_2 c_3
    by_cases hlen : n = wn
    · obtain ⟨cl, ok⟩ := ch
      cases ok with
      | false =>
        have h1 : ((n : Int) != (wn : Int)) = false := by rw [hlen]; simp
        clear hlen
        go_wp2_with fail
        refine (HAW.out _ HB4.out).mono ?_
        rintro e w5 ⟨rfl, b5⟩
        go_wp2
        go_ret
        exact ⟨rfl, b5⟩
      | true =>
        have h1 : ((n : Int) != (wn : Int)) = false := by rw [hlen]; simp
        subst hlen
        replace HM1 := Lib.hid (show m1 = cl.length from HM1.out)
        replace HR1 := Lib.hid (show ∀ W, Below w1.heap.size w1 W → Row W W.heap.size A1 (flat (encZ .u64) cl) from HR1.out)
        obtain ⟨K, s, hK, hsteps, hst, hs0, hsn⟩ := scan_alone (T := T) (N := N) (L := L) (l := l) (limit := lm) HRI.out.2.1 HCE.out.symm
        have HSTEPS := Lib.hid hsteps
        have HKK := Lib.hid hK
        have HA1 := Lib.hid hst
        have HSN := Lib.hid hsn
        have HCW := Lib.hid (show ∀ y ∈ cl, 0 ≤ y ∧ y < 18446744073709551616 from fun y hy => ((chain_refs (T := T) (L := L) (N := N) HF.out 0).1 y (by rw [← HCE.out]; exact hy)).1)
        have HCL := Lib.hid (show cl.length ≤ 64 from by have h1 := chain_few (T := T) (L := L) (N := N) HF.out 0; rw [← HCE.out] at h1; exact Nat.le_trans h1 HRI.out.2.1)
        have HKY := Lib.hid (show ∀ r, (0 ≤ r ∧ r < 18446744073709551616) → ∀ W, Below w1.heap.size w1 W → Calls Tryd.prog 18 #[.slice A n c, .agg #[.int .i64 T, .int .i64 N, .int .i64 L, .int .u64 G], .int .u64 r] W fun e w' => e = .returned (.agg #[.int .i64 (keyI T L l r).1, .int .u64 (keyI T L l r).2]) ∧ Below W.heap.size W w' from fun r hr W hb => Key_all c HN.out (by have := HSM.out; omega) (HROW.out W (HNP.out W hb)) T N L G hr)
        have HAT := Lib.hid (show ∀ i W, Below w1.heap.size w1 W → Calls Tryd.prog 13 #[.slice A n c, .int .i64 i] W fun e w' => e = .returned (.int .u64 (getI l i)) ∧ W = w' from fun i W hb => AtRef.At_any c HN.out (by have := HSM.out; omega) (HROW.out W (HNP.out W hb)) i)
        clear hK hsteps hst hs0 hsn
        go_wp2_with fail
        refine (Of_any (HROW.out _ HB4.out) HN.out HSM.out).mono ?_
        rintro e w5 ⟨pc, hc, rfl, m2, p2, h2, b2⟩
        have HN5 := Lib.hid (chain HN4.out b2)
        have HM5 := Lib.hid m2
        have HP2 := Lib.hid (show w1.heap.size ≤ pc ∧ w1.heap.size ≤ hc from by have h3 := HN4.out.size; omega)
        clear m2 p2 h2 b2
        obtain ⟨c_0, c_1, c_2, c_3⟩ := HBX.out _ (HNP.out _ HN5.out)
        go_wp2_with fail
        refine (Scan_any T N L G lm _).mono ?_
        rintro e w8 ⟨fq, rfl, f8, k8, b8⟩
        have HN8 := Lib.hid (chain HN5.out b8)
        have HM8 := Lib.hid (HM5.out.later b8)
        have HK8 := Lib.hid (show w1.heap.size ≤ fq ∧ ¬ pc = fq ∧ ¬ hc = fq from by have h1 := HM5.out.lt; have h2 := HN5.out.size; omega)
        have HM80 := Lib.hid (show Amid w8 pc hc n fq T N L G lm K l s 0 w8 from ⟨_, ScM.start, Nat.zero_le _, HM8.out, HF.out, f8, HSTEPS.out, Only.refl _ _⟩)
        clear f8 k8 b8 HSTEPS HM5 c_0 c_1 c_2 c_3
        go_wp2
        go_loopw [12] (fun kv wr => ∃ j : Nat, kv = .int .i64 j ∧ Amid w8 pc hc n fq T N L G lm K l s j wr) (fun kv _ => 300 - (intOf kv).toNat)
        case atStart => exact ⟨0, rfl, HM80.out⟩
        case round =>
          obtain ⟨j, rfl, ⟨mj, sj, hj, hmj, hfj, hsj, ha, ho⟩⟩ := hrel
          have HJK := Lib.hid hj
          have HMJ := Lib.hid hmj
          have HFJ := Lib.hid hfj
          have HSJ := Lib.hid hsj
          have HAJ := Lib.hid ha
          have HOJ := Lib.hid ho
          have hj5 : (j : Int) < 300 := by have := HKK.out; omega
          have HNX := Lib.hid (Scan_next hsj)
          clear hmj hfj hsj ha ho
          cases hx : scanA T L sj with
          | none =>
            have HE := Lib.hid (show mj = l ∧ sj = s by
              have h1 := HAJ.out
              cases hkj : K - j with
              | zero => rw [hkj] at h1; simp only [steps, Option.some.injEq, Prod.mk.injEq] at h1; exact h1
              | succ k => rw [hkj] at h1; obtain ⟨d, h2, -⟩ := steps_amid h1; rw [hx] at h2; cases h2)
            rw [hx] at HNX
            clear hx
            go_wp2_with fail
            refine HNX.out.mono ?_
            rintro e w9 ⟨rfl, b9⟩
            simp only [Option.getD_none, Option.isSome_none]
            have hb9 := chain b9 (ba w9 (.cells #[.int .i64 0, .int .i64 0, .int .u64 0, .int .u64 0, .int .u64 0] 38))
            have HN9 := Lib.hid (chain (show Below w1.heap.size w1 wr from now_only HN8.out HOJ.out (fun k e => e.elim (fun e => by subst e; exact HP2.out.2) (fun e => by subst e; exact HK8.out.1))) hb9)
            have HM9 := Lib.hid (show Mem (w9.alloc (.cells #[.int .i64 0, .int .i64 0, .int .u64 0, .int .u64 0, .int .u64 0] 38)) pc hc n l from HE.out.1 ▸ HMJ.out.later hb9)
            have HS9 := Lib.hid (show Scans (w9.alloc (.cells #[.int .i64 0, .int .i64 0, .int .u64 0, .int .u64 0, .int .u64 0] 38)) fq T N L G lm s from HE.out.2 ▸ HSJ.out.later hb9)
            clear b9 hb9
            clear HNX HAJ HOJ HSJ HFJ HMJ HE hj hj5 HM80 HK8 HM8 HN8 HN5 HN4 HN3 HB4 HB3 HB2 HWD HRT HCH HCE HWN HRI HP2 HJK HKK HW2
            go_wp2_with fail
            generalize w9.alloc (.cells #[.int .i64 0, .int .i64 0, .int .u64 0, .int .u64 0, .int .u64 0] 38) = w10 at HN9 HM9 HS9 ⊢
            have hm64 : m1 ≤ 64 := by have h1 := HM1.out; have h2 := HCL.out; omega
            go_loopw [15, 16] (fun bv iv wr => ∃ i : Nat, i ≤ m1 ∧ iv = .int .i64 i ∧ bv = .bool (seesB T L lm l (cl.take i)) ∧ Below w10.heap.size w10 wr) (fun _ iv _ => m1 - (intOf iv).toNat)
            case atStart => exact ⟨0, Nat.zero_le _, rfl, rfl, Below.refl _ _⟩
            case round =>
              obtain ⟨i, hi, rfl, rfl, hb⟩ := hrel
              have HBI := Lib.hid hb
              have HNI := Lib.hid (chain HN9.out hb)
              by_cases hlt : i < m1
              · obtain ⟨r, hr⟩ : ∃ r, cl[i]? = some r := ⟨_, List.getElem?_eq_getElem (by have := HM1.out; omega)⟩
                have hrw := HCW.out r (List.mem_of_getElem? hr)
                have hst := sees_take (T := T) (L := L) (limit := lm) (l := l) hr
                obtain ⟨b0, o0, rfl, hb0lt, hc0⟩ := int_at (HR1.out _ HNI.out) (show i < cl.length by have := HM1.out; omega)
                have q0 := hc0 i r hr
                have HIX := Lib.hid fun W => Ref02.Index_any r hrw.1 hrw.2 W
                rw [show r % 4294967296 / 2 = idx r from rfl] at HIX
                have HGN := Lib.hid fun W => Ref02.Gen_any r hrw.1 hrw.2 W
                rw [show r / 4294967296 = genI r from rfl] at HGN
                have hg0 : 0 ≤ genI r := by unfold genI; omega
                have HOF := Lib.hid fun W => Ref04.Of_any (genI r) 2 hg0 W
                have HSL := Lib.hid fun W => PlanRef.Slot_any T N L G (idx r) 0 W
                have HAR := Lib.hid fun W hb => HAT.out (atI T L (idx r) 0) W hb
                have HKC := Lib.hid (HKY.out r hrw)
                obtain ⟨bl, hbl⟩ : ∃ bl, bl = liveB T L l r := ⟨_, rfl⟩
                have HLV := Lib.hid (show (getI l (atI T L (idx r) 0) == SM.stI (genI r) 2) = bl from by rw [hbl]; unfold liveB; by_cases q : getI l (atI T L (idx r) 0) = SM.stI (genI r) 2 <;> simp [q])
                rw [← hbl] at hst
                obtain ⟨dl, hdl⟩ : ∃ dl, dl = (keyI T L l r).1 := ⟨_, rfl⟩
                obtain ⟨sq, hsq⟩ : ∃ sq, sq = (keyI T L l r).2 := ⟨_, rfl⟩
                rw [← hdl] at hst
                rw [← hdl, ← hsq] at HKC
                obtain ⟨bw, hbw⟩ : ∃ bw, bw = seesB T L lm l (cl.take i) := ⟨_, rfl⟩
                rw [← hbw] at hst ⊢
                have HST := Lib.hid hst
                generalize getI l (atI T L (idx r) 0) = av at HAR HLV
                generalize atI T L (idx r) 0 = pl at HSL HAR
                generalize SM.stI (genI r) 2 = sv at HOF HLV
                generalize genI r = g at HGN HOF hg0
                generalize idx r = ir at HIX HSL
                obtain ⟨c_0, c_1, c_2, c_3⟩ := HBX.out _ (HNP.out _ HNI.out)
                have C0 := fun p : After wr => p.cell c_0
                have C1 := fun p : After wr => p.cell c_1
                have C2 := fun p : After wr => p.cell c_2
                have C3 := fun p : After wr => p.cell c_3
                have E0 := fun p : After wr => p.cell q0
                have HPQ := Lib.hid (show ∀ p : After wr, Below w1.heap.size w1 p.x from fun p => chain HNI.out p.ok)
                have hlv := HLV.out
                clear c_0 c_1 c_2 c_3 hr hrw hst hc0 hb0lt hg0 hbl hdl hsq hbw hb
                go_wp2
                refine wp_region_after mixed (by kernel_rfl) ?_
                repeat (first | go_big_quiet_step ((first | (with_reducible exact calls_after_same (HIX.out _)) | (with_reducible exact calls_after (HSL.out _)) | (with_reducible exact calls_after_same (HAR.out _ (HPQ.out _))) | (with_reducible exact calls_after_same (HGN.out _)) | (with_reducible exact calls_after_same (HOF.out _)))) | quiet_step ((first | (with_reducible exact calls_after_same (HIX.out _)) | (with_reducible exact calls_after (HSL.out _)) | (with_reducible exact calls_after_same (HAR.out _ (HPQ.out _))) | (with_reducible exact calls_after_same (HGN.out _)) | (with_reducible exact calls_after_same (HOF.out _)))))
                refine wpQuiet_nil ?_
                intro _ hw'
                obtain ⟨pq, hw''⟩ := hw'
                subst hw''
                have HQ := Lib.hid pq.ok
                have f0 := pq.cell q0
                generalize pq.x = wq at HQ f0 ⊢
                have HBQ := Lib.hid (chain HBI.out HQ.out)
                have HNQ := Lib.hid (chain HNI.out HQ.out)
                clear C0 C1 C2 C3 E0 HPQ hlv q0 HQ
                cases bw with
                | true =>
                  go_wp2
                  refine wp_region_after mixed (by kernel_rfl) ?_
                  repeat (first | go_big_quiet_step (fail) | quiet_step (fail))
                  refine wpQuiet_nil ?_
                  intro _ hw'
                  obtain ⟨pq, hw''⟩ := hw'
                  subst hw''
                  have H1 := Lib.hid (show true = seesB T L lm l (cl.take (i + 1)) ∧ Below w10.heap.size w10 pq.x from ⟨by rw [HST.out]; rfl, chain HBQ.out pq.ok⟩)
                  go_wp2
                  go_roundw
                  case rel => exact ⟨i + 1, by omega, by go_num, congrArg Value.bool H1.out.1, H1.out.2⟩
                  case measure => simp [intOf]; omega
                | false =>
                  cases bl with
                  | false =>
                    go_wp2
                    refine wp_region_after mixed (by kernel_rfl) ?_
                    repeat (first | go_big_quiet_step (fail) | quiet_step (fail))
                    refine wpQuiet_nil ?_
                    intro _ hw'
                    obtain ⟨pq, hw''⟩ := hw'
                    subst hw''
                    have H1 := Lib.hid (show false = seesB T L lm l (cl.take (i + 1)) ∧ Below w10.heap.size w10 pq.x from ⟨by rw [HST.out]; rfl, chain HBQ.out pq.ok⟩)
                    go_wp2
                    go_roundw
                    case rel => exact ⟨i + 1, by omega, by go_num, congrArg Value.bool H1.out.1, H1.out.2⟩
                    case measure => simp [intOf]; omega
                  | true =>
                    obtain ⟨c_0, c_1, c_2, c_3⟩ := HBX.out _ (HNP.out _ HNQ.out)
                    have C0 := fun p : After wq => p.cell c_0
                    have C1 := fun p : After wq => p.cell c_1
                    have C2 := fun p : After wq => p.cell c_2
                    have C3 := fun p : After wq => p.cell c_3
                    have E0 := fun p : After wq => p.cell f0
                    have HPQ := Lib.hid (show ∀ p : After wq, Below w1.heap.size w1 p.x from fun p => chain HNQ.out p.ok)
                    have hfd : ∀ W : World, (Instr.field 49 (.agg #[.int .i64 dl, .int .u64 sq]) 0).run Tryd.prog W = .ok (.int .i64 dl) W := fun _ => by kernel_rfl
                    obtain ⟨bd, hbd⟩ : ∃ bd, bd = decide (dl < lm) := ⟨_, rfl⟩
                    have HBD := Lib.hid hbd
                    clear c_0 c_1 c_2 c_3 hbd
                    go_wp2
                    refine wp_region_after mixed (by kernel_rfl) ?_
                    repeat (first | go_big_quiet_step ((with_reducible exact calls_after (HKC.out _ (HPQ.out _)))) | quiet_step ((with_reducible exact calls_after (HKC.out _ (HPQ.out _)))))
                    refine wpQuiet_nil ?_
                    intro _ hw'
                    obtain ⟨pq, hw''⟩ := hw'
                    subst hw''
                    have H1 := Lib.hid (show decide (dl < lm) = seesB T L lm l (cl.take (i + 1)) ∧ Below w10.heap.size w10 pq.x from ⟨by rw [HST.out]; rfl, chain HBQ.out pq.ok⟩)
                    go_wp2
                    go_roundw
                    case rel => exact ⟨i + 1, by omega, by go_num, congrArg Value.bool H1.out.1, H1.out.2⟩
                    case measure => simp [intOf]; omega
              · obtain rfl : i = m1 := by omega
                have hse : seesB T L lm l (cl.take i) = s.sn := by rw [HSN.out, List.take_of_length_le (by rw [← HM1.out]; exact Nat.le_refl _)]
                rw [hse]
                have HM11 := Lib.hid (HM9.out.later hb)
                have HS11 := Lib.hid (HS9.out.later hb)
                have hnx2 := Scan_next HS11.out
                rw [HA1.out] at hnx2
                have HNX2 := Lib.hid hnx2
                clear hnx2 hse hb HM9 HS9
                go_wp2_with fail
                refine HNX2.out.mono ?_
                rintro e w12 ⟨rfl, b12⟩
                simp only [Option.getD_none, Option.isSome_none]
                have hb12 := chain b12 (ba w12 (.cells #[.int .i64 0, .int .i64 0, .int .u64 0, .int .u64 0, .int .u64 0] 38))
                have HN12 := Lib.hid (chain HNI.out hb12)
                have HM12 := Lib.hid (HM11.out.later hb12)
                have HS12 := Lib.hid (HS11.out.later hb12)
                have hss : (s.sn == s.sn) = true := by simp
                have HSE := Lib.hid (Seen_any HS12.out)
                generalize s.sn = bs at hss HSE ⊢
                clear b12 hb12
                go_wp2_with fail
                refine HSE.out.mono ?_
                rintro e w' ⟨rfl, rfl⟩
                go_wp2_with fail
                refine (Words_new HM12.out).mono ?_
                rintro e w14 ⟨A7, rfl, r14, b14⟩
                have HN14 := Lib.hid (chain HN12.out b14)
                have HR14 := Lib.hid r14
                clear r14 b14
                go_wp2_with fail
                refine (CellsRef.Same_yes (l := l) HN.out HN.out HR14.out (HROW.out _ (HNP.out _ HN14.out)) (by unfold maxLen; have h1 := HSM.out; have h2 := HN.out; omega)).mono ?_
                rintro e w15 ⟨rfl, b15⟩
                have HN15 := Lib.hid (chain HN14.out b15)
                clear b15
                go_wp2_with fail
                refine (HAW.out _ (HNP.out _ HN15.out)).mono ?_
                rintro e w16 ⟨rfl, b16⟩
                go_wp2
                go_ret
                exact ⟨rfl, b16⟩
          | some d =>
            have HE := Lib.hid (show j < K ∧ steps (scanA T L) (scanT lm) (K - (j + 1)) (nextD mj d) (scanT lm sj (foundD mj d)) = some (l, s) by
              have h1 := HAJ.out
              cases hkj : K - j with
              | zero =>
                exfalso
                rw [hkj] at h1
                simp only [steps, Option.some.injEq, Prod.mk.injEq] at h1
                have h2 := HA1.out
                rw [← h1.2, hx] at h2
                cases h2
              | succ k =>
                rw [hkj] at h1
                obtain ⟨d2, h2, h3⟩ := steps_amid h1
                rw [hx] at h2
                cases h2
                exact ⟨by omega, by rw [show K - (j + 1) = k by omega]; exact h3⟩)
            have HDFF := Lib.hid (scanA_fits HSJ.out.1 hx)
            rw [hx] at HNX
            clear hx
            go_wp2_with fail
            refine HNX.out.mono ?_
            rintro e w9 ⟨rfl, b9⟩
            simp only [Option.getD_some, Option.isSome_some]
            have HB9 := Lib.hid (chain b9 (ba w9 (.cells #[.int .i64 d.1, .int .i64 d.2.1, .int .u64 d.2.2.1, .int .u64 d.2.2.2.1, .int .u64 d.2.2.2.2] 38)))
            have HM9 := Lib.hid (HMJ.out.later HB9.out)
            have HS9 := Lib.hid (HSJ.out.later HB9.out)
            have HO9 := Lib.hid (HOJ.out.then_below HB9.out)
            clear b9
            go_wp2_with fail
            refine (DeedDo.Do_any HM9.out d).mono ?_
            rintro e w10 ⟨rfl, g10, m10⟩
            have HM10 := Lib.hid m10
            have HO10 := Lib.hid (only_grown (R := fun k => k = hc) g10 fun k e => by cases e; rfl)
            have HS10 := Lib.hid (HS9.out.only HO10.out (fun e => HK8.out.2.2 e.symm))
            have HO910 := Lib.hid (HO9.out.trans (HO10.out.wide (R' := fun k => k = hc ∨ k = fq) fun k e => .inl (.inl e)))
            clear g10 m10
            go_wp2_with fail
            refine (Scan_tell HS10.out (fits_found HFJ.out d)).mono ?_
            rintro e w11 ⟨rfl, s11, o11⟩
            have H11 := Lib.hid (show Amid w8 pc hc n fq T N L G lm K l s (j + 1) w11 from ⟨_, _, by have := HE.out.1; omega, ⟨HM10.out.1, HM10.out.2.1, HM10.out.2.2.1, o11.cell HM10.out.box HK8.out.2.1, o11.own HM10.out.own (fun k e => by cases e; exact HK8.out.2.2)⟩, fits_next HFJ.out HDFF.out, s11, HE.out.2,
              HO910.out.trans (o11.wide (R' := fun k => k = hc ∨ k = fq) fun k e => .inl (.inr e))⟩)
            have hj2 := HE.out.1
            clear s11 o11
            go_wp2
            go_roundw
            case rel => exact ⟨j + 1, by go_num, H11.out⟩
            case measure => simp [intOf]; omega
    · have h1 : ((n : Int) != (wn : Int)) = true := by simpa using (fun e => hlen (by omega) : ¬ (n : Int) = (wn : Int))
      clear hlen
      go_wp2_with fail
      refine (HAW.out _ HB4.out).mono ?_
      rintro e w5 ⟨rfl, b5⟩
      go_wp2
      go_ret
      exact ⟨rfl, b5⟩

theorem walk (x : Int × Int × Int × Int) (A : Option Addr) (l : List Int) (c : Nat) (lm : Int) (_ : (Lit.int .i64 x.1).wf = true) (_ : (Lit.int .i64 x.2.1).wf = true) (_ : (Lit.int .i64 x.2.2.1).wf = true) (_ : (Lit.int .u64 x.2.2.2).wf = true) (hr : (Lit.int .i64 lm).wf = true) (w : World)
    (hR : Row w w.heap.size A (flat (encZ .u64) l)) (hl : l.length ≤ maxLen) (hw : ∀ z ∈ l, (Lit.int .u64 z).wf = true) (_ : True) :
    Calls Tryd.prog 3 #[.agg #[.int .i64 x.1, .int .i64 x.2.1, .int .i64 x.2.2.1, .int .u64 x.2.2.2], .slice A l.length c, .int .i64 lm] w fun e w' => e = .returned (.bool true) ∧ Below w.heap.size w w' := by
  obtain ⟨T, N, L, G⟩ := x
  exact walk_any T N L G A l c lm w hR hl (fun z hz => wf_u64 (hw z hz))
theorem laidOut : laidOutB Tryd.prog = true := by kernel_rfl
theorem own : ownKnob Tryd.prog.godebug = none := by kernel_rfl
theorem door_met (os : Os) (args : Array Value) : laidMetH Tryd.prog Rows.scanSeesRow.laid ((World.doorLaid Tryd.prog 400 os).forCall (fun _ _ => 0) ⟨#[], args, []⟩).memory :=
  laidMetH_of_parts3 (fuel := 8) (laidMet_of_run' 8 (by kernel_rfl) (by kernel_rfl)) (by kernel_rfl) (by kernel_rfl)
set_option maxRecDepth 100000 in
theorem lifted (os : Os) (started : os.Started) (H : Type) (enc : TypeId × Value → H) :
    ReturnsInHanded {} Tryd.checked os 3 .any (fun w args => (Rows.scanSeesSpec.pre enc Tryd.prog Tryd.f3 [] false w args ∧ laidMetH Tryd.prog Rows.scanSeesRow.laid w) ∧ sizedMet enc Tryd.prog Tryd.f3 (OpenSpec.ofChange Rows.scanSeesSpec) false w args) (Rows.scanSeesSpec.post enc Tryd.prog Tryd.f3 false true false false) := by
  refine Frame.liftedLaid (C := Tryd.checked) (fn := Tryd.f3) (tb := 4) own started (by kernel_rfl) Tryd.func3
    (ChangeSpec.witness_shaped (enc := enc) (C := Tryd.checked) (os := os) (X := fun w _ => laidMetH Tryd.prog Rows.scanSeesRow.laid w) false (World.doorLaid Tryd.prog 400 os) #[.agg #[.int .i64 0, .int .i64 0, .int .i64 0, .int .u64 0], .slice none 0 0, .int .i64 0] 8 rfl (World.shaped_of_RefB (by kernel_rfl) (by kernel_rfl)) (by kernel_rfl) (by kernel_rfl) (by kernel_rfl) (door_met os _))
    rfl rfl Tryd.underlying4 laidOut (by kernel_rfl) (fun ds h => by match ds, h with | [_, _, _], _ => rfl) ?_
  intro W base args ds ps hval0 hA0 hlt hL
  have hval : ∀ (j : Nat) t v, Tryd.f3.params[j]? = some t → args[j]? = some v → Value.okWide Tryd.prog W .any base t v := hval0
  have hA : DataW.TrodAll enc Tryd.prog W 0 (fun _ => true) true Tryd.f3.params.toList args.toList ds ps := hA0
  rw [Tryd.params3] at hA hval
  obtain ⟨v0, vs0, d0, ds0, p0, q0, hargs, rfl, rfl, h0, r0⟩ := trodAll_cons hA
  obtain ⟨v1, vs1, d1, ds1, p1, q1, rfl, rfl, rfl, h1, r1⟩ := trodAll_cons r0
  obtain ⟨v2, vs2, d2, ds2, p2, q2, rfl, rfl, rfl, h2, r2⟩ := trodAll_cons r1
  obtain ⟨rfl, rfl, rfl⟩ := trodAll_nil r2
  obtain rfl : args = #[v0, v1, v2] := by cases args; simp_all
  obtain ⟨x0, rfl, w0_0, w0_1, w0_2, w0_3⟩ := Open.open_four_ints Tryd.underlying24 (by kernel_rfl) (by kernel_rfl) Tryd.underlying3 Tryd.underlying3 Tryd.underlying3 Tryd.underlying22 (hval 0 24 v0 rfl rfl) h0
  obtain ⟨A1, x1, c1, rfl, b1, m1, R1, g1⟩ := Open.open_rows (k := 1) (Ints.encZ .u64) (fun x => (Lit.int .u64 x).wf = true) Tryd.underlying25 (by kernel_rfl) (by decide) (Ints.encZ_length _) (fun n cs y h hl => Ints.one_int Tryd.underlying22 n cs y h hl) (hval 1 25 v1 rfl rfl) h1
  obtain ⟨a2, rfl, _, _, w2⟩ := open_int Tryd.underlying3 (hval 2 3 v2 rfl rfl) h2
  refine (walk x0 A1 x1 c1 a2 w0_0 w0_1 w0_2 w0_3 w2 W R1 (Nat.le_trans b1 m1) g1 (held hL)).mono fun e W' h => ?_
  exact h

theorem over : Rows.scanSeesRow.holds Tryd.pinned (OpenSpec.ofChange Rows.scanSeesSpec) :=
  OpenClaim.holds_of_wide 3 Tryd.f3 rfl rfl rfl rfl rfl rfl rfl ⟨rfl, rfl, rfl, rfl, rfl⟩ rfl rfl rfl rfl rfl (by kernel_rfl) Tryd.func3 (by kernel_rfl)
    (of_decide_eq_true (by kernel_rfl)) (by unfold Func.isWrapper; first | (rw [if_pos (by decide +kernel)]; kernel_rfl) | (rw [if_neg (by decide +kernel)]; exact ⟨rfl, rfl⟩))
    (fun os started H enc _ => lifted os started H enc)

theorem proved : Rows.ScanSeesCardSaid :=
  Claim7.holds_tied_plain_at .later [] Rows.scanSeesCard.laidKinds true Rows.scanSeesCard.stood.harness Rows.scanSeesCard.stood.looks
    over (fun _ h => by cases h) (by kernel_rfl) (fun _ h => by cases h) scanSees_row_tie rfl ⟨rfl, rfl⟩ (by kernel_rfl) rfl
    (fun f fn hf hfn => by
      obtain rfl : f = 3 := Option.some.inj ((show Tryd.prog.funcNamed Rows.scanSeesRow.func = some 3 by kernel_rfl).symm.trans hf) |>.symm
      obtain rfl : fn = Tryd.f3 := (Option.some.inj (Tryd.func3.symm.trans hfn)).symm
      exact ⟨by kernel_rfl, fun j t ht => by
        rw [Tryd.params3] at ht
        have hm : t ∈ [24, 25, 3] := by simpa using Array.mem_of_getElem? ht
        have hall : ([24, 25, 3].all fun u => !Tryd.prog.wantsStandIn u) = true := by kernel_rfl
        exact (show Tryd.prog.wantsStandIn t = false by simpa using List.all_eq_true.1 hall t hm)⟩)
    (by kernel_rfl)
#print axioms proved
end Go.Proofs.YtlegknboccbdpaaDoor.ScanSees
