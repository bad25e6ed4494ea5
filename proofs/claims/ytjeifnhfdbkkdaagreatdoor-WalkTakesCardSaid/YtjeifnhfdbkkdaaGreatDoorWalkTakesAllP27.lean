import Derived.Test.YtjeifnhfdbkkdaaGreatDoorWalkTakesAllP15
import Derived.Test.YtjeifnhfdbkkdaaGreatDoorWalkTakesAllP1
import Derived.Test.YtjeifnhfdbkkdaaGreatDoorWalkTakesAllP23
import Derived.Test.YtjeifnhfdbkkdaaGreatDoorWalkTakesAllP24
import Derived.Test.YtjeifnhfdbkkdaaGreatDoorWalkTakesAllP26
import Derived.Test.YtjeifnhfdbkkdaaGreatDoorWalkTakesAllP14
import Derived.Deep.DeepCutAuto
import Derived.Deep.RegionHeld3
import Derived.Deep.AppendLies
/- Law 26's own 'first': the first live timers that are due, in words. -/
namespace Go.Proofs.YtjeifnhfdbkkdaaGreatDoor.Law26
set_option maxRecDepth 20000
open Go.ChangeShapes Go.WideShapes Go.ChangeAt Go.RowKit CM DM PM KM WaM Runs Lay Plan Ints Go.Proofs.YtjeifnhfdbkkdaaGreatDoor.DueRows
open ClM (genI)
open Go.Proofs.YtjeifnhfdbkkdaaGreatDoor.SeekRef (Chain_any Key_any Chained chain_refs chain_few)
open Go.Proofs.YtjeifnhfdbkkdaaGreatDoor.HandleRef (Handle_any)
set_option linter.unusedVariables false
set_option linter.unusedSimpArgs false

theorem now_drew {wr W : World} (h : Below wr.heap.size wr W) : Below wr.heap.size wr W.drew := h.drew
theorem now_alloc {wr W : World} (h : Below wr.heap.size wr W) (o : Obj) : Below wr.heap.size wr (W.alloc o) := h.alloc h.size o
theorem now_later {wr W W' : World} (h : Below wr.heap.size wr W) (hb : Below W.heap.size W W') : Below wr.heap.size wr W' := h.trans (hb.mono h.size)
theorem now_set {wr W : World} {k : Nat} (h : Below wr.heap.size wr W) (hk : wr.heap.size ≤ k) (u v : Value) : Below wr.heap.size wr ((W.setCell ⟨k, 0, none⟩ u).setCell ⟨k, 1, none⟩ v) :=
  (((only_below (fun _ => False) h).setCell (p := ⟨k, 0, none⟩) (.inr hk) u).setCell (p := ⟨k, 1, none⟩) (.inr hk) v).below (Nat.le_refl _) (fun k e => e.elim)
theorem set_two {W : World} {k : Nat} {v0 v1 : Value} {t : TypeId} (h : W.heap[k]? = some (.cells #[v0, v1] t (0, 0))) (u v : Value) : ((W.setCell ⟨k, 0, none⟩ u).setCell ⟨k, 1, none⟩ v).heap[k]? = some (.cells #[u, v] t (0, 0)) := set_heap (j := 1) (set_heap (j := 0) h u) v
theorem two_later {wr W : World} (hb : Below ((wr.alloc (.cells #[.int .i64 0, .int .u64 0] 56)).drew).heap.size (wr.alloc (.cells #[.int .i64 0, .int .u64 0] 56)).drew W) : W.heap[wr.heap.size]? = some (.cells #[.int .i64 0, .int .u64 0] 56 (0, 0)) :=
  (hb.block wr.heap.size (by show wr.heap.size < (wr.alloc (.cells #[.int .i64 0, .int .u64 0] 56)).heap.size; simp)).trans (new_heap wr (.cells #[.int .i64 0, .int .u64 0] 56))
theorem firstL_nil {T L ct now : Int} {l : List Int} {out : List Du} : firstL T L ct now l [] out = (out, never) := rfl
theorem firstL_full {T L ct now c : Int} {l cs : List Int} {out : List Du} (h : ct ≤ (out.length : Int)) : firstL T L ct now l (c :: cs) out = (out, never) := by rw [firstL, if_pos h]
theorem firstL_stop {T L ct now c : Int} {l cs : List Int} {out : List Du} (h : ¬ ct ≤ (out.length : Int)) (h2 : now < (keyI T L l c).1) : firstL T L ct now l (c :: cs) out = (out, (keyI T L l c).1) := by rw [firstL, if_neg h, if_pos h2]
theorem firstL_on {T L ct now c : Int} {l cs : List Int} {out : List Du} (h : ¬ ct ≤ (out.length : Int)) (h2 : ¬ now < (keyI T L l c).1) : firstL T L ct now l (c :: cs) out = firstL T L ct now l cs (if liveB T L l c = true then out ++ [dueL T L l c] else out) := by rw [firstL, if_neg h, if_neg h2]
/-- What it ends in. -/
def Firsts (w : World) (X : List Du × Int) (e : Ending) (w' : World) : Prop := ∃ A c, e = .returned (.tuple #[.slice A X.1.length c, .int .i64 X.2]) ∧ Row w' w'.heap.size A (flat encU X.1) ∧ Below w.heap.size w w'
/-- Amid the loop. -/
def Run (T L ct now : Int) (l cl : List Int) (w0 : World) (B : Nat) (X : List Du × Int) (v iv : Value) (m : Nat) (wr : World) : Prop :=
  ∃ (i : Nat) (out : List Du), i ≤ m ∧ iv = .int .i64 i ∧ out.length ≤ i ∧ wr.ownsRow B 77 3 v out.length (flat encU out) ∧ firstL T L ct now l (cl.drop i) out = X ∧ Below B w0 wr
set_option maxHeartbeats 1000000 in
theorem first_any {A : Option Addr} {l : List Int} {n : Nat} (c : Nat) {w : World} (hn : n = l.length) (hn4 : n ≤ 4096) (hn1 : 1 < n) (hR : Row w w.heap.size A (flat (encZ .u64) l)) (hf : BM.Fits l) {T L : Int} {N : Nat} (s64 : N ≤ 64) (G ct : Int) :
    Calls Tryz.prog 13 #[.agg #[.int .i64 T, .int .i64 N, .int .i64 L, .int .u64 G], .slice A n c, .int .i64 ct] w (Firsts w (firstL T L ct (wrap64 (getI l 1)) l (chainI T L N l 0).1 [])) := by
  have HROW := Lib.hid (show ∀ W, Below (w.heap.size + 1) (w.alloc (.cells #[.int .i64 T, .int .i64 N, .int .i64 L, .int .u64 G] 24)) W → Row W W.heap.size A (flat (encZ .u64) l) from fun W hb => hR.later ((box_below w _).trans (hb.mono (Nat.le_succ _))))
  have HBX := Lib.hid (show ∀ W, Below (w.heap.size + 1) (w.alloc (.cells #[.int .i64 T, .int .i64 N, .int .i64 L, .int .u64 G] 24)) W → (W.cell? ⟨w.heap.size, 0, none⟩ = some (.int .i64 T) ∧ W.cell? ⟨w.heap.size, 1, none⟩ = some (.int .i64 N) ∧ W.cell? ⟨w.heap.size, 2, none⟩ = some (.int .i64 L) ∧ W.cell? ⟨w.heap.size, 3, none⟩ = some (.int .u64 G)) from fun W hb => box4_later hb)
  have HCH := Lib.hid (show ∀ W, Below (w.heap.size + 1) (w.alloc (.cells #[.int .i64 T, .int .i64 N, .int .i64 L, .int .u64 G] 24)) W → Calls Tryz.prog 4 #[.slice A n c, .agg #[.int .i64 T, .int .i64 N, .int .i64 L, .int .u64 G], .int .i64 0] W (Chained W (chainI T L N l 0)) from fun W hb => Chain_any c hn (by omega) (HROW.out W hb) hf s64 0)
  have HRF := Lib.hid (show (chainI T L N l 0).1.length ≤ 64 from Nat.le_trans (chain_few hf 0) s64)
  have HCW := Lib.hid (show ∀ y ∈ (chainI T L N l 0).1, 0 ≤ y ∧ y < 18446744073709551616 from fun y hy => ((chain_refs hf 0).1 y hy).1)
  have HKY := Lib.hid (show ∀ r, (0 ≤ r ∧ r < 18446744073709551616) → ∀ W, Below (w.heap.size + 1) (w.alloc (.cells #[.int .i64 T, .int .i64 N, .int .i64 L, .int .u64 G] 24)) W → Calls Tryz.prog 23 #[.slice A n c, .agg #[.int .i64 T, .int .i64 N, .int .i64 L, .int .u64 G], .int .u64 r] W fun e w' => e = .returned (.agg #[.int .i64 (keyI T L l r).1, .int .u64 (keyI T L l r).2]) ∧ Below W.heap.size W w' from fun r hr W hb => Key_any c hn (by omega) (HROW.out W hb) T N L G hr)
  have HAT := Lib.hid (show ∀ i W, Below (w.heap.size + 1) (w.alloc (.cells #[.int .i64 T, .int .i64 N, .int .i64 L, .int .u64 G] 24)) W → Calls Tryz.prog 29 #[.slice A n c, .int .i64 i] W fun e w' => e = .returned (.int .u64 (getI l i)) ∧ W = w' from fun i W hb => AtRef.At_any c hn (by omega) (HROW.out W hb) i)
  obtain ⟨f1, hf1⟩ : ∃ f1, l[1]? = some f1 := ⟨_, List.getElem?_eq_getElem (by omega)⟩
  have HF1 := Lib.hid hf1
  rw [show getI l 1 = f1 from by rw [show (1 : Int) = ((1 : Nat) : Int) from rfl, getI_some hf1]]
  have HN := Lib.hid hn
  obtain ⟨X, hX⟩ : ∃ X, X = firstL T L ct (wrap64 f1) l (chainI T L N l 0).1 [] := ⟨_, rfl⟩
  rw [← hX]
  have HX := Lib.hid hX.symm
  generalize chainI T L N l 0 = ch at HCH HRF HCW HX
  obtain ⟨bf, of, rfl, -, hcf⟩ := int_at hR (show 1 < l.length by omega)
  have HL1 := Lib.hid (show ∀ W, Below (w.heap.size + 1) (w.alloc (.cells #[.int .i64 T, .int .i64 N, .int .i64 L, .int .u64 G] 24)) W → W.cell? ⟨bf, of + 1, none⟩ = some (.int .u64 f1) from fun W hb => cell_later ((box_below w _).trans (hb.mono (Nat.le_succ _))) (hcf 1 f1 HF1.out))
  obtain ⟨c_0, c_1, c_2, c_3⟩ := HBX.out _ (Below.refl _ _)
  obtain ⟨i0, hi0, hz0, hz1, hz2⟩ := info_parts info_due
  clear hn hR hf hf1 hX hcf
  go_enter Tryz.func13, Tryz.ntmps13
  go_wp2_with fail
  refine (HCH.out _ (Below.refl _ _)).mono ?_
  rintro e w1 ⟨A1, m, c1, rfl, hm, hr1, -, b1⟩
  have HB1 := Lib.hid (show Below (w.heap.size + 1) (w.alloc (.cells #[.int .i64 T, .int .i64 N, .int .i64 L, .int .u64 G] 24)) w1 from by have h := b1; rwa [World.size_alloc] at h)
  have HM := Lib.hid hm
  have HR1 := Lib.hid (show ∀ W, Below w1.heap.size w1 W → Row W W.heap.size A1 (flat (encZ .u64) ch.1) from fun W hb => hr1.later hb)
  have HR := HRF.out
  have hm64 : m ≤ 64 := by omega
  have H0 := Lib.hid (show Run T L ct (wrap64 f1) l ch.1 w1 w1.heap.size X (.slice none 0 0) (.int .i64 ((0 : Nat) : Int)) m w1 from ⟨0, [], Nat.zero_le _, rfl, Nat.le_refl _, World.ownsRow_nil _ _ _ _, HX.out, Below.refl _ _⟩)
  have HSZ1 := Lib.hid (show w.heap.size + 1 ≤ w1.heap.size from by have h1 := HB1.out.size; rwa [World.size_alloc] at h1)
  have HQ1 := Lib.hid (Nat.le_refl w1.heap.size)
  clear hm hr1 b1 c_0 c_1 c_2 c_3 HR
  generalize ch.2 = okv
  go_wp2
  go_loopw [8, 11] (fun v iv wr => Run T L ct (wrap64 f1) l ch.1 w1 w1.heap.size X v iv m wr) (fun _ iv _ => m - (intOf iv).toNat)
  case atStart => exact H0.out
  case round =>
    obtain ⟨i, out, hi, rfl, hoi, ho, hx, hb1⟩ := hrel
    have hb : Below (w.heap.size + 1) (w.alloc (.cells #[.int .i64 T, .int .i64 N, .int .i64 L, .int .u64 G] 24)) wr := HB1.out.trans (hb1.mono HSZ1.out)
    obtain ⟨A2, c2, rfl, -⟩ := slice_of_own ho
    have HO := Lib.hid ho
    have HB := Lib.hid hb
    have HB2 := Lib.hid hb1
    have HOI := Lib.hid hoi
    by_cases hlt : i < m
    · obtain ⟨r, hr⟩ : ∃ r, ch.1[i]? = some r := ⟨_, List.getElem?_eq_getElem (by have := HM.out; omega)⟩
      have hdr : ch.1.drop i = r :: ch.1.drop (i + 1) := by
        obtain ⟨h1, h2⟩ := List.getElem?_eq_some_iff.1 hr
        rw [List.drop_eq_getElem_cons h1, h2]
      rw [hdr] at hx
      have HXX := Lib.hid hx
      have hrw := HCW.out r (List.mem_of_getElem? hr)
      obtain ⟨b0, o0, rfl, hb0lt, hc0⟩ := int_at (HR1.out w1 (Below.refl _ _)) (show i < ch.1.length by have := HM.out; omega)
      have q0 := cell_later hb1 (hc0 i r hr)
      have HB0 := Lib.hid hb0lt
      clear hb0lt
      have HK := Lib.hid (show ∀ W, Below wr.heap.size wr W → (W.cell? ⟨w.heap.size, 0, none⟩ = some (.int .i64 T) ∧ W.cell? ⟨w.heap.size, 1, none⟩ = some (.int .i64 N) ∧ W.cell? ⟨w.heap.size, 2, none⟩ = some (.int .i64 L) ∧ W.cell? ⟨w.heap.size, 3, none⟩ = some (.int .u64 G)) ∧ W.cell? ⟨b0, o0 + i, none⟩ = some (.int .u64 r) from fun W h => ⟨HBX.out _ (HB.out.trans (h.mono (by have := HB.out.size; rwa [World.size_alloc] at this))), cell_later h q0⟩)
      have HPN := Lib.hid (show ∀ W, Below wr.heap.size wr W → Below (w.heap.size + 1) (w.alloc (.cells #[.int .i64 T, .int .i64 N, .int .i64 L, .int .u64 G] 24)) W from fun W h => HB.out.trans (h.mono (by have := HB.out.size; rwa [World.size_alloc] at this)))
      have HKC := Lib.hid (show ∀ W, Below wr.heap.size wr W → Calls Tryz.prog 23 #[.slice (some ⟨bf, of, none⟩) n c, .agg #[.int .i64 T, .int .i64 N, .int .i64 L, .int .u64 G], .int .u64 r] W fun e w' => e = .returned (.agg #[.int .i64 (keyI T L l r).1, .int .u64 (keyI T L l r).2]) ∧ Below W.heap.size W w' from fun W h => HKY.out r hrw W (HPN.out W h))
      have HIX := Lib.hid fun W => Ref02.Index_any r hrw.1 hrw.2 W
      rw [show r % 4294967296 / 2 = idx r from rfl] at HIX
      have HGN := Lib.hid fun W => Ref02.Gen_any r hrw.1 hrw.2 W
      rw [show r / 4294967296 = genI r from rfl] at HGN
      have hg0 : 0 ≤ genI r := by unfold genI; omega
      have HOF := Lib.hid fun W => Ref04.Of_any (genI r) 2 hg0 W
      have HSL := Lib.hid fun W => PlanRef.Slot_any T N L G (idx r) 0 W
      have HAR := Lib.hid fun W hb => HAT.out (atI T L (idx r) 0) W hb
      have HHD := Lib.hid fun W => Handle_any hrw W
      have HDU := Lib.hid (show dueL T L l r = (handI r, (keyI T L l r).1, (keyI T L l r).2) from rfl)
      obtain ⟨bl, hbl⟩ : ∃ bl, bl = liveB T L l r := ⟨_, rfl⟩
      have HLV := Lib.hid (show (getI l (atI T L (idx r) 0) == SM.stI (genI r) 2) = bl from by rw [hbl]; unfold liveB; by_cases q : getI l (atI T L (idx r) 0) = SM.stI (genI r) 2 <;> simp [q])
      have HBL := Lib.hid hbl
      obtain ⟨dl, hdl⟩ : ∃ dl, dl = (keyI T L l r).1 := ⟨_, rfl⟩
      obtain ⟨sq, hsq⟩ : ∃ sq, sq = (keyI T L l r).2 := ⟨_, rfl⟩
      rw [← hdl, ← hsq] at HKC HDU
      have HDL := Lib.hid hdl
      generalize handI r = hd at HHD HDU
      generalize getI l (atI T L (idx r) 0) = av at HAR HLV
      generalize atI T L (idx r) 0 = pl at HSL HAR
      generalize SM.stI (genI r) 2 = sv at HOF HLV
      generalize genI r = g at HGN HOF hg0
      generalize idx r = ir at HIX HSL
      have HS0 := Lib.hid (HK.out _ (now_drew (Below.refl wr.heap.size wr)))
      have HS1 := Lib.hid (HK.out _ (now_drew (now_alloc (Below.refl wr.heap.size wr) (.cells #[.int .i64 0, .int .u64 0] 56))))
      have HNA := Lib.hid (show Below wr.heap.size wr (wr.alloc (.cells #[.int .i64 0, .int .u64 0] 56)).drew from now_drew (now_alloc (Below.refl wr.heap.size wr) (.cells #[.int .i64 0, .int .u64 0] 56)))
      have HNB := Lib.hid (show Below wr.heap.size wr wr.drew from now_drew (Below.refl wr.heap.size wr))
      clear hr hdr hx hrw hc0 q0 ho hb hb1 hoi hg0 hbl hdl hsq
      go_wp2_with fail
      go_cut [12] (fun s wx => ∃ k, s = .pointer (some ⟨k, 0, none⟩) ∧ wx.heap[k]? = some (.cells #[.int .i64 dl, .int .u64 sq] 56 (0, 0)) ∧ wr.heap.size ≤ k ∧ Below wr.heap.size wr wx)
      case first =>
        go_region_held3 (fun W => (W.cell? ⟨w.heap.size, 0, none⟩ = some (.int .i64 T) ∧ W.cell? ⟨w.heap.size, 1, none⟩ = some (.int .i64 N) ∧ W.cell? ⟨w.heap.size, 2, none⟩ = some (.int .i64 L) ∧ W.cell? ⟨w.heap.size, 3, none⟩ = some (.int .u64 G)) ∧ W.cell? ⟨b0, o0 + i, none⟩ = some (.int .u64 r))
          ((first | (with_reducible exact HS0.out) | (with_reducible exact HS1.out) | (with_reducible assumption) | (with_reducible exact HK.out _ HP2.out) | (with_reducible exact HK.out _ (now_alloc HP2.out _)) | (with_reducible exact HK.out _ (now_set HP2.out HJ2.out _ _)) | (with_reducible exact HK.out _ (now_set (now_alloc HP2.out _) HJ2.out _ _))))
          (first
            | (go_at_call 23; with_reducible refine (HKC.out _ HNA.out).mono ?_; rintro e w2 ⟨rfl, hb2⟩; have HP2 := Lib.hid (now_later HNA.out hb2); have HJ2 := Lib.hid (Nat.le_refl wr.heap.size); have HZ2 := Lib.hid (two_later hb2); have z0 := (cell_heap HZ2.out 0).1; have z1 := (cell_heap HZ2.out 1).1; have g0 := (cell_heap HZ2.out 0).2; have g1 := (cell_heap HZ2.out 1).2; simp at z0 z1; clear hb2)
            | (go_at_call 23; with_reducible refine (HKC.out _ HNB.out).mono ?_; rintro e w2 ⟨rfl, hb2⟩; have HP2 := Lib.hid (now_later HNB.out hb2); have HJ2 := Lib.hid (show wr.heap.size ≤ w2.heap.size from HP2.out.size); have HZ2 := Lib.hid (new_heap w2 (.cells #[.int .i64 0, .int .u64 0] 56)); have z0 := (cell_heap HZ2.out 0).1; have z1 := (cell_heap HZ2.out 1).1; have g0 := (cell_heap HZ2.out 0).2; have g1 := (cell_heap HZ2.out 1).2; simp at z0 z1; clear hb2))
        all_goals go_wp2_with fail
        all_goals go_meet
        all_goals (case rel => first | (with_reducible exact ⟨_, rfl, new_heap _ _, HJ2.out, now_alloc HP2.out _⟩) | (with_reducible exact ⟨_, rfl, set_two HZ2.out _ _, Nat.le_refl _, now_set HP2.out HJ2.out _ _⟩))
      case rest =>
        obtain ⟨k, rfl, hk, hkw, hnow⟩ := hcut
        have HKO := Lib.hid (show ∀ kk, (Value.slice A2 out.length c2).ownBlock = some kk → kk ≠ k from fun kk e q => by have := (HO.out.lt kk e).2; omega)
        clear hkw
        have k0 := (cell_heap hk 0).1
        have k1 := (cell_heap hk 1).1
        simp at k0 k1
        have HNW := Lib.hid hnow
        obtain ⟨n0, hn0⟩ : ∃ n0, n0 = out.length := ⟨_, rfl⟩
        have HN0 := Lib.hid hn0
        rw [← hn0] at HO HOI HKO
        clear hk hnow
        by_cases h1 : ct ≤ (n0 : Int)
        · have hx := HXX.out
          rw [firstL_full (by rw [← HN0.out]; exact h1)] at hx
          have HEND := Lib.hid (show Firsts w X (.returned (.tuple #[.slice A2 n0 c2, .int .i64 1152921504606846977])) wc from by
            rw [← hx, HN0.out]
            exact ⟨A2, c2, rfl, Row.of_own (by have h := own_later HO.out HNW.out; rw [HN0.out] at h; exact h), (box_below w _).trans ((HPN.out _ HNW.out).mono (Nat.le_succ _))⟩)
          rw [← hn0]
          clear hx hn0
          go_wp2
          go_ret2
          exact HEND.out
        · rw [← hn0]
          clear hn0
          have F1 := HL1.out _ (HPN.out _ HNW.out)
          have K0 := fun p : After wc => p.cell k0
          have KF := fun p : After wc => p.cell F1
          by_cases h2 : wrap64 f1 < dl
          · have hx := HXX.out
            rw [firstL_stop (by rw [← HN0.out]; exact h1) (by rw [← HDL.out]; exact h2), ← HDL.out] at hx
            have hd1 : decide (wrap64 f1 < dl) = true := decide_eq_true h2
            clear F1
            go_wp2
            refine wp_region_after mixed (by kernel_rfl) ?_
            repeat (first | go_big_quiet_step (fail) | quiet_step (fail))
            refine wpQuiet_nil ?_
            intro _ hw'
            obtain ⟨pq, hw''⟩ := hw'
            subst hw''
            have hq := pq.ok
            have d0 := pq.cell k0
            generalize pq.x = wq at hq d0 ⊢
            have D0 := fun p : After wq => p.cell d0
            have HQ := Lib.hid (now_later HNW.out hq)
            clear K0 KF k0 k1 d0 hq
            go_wp2
            refine wp_region_after mixed (by kernel_rfl) ?_
            repeat (first | go_big_quiet_step (fail) | quiet_step (fail))
            refine wpQuiet_nil ?_
            intro _ hw'
            obtain ⟨pq, hw''⟩ := hw'
            subst hw''
            have HEND := Lib.hid (show Firsts w X (.returned (.tuple #[.slice A2 n0 c2, .int .i64 dl])) pq.x from by
              rw [← hx, HN0.out]
              have hz := now_later HQ.out pq.ok
              exact ⟨A2, c2, rfl, Row.of_own (by have h := own_later HO.out hz; rw [HN0.out] at h; exact h), (box_below w _).trans ((HPN.out _ hz).mono (Nat.le_succ _))⟩)
            clear hx
            go_wp2
            go_ret2
            exact HEND.out
          · have hd1 : decide (wrap64 f1 < dl) = false := decide_eq_false h2
            have hx := HXX.out
            rw [firstL_on (by rw [← HN0.out]; exact h1) (by rw [← HDL.out]; exact h2), ← HBL.out] at hx
            have HXR := Lib.hid hx
            clear F1 hx
            go_wp2
            refine wp_region_after mixed (by kernel_rfl) ?_
            repeat (first | go_big_quiet_step (fail) | quiet_step (fail))
            refine wpQuiet_nil ?_
            intro _ hw'
            obtain ⟨pq, hw''⟩ := hw'
            subst hw''
            have hq := pq.ok
            have d0 := pq.cell k0
            have d1 := pq.cell k1
            generalize pq.x = wq at hq d0 d1 ⊢
            have HQ := Lib.hid (now_later HNW.out hq)
            clear K0 KF k0 k1 hq
            obtain ⟨⟨c_0, c_1, c_2, c_3⟩, e0⟩ := HK.out _ HQ.out
            have C0 := fun p : After wq => p.cell c_0
            have C1 := fun p : After wq => p.cell c_1
            have C2 := fun p : After wq => p.cell c_2
            have C3 := fun p : After wq => p.cell c_3
            have E0 := fun p : After wq => p.cell e0
            have HPQ := Lib.hid (show ∀ p : After wq, Below (w.heap.size + 1) (w.alloc (.cells #[.int .i64 T, .int .i64 N, .int .i64 L, .int .u64 G] 24)) p.x from fun p => HPN.out _ (now_later HQ.out p.ok))
            have hlv := HLV.out
            clear c_0 c_1 c_2 c_3 e0
            go_wp2
            refine wp_region_after mixed (by kernel_rfl) ?_
            repeat (first | go_big_quiet_step ((first | (with_reducible exact calls_after_same (HIX.out _)) | (with_reducible exact calls_after (HSL.out _)) | (with_reducible exact calls_after_same (HAR.out _ (HPQ.out _))) | (with_reducible exact calls_after_same (HGN.out _)) | (with_reducible exact calls_after_same (HOF.out _)))) | quiet_step ((first | (with_reducible exact calls_after_same (HIX.out _)) | (with_reducible exact calls_after (HSL.out _)) | (with_reducible exact calls_after_same (HAR.out _ (HPQ.out _))) | (with_reducible exact calls_after_same (HGN.out _)) | (with_reducible exact calls_after_same (HOF.out _)))))
            refine wpQuiet_nil ?_
            intro _ hw'
            obtain ⟨pq, hw''⟩ := hw'
            subst hw''
            have hq := pq.ok
            have f0 := pq.cell d0
            have f1' := pq.cell d1
            generalize pq.x = wp at hq f0 f1' ⊢
            have HQ2 := Lib.hid (now_later HQ.out hq)
            clear C0 C1 C2 C3 E0 HPQ hlv d0 d1 hq
            cases bl with
            | false =>
              have H1 := Lib.hid (show Run T L ct (wrap64 f1) l ch.1 w1 w1.heap.size X (.slice A2 n0 c2) (.int .i64 ((i + 1 : Nat) : Int)) m wp from
                ⟨i + 1, out, by omega, rfl, by rw [← HN0.out]; have := HOI.out; omega, by rw [← HN0.out]; exact own_later HO.out HQ2.out, by have h := HXR.out; rw [if_neg (by simp)] at h; exact h, HB2.out.trans (HQ2.out.mono HB2.out.size)⟩)
              clear f0 f1'
              go_wp2
              go_roundw
              case rel => exact H1.out
              case measure => simp [intOf]; omega
            | true =>
              have e0 := (HK.out _ HQ2.out).2
              have HS5 := Lib.hid (show wp.drew.cell? ⟨b0, o0 + i, none⟩ = some (.int .u64 r) ∧ wp.drew.cell? ⟨k, 0, none⟩ = some (.int .i64 dl) ∧ wp.drew.cell? ⟨k, 1, none⟩ = some (.int .u64 sq) from ⟨e0, f0, f1'⟩)
              have HBD := Lib.hid (show ∀ o, Below wp.heap.size wp (wp.alloc o).drew from fun o => ((Below.refl _ _).alloc (Nat.le_refl _) o).drew)
              have HS6 := Lib.hid (show ∀ o, (wp.alloc o).drew.cell? ⟨b0, o0 + i, none⟩ = some (.int .u64 r) ∧ (wp.alloc o).drew.cell? ⟨k, 0, none⟩ = some (.int .i64 dl) ∧ (wp.alloc o).drew.cell? ⟨k, 1, none⟩ = some (.int .u64 sq) from fun o => ⟨cell_later (HBD.out o) e0, cell_later (HBD.out o) f0, cell_later (HBD.out o) f1'⟩)
              have HO5 := Lib.hid (show ∀ o, (wp.alloc o).drew.ownsRow w1.heap.size 77 3 (.slice A2 n0 c2) n0 (flat encU out) from fun o => own_later (own_later HO.out HQ2.out) (HBD.out o))
              have HP1 := Lib.hid (HB2.out.trans (HQ2.out.mono HB2.out.size))
              have HNW2 := Lib.hid (show ∀ (o : Obj) (w3 : World), (wp.alloc o).drew.grownBy w3 (Value.slice A2 n0 c2).ownBlock → Below w1.heap.size w1 w3 ∧ ∀ a v, a.block < w1.heap.size ∨ (∀ kk, (Value.slice A2 n0 c2).ownBlock = some kk → kk ≠ a.block) → wp.cell? a = some v → w3.cell? a = some v from fun o w3 hgr => by
                have h1 := only_grown (R := fun kk => (Value.slice A2 n0 c2).ownBlock = some kk) hgr fun kk e => e
                have h2 := HP1.out.trans ((HBD.out o).mono HP1.out.size)
                refine ⟨h2.trans (h1.below h2.size (fun kk e => ((HO5.out o).lt kk e).1)), fun a v hor hv => h1.cell (cell_later (HBD.out o) hv) (fun e => ?_)⟩
                rcases hor with q | q
                · have := ((HO5.out o).lt _ e).1; omega
                · exact q _ e rfl)
              have hb0 : b0 < w1.heap.size := HB0.out
              have hkne : ∀ kk, (Value.slice A2 n0 c2).ownBlock = some kk → kk ≠ k := HKO.out
              have HKN := Lib.hid (And.intro hb0 hkne)
              have HO1 := Lib.hid (show out.length = n0 from HN0.out.symm)
              clear hb0 hkne e0
              go_wp2_with fail
              go_region_held3 (fun W => W.cell? ⟨b0, o0 + i, none⟩ = some (.int .u64 r) ∧ W.cell? ⟨k, 0, none⟩ = some (.int .i64 dl) ∧ W.cell? ⟨k, 1, none⟩ = some (.int .u64 sq))
                ((first | (with_reducible exact HS5.out) | (with_reducible exact HS6.out _) | (with_reducible assumption) | (with_reducible exact HS7.out)))
                (first
                  | (go_at_call 32; refine (HHD.out _).mono ?_; rintro e w9 ⟨rfl, rfl⟩)
                  | (refine step_append_lies _ rfl (.tmp 63) (.tmp 74) 43 rfl w1.heap.size 77 i0 _ 3 24 Tryz.underlying43 hi0 hz0 hz1 hz2 rfl (by decide) _ n0 _ rfl (HO5.out _) ⟨wp.heap.size, 0, none⟩ 1 1 (encU (hd, dl, sq)) rfl rfl (cells_new _ _ _) (Open.enc3_one _ _ _ _) (by decide) (by simp only [maxLen]; have := HOI.out; omega) (by have := HOI.out; omega) (by have := HP1.out.size; simp; omega) _ rfl ?_
                     intro g2 cap w9 ho2 hg2 hor2 hlt2
                     obtain ⟨k1, k2⟩ := HNW2.out _ _ hg2
                     have HB9 := Lib.hid k1
                     have HS7 := Lib.hid (show w9.cell? ⟨b0, o0 + i, none⟩ = some (.int .u64 r) ∧ w9.cell? ⟨k, 0, none⟩ = some (.int .i64 dl) ∧ w9.cell? ⟨k, 1, none⟩ = some (.int .u64 sq) from ⟨k2 _ _ (.inl HKN.out.1) (HK.out _ HQ2.out).2, k2 _ _ (.inr HKN.out.2) f0, k2 _ _ (.inr HKN.out.2) f1'⟩)
                     have HO9 := Lib.hid ho2
                     clear k1 k2 ho2 hg2 hor2 hlt2))
              have H1 := Lib.hid (show Run T L ct (wrap64 f1) l ch.1 w1 w1.heap.size X (.slice (some ⟨g2, 0, none⟩) (n0 + 1) cap) (.int .i64 ((i + 1 : Nat) : Int)) m w9 from
                ⟨i + 1, out ++ [(hd, dl, sq)], by omega, rfl, by rw [List.length_append, HO1.out]; have := HOI.out; simp; omega, by rw [List.length_append, HO1.out, flat_append, flat_one]; exact HO9.out, by have h := HXR.out; rw [if_pos trivial, HDU.out] at h; exact h, HB9.out⟩)
              go_wp2
              go_roundw
              case rel => exact H1.out
              case measure => simp [intOf]; omega
    · obtain rfl : i = m := by omega
      rw [List.drop_of_length_le (by rw [HM.out]; exact Nat.le_refl _), firstL_nil] at hx
      have HEND := Lib.hid (show Firsts w X (.returned (.tuple #[.slice A2 out.length c2, .int .i64 1152921504606846977])) wr from by
        rw [← hx]
        exact ⟨A2, c2, rfl, Row.of_own HO.out, (box_below w _).trans (HB.out.mono (Nat.le_succ _))⟩)
      clear hx ho hb hb1 hoi
      generalize out.length = n0 at HEND
      go_wp2
      go_ret2
      exact HEND.out
end Go.Proofs.YtjeifnhfdbkkdaaGreatDoor.Law26
