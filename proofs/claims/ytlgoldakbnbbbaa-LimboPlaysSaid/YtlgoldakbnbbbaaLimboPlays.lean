/- LimboPlays: for every list of slots that are added, or taken where they are ripe in an epoch, a limbo has, one behind the other, just those that the document's one list has, tells as many, a copy has the same, and what is ripe is told as the document tells it; a nil limbo has none, and its copy is nil; and the chapter's example comes out (of more than 200 just that is asked); the argument reads as it did. No condition. -/
import Derived.Test.YtlgoldakbnbbbaaLimboAwake
import Derived.Test.YtlgoldakbnbbbaaFrame
import Derived.Deep.RegionHeld3
namespace Go.Proofs.Ytlgoldakbnbbbaa.LimboPlays
set_option maxRecDepth 20000
open Go.ChangeShapes Go.WideShapes Go.ChangeAt Go.RowKit LM Lay Limbo
set_option linter.unusedVariables false
set_option linter.unusedSimpArgs false

/-- Lists such as there can be, of k slots at most. -/
structure Fit (L : Ls) (k : Nat) : Prop where
  right : Right L
  pos : ∀ x ∈ allL L, 0 ≤ x.2
  len : lenL L ≤ k
  few : k ≤ 1000000
theorem Fit.small {L : Ls} {k : Nat} (h : Fit L k) : lenL L ≤ 1000000 := Nat.le_trans h.len h.few
theorem all_mem {L : Ls} {i : Nat} (hi : i < 3) {x : R2} (h : x ∈ L i) : x ∈ allL L := by
  unfold allL
  match i, hi with
  | 0, _ => simp [h]
  | 1, _ => simp [h]
  | 2, _ => simp [h]
theorem mem_all {L : Ls} {x : R2} (h : x ∈ allL L) : ∃ i, i < 3 ∧ x ∈ L i := by
  unfold allL at h
  rcases List.mem_append.1 h with h | h
  · exact ⟨0, by omega, h⟩
  · rcases List.mem_append.1 h with h | h
    · exact ⟨1, by omega, h⟩
    · exact ⟨2, by omega, h⟩
theorem Fit.add {L : Ls} {k : Nat} (h : Fit L k) {x : R2} (hx : 0 ≤ x.2) (hk : k < 1000000) : Fit (addL L x) (k + 1) := by
  refine ⟨right_add h.right x, fun y hy => ?_, by rw [lenL_add]; have := h.len; omega, by omega⟩
  obtain ⟨i, hi, hy⟩ := mem_all hy
  obtain ⟨j, hj, e⟩ := rest_of x.2
  rw [addL_is L e] at hy
  by_cases hij : i = j
  · subst hij
    rw [putL_same] at hy
    rcases List.mem_append.1 hy with hy | hy
    · exact h.pos y (all_mem hi hy)
    · obtain rfl : y = x := by simpa using hy
      exact hx
  · rw [putL_other _ _ hij] at hy
    exact h.pos y (all_mem hi hy)
theorem Fit.take {L : Ls} {k : Nat} (h : Fit L k) (c : Int) (hk : k < 1000000) : Fit (amidL L c 3) (k + 1) :=
  ⟨right_amid h.right c 3, fun y hy => by rw [amidL_all] at hy; exact h.pos y (List.mem_filter.1 hy).1, by have := amidL_len L c 3; have := h.len; omega, by omega⟩

/-- The law's limbo in block p, and its own list F of the same slots. -/
structure At (w : World) (p : Nat) (L : Ls) (F : Option Addr) (wr : World) : Prop where
  lim : ∃ S, Lim wr p S L ∧ (∀ k, S k → w.heap.size ≤ k) ∧ ∀ x, F = some x → ¬ S x.block
  row : Row wr wr.heap.size F (flat encR (allL L))
  below : Below w.heap.size w wr
theorem cell_both {w wr w1 : World} {B : Nat} {a : Addr} {v : Value} (h0 : Below B w wr) (h1 : Below B w w1) (ha : a.block < B) (hc : wr.cell? a = some v) : w1.cell? a = some v := (h1.cell ha).trans ((h0.cell ha).symm.trans hc)
section
variable {w wr w1 w2 : World} {p : Nat} {L : Ls} {F : Option Addr}
theorem At.next (h : At w p L F wr) (hb : Below wr.heap.size wr w1) : At w p L F w1 := by
  obtain ⟨⟨S, h1, h2, h3⟩, h4, h5⟩ := h
  exact ⟨⟨S, h1.later hb, h2, h3⟩, h4.later hb, h5.trans (hb.mono h5.size)⟩
theorem At.all (h : At w p L F wr) (hm : lenL L ≤ 1000000) : Calls Try.prog 12 #[.pointer (some ⟨p, 0, none⟩)] wr (Listed wr (allL L)) := by
  obtain ⟨⟨S, h1, _⟩, _⟩ := h
  exact All_any h1 hm
theorem At.len {a : Nat} (h : At w p L F wr) (ha : a = (allL L).length) (hm : lenL L ≤ 1000000) : Calls Try.prog 13 #[.pointer (some ⟨p, 0, none⟩)] wr fun e w' => e = .returned (.int .i64 a) ∧ wr = w' := by
  obtain ⟨⟨S, h1, _⟩, _⟩ := h
  exact Len_any h1 (by rw [ha, lenL_all]) (by rw [ha, lenL_all]; exact hm)
theorem At.copy (h : At w p L F wr) (hm : lenL L ≤ 1000000) : Calls Try.prog 14 #[.pointer (some ⟨p, 0, none⟩)] wr (Made wr L) := by
  obtain ⟨⟨S, h1, _⟩, _⟩ := h
  exact Copy_any h1 hm
/-- What the limbo does to the law's world: the list F is as it was; the argument is, too. -/
def Added (w : World) (p : Nat) (L : Ls) (F : Option Addr) (l : List R2) (wr w1 : World) : Prop :=
  (∃ S, Lim w1 p S L ∧ (∀ k, S k → w.heap.size ≤ k) ∧ ∀ k, S k → k < w1.heap.size) ∧ Row w1 w1.heap.size F (flat encR l) ∧ Below w.heap.size w w1
theorem At.add (h : At w p L F wr) (hm : lenL L ≤ 1000000) {r e : Int} (h0 : 0 ≤ e) : Calls Try.prog 7 #[.pointer (some ⟨p, 0, none⟩), .int .u64 r, .int .u64 e] wr fun e' w' => e' = .returned (.tuple #[]) ∧ Added w p (addL L (r, e)) F (allL L) wr w' := by
  obtain ⟨⟨S, h1, h2, h3⟩, h4, h5⟩ := h
  refine (Add_any h1 hm h0).mono ?_
  rintro e' w' ⟨S', he, l', s', o'⟩
  exact ⟨he, ⟨S', l', fun k hk => (s' k hk).elim (h2 k) (fun h => Nat.le_trans h5.size h), l'.lt⟩, o'.row h4 (fun _ => h3), h5.trans (o'.below h5.size h2 |>.mono (Nat.le_refl _))⟩
/-- .. and behind the document's Add. -/
theorem Added.then_ {L' : Ls} {l : List R2} {F' : Option Addr} (h : Added w p L' F l wr w1) (hb : Below w1.heap.size w1 w2) (hr : Row w2 w2.heap.size F' (flat encR (allL L'))) (hf : ∀ a, F' = some a → w1.heap.size ≤ a.block ∧ a.block < w2.heap.size) : At w p L' F' w2 := by
  obtain ⟨⟨S, h1, h2, h3⟩, h4, h5⟩ := h
  refine ⟨⟨S, h1.later hb, h2, fun x hx hS => ?_⟩, hr, h5.trans (hb.mono h5.size)⟩
  have := h3 _ hS
  have := (hf x hx).1
  omega
/-- Behind the document's Take: the limbo tells what is ripe, and has what stays. -/
def Taken (w : World) (p : Nat) (L : Ls) (c : Int) (F1 F2 : Option Addr) (e : Ending) (w' : World) : Prop :=
  ∃ (A' : Option Addr) (n c' : Nat), e = .returned (.slice A' n c') ∧ n = ((allL L).filter (ripeB c)).length ∧ Row w' w'.heap.size A' (flat encR ((allL L).filter (ripeB c))) ∧ Row w' w'.heap.size F1 (flat encR ((allL L).filter (ripeB c))) ∧ At w p (amidL L c 3) F2 w'
theorem At.take (h : At w p L F wr) (hm : lenL L ≤ 1000000) {c : Int} (h0 : 0 ≤ c) (h1 : c < 18446744073709551616) {F1 F2 : Option Addr} (hb : Below wr.heap.size wr w1) (r1 : Row w1 w1.heap.size F1 (flat encR ((allL L).filter (ripeB c)))) (r2 : Row w1 w1.heap.size F2 (flat encR ((allL L).filter (fun x => !ripeB c x))))
    (f1 : ∀ a, F1 = some a → wr.heap.size ≤ a.block ∧ a.block < w1.heap.size) (f2 : ∀ a, F2 = some a → wr.heap.size ≤ a.block ∧ a.block < w1.heap.size) :
    Calls Try.prog 11 #[.pointer (some ⟨p, 0, none⟩), .int .u64 c] w1 (Taken w p L c F1 F2) := by
  obtain ⟨⟨S, l1, s1, _⟩, _, hw⟩ := h
  have hw1 := hw.trans (hb.mono hw.size)
  refine (Ripe_any (l1.later hb) hm h0 h1).mono ?_
  rintro e w2 ⟨A', n, c', S', he, hn, hr, hf, l2, s2, o2⟩
  have hne : ∀ a : Addr, wr.heap.size ≤ a.block → ¬ S a.block := fun a ha hS => by have := l1.lt _ hS; omega
  refine ⟨A', n, c', he, hn, hr, o2.row r1 (fun _ a ha => hne a (f1 a ha).1), ⟨S', l2, fun k hk => (s2 k hk).elim (s1 k) (fun h => Nat.le_trans hw1.size h), fun x hx hS => ?_⟩, by rw [amidL_all]; exact o2.row r2 (fun _ a ha => hne a (f2 a ha).1), hw1.trans (o2.below hw1.size s1)⟩
  rcases s2 _ hS with h | h
  · exact hne x (f2 x hx).1 h
  · have := (f2 x hx).2
    omega
end

set_option maxHeartbeats 4000000 in
theorem walk (A : Option Addr) (l : List (Int × Int × Bool)) (c : Nat) (w : World) (hR : Row w w.heap.size A (flat (Open.enc2b .u64 .u64) l)) (hl : l.length ≤ maxLen) (hw : ∀ x ∈ l, (Lit.int .u64 x.1).wf = true ∧ (Lit.int .u64 x.2.1).wf = true) :
    Calls Try.prog 3 #[.slice A l.length c] w fun e w' => e = .returned (.bool true) ∧ Below w.heap.size w w' := by
  obtain ⟨n, hn⟩ : ∃ n, n = l.length := ⟨_, rfl⟩
  unfold maxLen at hl
  rw [← hn] at hl ⊢
  have HN := Lib.hid hn
  have HR := Lib.hid hR
  have HW := Lib.hid hw
  clear hn hR hw
  by_cases hbig : 200 < n
  · go_enter Try.func3, Try.ntmps3
    go_wp2_with fail
    refine (Law15.awake_any _).mono ?_
    rintro e w' ⟨rfl, hb⟩
    go_wp2
    go_ret
    exact ⟨rfl, hb⟩
  · have HF0 := Lib.hid (show Fit noL 0 from ⟨right_no, fun x h => by simp [allL, noL] at h, by simp [lenL, noL], by omega⟩)
    go_enter Try.func3, Try.ntmps3
    go_wp2_with fail
    refine (New_any _).mono ?_
    rintro e w1 ⟨p, S1, rfl, l1, s1, b1⟩
    have HA0 := Lib.hid (show At w p noL none w1 from ⟨⟨S1, l1, s1, fun x h => by cases h⟩, Row.none_, b1⟩)
    clear l1 s1 b1
    go_wp2
    go_loopw [4, 5] (fun v i wr => ∃ (k a fc : Nat) (F : Option Addr) (L : Ls), k ≤ n ∧ i = .int .i64 k ∧ v = .slice F a fc ∧ a = (allL L).length ∧ a ≤ fc ∧ Fit L k ∧ At w p L F wr) (fun _ i _ => n - (intOf i).toNat)
    case atStart => exact ⟨0, 0, 0, none, noL, Nat.zero_le _, rfl, rfl, rfl, Nat.le_refl _, HF0.out, HA0.out⟩
    case round =>
      obtain ⟨k, a, fc, F, L, hk, rfl, rfl, ha, hac, hfit, hat⟩ := hrel
      have HA := Lib.hid hat
      have HAL := Lib.hid ha
      have HFI := Lib.hid hfit
      clear ha hfit hat
      by_cases hlt : k < n
      · obtain ⟨x, hx⟩ : ∃ x, l[k]? = some x := ⟨_, List.getElem?_eq_getElem (by rw [← HN.out]; exact hlt)⟩
        have hwx := HW.out x (List.mem_of_getElem? hx)
        obtain ⟨b, o, rfl, hbl, hc⟩ := Open.two_bool_at (HR.out.below HA.out.below) (i := k) (by rw [← HN.out]; exact hlt)
        obtain ⟨c0, c1, c2⟩ := hc k x hx
        obtain ⟨r, e, t⟩ := x
        simp only at c0 c1 c2 hwx
        have he0 := (Law15.wf_u64 hwx.2).1
        have HE1 := Lib.hid (Law15.wf_u64 hwx.2).2
        have HK := Lib.hid (show k < 1000000 by omega)
        have HBL := Lib.hid hbl
        clear hc hx hwx hbl
        cases t with
        | false =>
          have HSMA := Lib.hid (show a ≤ 1000000 by rw [HAL.out, lenL_all]; exact HFI.out.small)
          go_wp2
          go_region_held3 (fun W => W.cell? ⟨b, o + k * 3, none⟩ = some (.int .u64 r) ∧ W.cell? ⟨b, o + k * 3 + 1, none⟩ = some (.int .u64 e))
            ((first | (with_reducible assumption) | exact ⟨c0, c1⟩ | exact ⟨f0, f1⟩))
            ((go_at_call 7; refine ((HA.out.next ((Below.refl _ _).drew)).add HFI.out.small he0).mono ?_; rintro e1 w2 ⟨rfl, hadd⟩; have HD := Lib.hid hadd; have f0 := cell_both HA.out.below hadd.2.2 HBL.out c0; have f1 := cell_both HA.out.below hadd.2.2 HBL.out c1; clear hadd))
          go_wp2_with fail
          refine (LimboRef.Add_any HD.out.2.1 HAL.out hac HSMA.out he0 HFI.out.pos).mono ?_
          rintro e2 w3 ⟨a2, hbh, A2, n2, d2, rfl, hn2, hd2, hr2, hf2, hb2⟩
          rw [HAL.out] at hbh
          rw [behind_all HFI.out.right (x := (r, e)) hbh] at hn2 hr2
          have HAT := Lib.hid (HD.out.then_ hb2 hr2 hf2)
          have HFT := Lib.hid (HFI.out.add (x := (r, e)) he0 HK.out)
          have HAN := Lib.hid hn2
          clear hbh hn2 hr2 hf2 hb2 c0 c1 c2 f0 f1
          go_wp2_with fail
          refine (HAT.out.all HFT.out.small).mono ?_
          rintro e5 w5 ⟨A5, n5, d5, rfl, hn5, hc5, hr5, hf5, hb5⟩
          have HAT2 := Lib.hid (HAT.out.next hb5)
          have HN5 := Lib.hid hn5
          have HR5 := Lib.hid hr5
          have HSM := Lib.hid (show n5 ≤ 1000000 by rw [hn5, lenL_all]; exact HFT.out.small)
          clear hn5 hc5 hr5 hf5 hb5
          go_wp2_with fail
          refine (LimboRef.Same_yes HN5.out HAN.out HR5.out HAT2.out.row HSM.out).mono ?_
          rintro e6 w6 ⟨rfl, hb6⟩
          have HAT3 := Lib.hid (HAT2.out.next hb6)
          clear hb6
          go_wp2_with fail
          refine (HAT3.out.len HAN.out HFT.out.small).mono ?_
          rintro e7 w7 ⟨rfl, rfl⟩
          go_wp2_with fail
          refine (HAT3.out.copy HFT.out.small).mono ?_
          rintro e8 w8 ⟨q, S4, rfl, l4, s4, b4⟩
          have HAT4 := Lib.hid (HAT3.out.next b4)
          have HL4 := Lib.hid l4
          clear l4 s4 b4
          go_wp2_with fail
          refine (All_any HL4.out HFT.out.small).mono ?_
          rintro e9 w9 ⟨A9, n9, d9, rfl, hn9, hc9, hr9, hf9, hb9⟩
          have HAT5 := Lib.hid (HAT4.out.next hb9)
          have HN9 := Lib.hid hn9
          have HR9 := Lib.hid hr9
          have HSM9 := Lib.hid (show n9 ≤ 1000000 by rw [hn9, lenL_all]; exact HFT.out.small)
          clear hn9 hc9 hr9 hf9 hb9
          go_wp2_with fail
          refine (LimboRef.Same_yes HN9.out HAN.out HR9.out HAT5.out.row HSM9.out).mono ?_
          rintro e10 w10 ⟨rfl, hb10⟩
          have HAT6 := Lib.hid (HAT5.out.next hb10)
          clear hb10
          go_wp2
          go_roundw
          case rel => exact ⟨k + 1, n2, d2, A2, _, by omega, by go_num, rfl, HAN.out, hd2, HFT.out, HAT6.out⟩
          case measure => simp [intOf]; omega
        | true =>
          have HSMA := Lib.hid (show a ≤ 1000000 by rw [HAL.out, lenL_all]; exact HFI.out.small)
          go_wp2_with fail
          refine (LimboRef.Take_any HA.out.row HAL.out HSMA.out he0 HE1.out).mono ?_
          rintro e1 w2 ⟨A1, n1, d1, A2, n2, d2, rfl, hL1, hL2⟩
          obtain ⟨_, _, _, e3, hn1, hd1, hr1, hf1, hb1⟩ := hL1
          cases e3
          obtain ⟨_, _, _, e3, hn2, hd2, hr2, hf2, hb2⟩ := hL2
          cases e3
          have f1 := cell_later hb1 c1
          have HT := Lib.hid (HA.out.take HFI.out.small he0 HE1.out hb1 hr1 hr2 hf1 hf2)
          have HN1 := Lib.hid hn1
          have HAN := Lib.hid (show n2 = (allL (amidL L e 3)).length by rw [amidL_all]; exact hn2)
          clear hn1 hd1 hr1 hf1 hb1 hn2 hr2 hf2 hb2 c0 c1 c2
          go_wp2_with fail
          refine HT.out.mono ?_
          rintro e2 w3 ⟨A3, n3, d3, rfl, hn3, hr3, hr4, hat⟩
          have HSM3 := Lib.hid (show n3 ≤ 1000000 by
            rw [hn3]
            refine Nat.le_trans (List.length_filter_le _ _) ?_
            rw [lenL_all]
            exact HFI.out.small)
          have HN3 := Lib.hid hn3
          have HR3 := Lib.hid hr3
          have HR4 := Lib.hid hr4
          have HAT0 := Lib.hid hat
          clear hn3 hr3 hr4 hat f1
          go_wp2_with fail
          refine (LimboRef.Same_yes HN3.out HN1.out HR3.out HR4.out HSM3.out).mono ?_
          rintro e4 w4 ⟨rfl, hb4⟩
          have HAT := Lib.hid (HAT0.out.next hb4)
          have HFT := Lib.hid (HFI.out.take e HK.out)
          clear hb4
          go_wp2_with fail
          refine (HAT.out.all HFT.out.small).mono ?_
          rintro e5 w5 ⟨A5, n5, d5, rfl, hn5, hc5, hr5, hf5, hb5⟩
          have HAT2 := Lib.hid (HAT.out.next hb5)
          have HN5 := Lib.hid hn5
          have HR5 := Lib.hid hr5
          have HSM := Lib.hid (show n5 ≤ 1000000 by rw [hn5, lenL_all]; exact HFT.out.small)
          clear hn5 hc5 hr5 hf5 hb5
          go_wp2_with fail
          refine (LimboRef.Same_yes HN5.out HAN.out HR5.out HAT2.out.row HSM.out).mono ?_
          rintro e6 w6 ⟨rfl, hb6⟩
          have HAT3 := Lib.hid (HAT2.out.next hb6)
          clear hb6
          go_wp2_with fail
          refine (HAT3.out.len HAN.out HFT.out.small).mono ?_
          rintro e7 w7 ⟨rfl, rfl⟩
          go_wp2_with fail
          refine (HAT3.out.copy HFT.out.small).mono ?_
          rintro e8 w8 ⟨q, S4, rfl, l4, s4, b4⟩
          have HAT4 := Lib.hid (HAT3.out.next b4)
          have HL4 := Lib.hid l4
          clear l4 s4 b4
          go_wp2_with fail
          refine (All_any HL4.out HFT.out.small).mono ?_
          rintro e9 w9 ⟨A9, n9, d9, rfl, hn9, hc9, hr9, hf9, hb9⟩
          have HAT5 := Lib.hid (HAT4.out.next hb9)
          have HN9 := Lib.hid hn9
          have HR9 := Lib.hid hr9
          have HSM9 := Lib.hid (show n9 ≤ 1000000 by rw [hn9, lenL_all]; exact HFT.out.small)
          clear hn9 hc9 hr9 hf9 hb9
          go_wp2_with fail
          refine (LimboRef.Same_yes HN9.out HAN.out HR9.out HAT5.out.row HSM9.out).mono ?_
          rintro e10 w10 ⟨rfl, hb10⟩
          have HAT6 := Lib.hid (HAT5.out.next hb10)
          clear hb10
          go_wp2
          go_roundw
          case rel => exact ⟨k + 1, n2, d2, A2, _, by omega, by go_num, rfl, HAN.out, hd2, HFT.out, HAT6.out⟩
          case measure => simp [intOf]; omega
      · obtain rfl : k = n := by omega
        go_wp2_with fail
        refine (Add_nil _ _ _).mono ?_
        rintro e w2 ⟨rfl, rfl⟩
        go_wp2_with fail
        refine (Len_nil _).mono ?_
        rintro e w2 ⟨rfl, rfl⟩
        go_wp2_with fail
        refine (All_nil _).mono ?_
        rintro e w2 ⟨rfl, rfl⟩
        go_wp2_with fail
        refine (Ripe_nil _ _).mono ?_
        rintro e w2 ⟨rfl, rfl⟩
        go_wp2_with fail
        refine (Copy_nil _).mono ?_
        rintro e w2 ⟨rfl, rfl⟩
        go_wp2_with fail
        refine (Law15.awake_any _).mono ?_
        rintro e w2 ⟨rfl, hb⟩
        go_wp2
        go_ret
        exact ⟨rfl, HA.out.below.trans (hb.mono HA.out.below.size)⟩
theorem laidOut : laidOutB Try.prog = true := by kernel_rfl
theorem own : ownKnob Try.prog.godebug = none := by kernel_rfl
theorem lifted (os : Os) (started : os.Started) (H : Type) (enc : TypeId × Value → H) :
    ReturnsInHanded {} Try.checked os 3 .any (Rows.limboPlaysSpec.pre6 enc Try.prog Try.f3 Rows.limboPlaysRow.domain false) (Rows.limboPlaysSpec.post enc Try.prog Try.f3 false true false false) := by
  refine Frame.lifted (C := Try.checked) (fn := Try.f3) (tb := 4) own started (by kernel_rfl) Try.func3
    (ChangeSpec.witness6 (enc := enc) (C := Try.checked) false ⟨#[], #[.slice none 0 0], []⟩ 8 (by kernel_rfl) (by kernel_rfl) (by kernel_rfl) (by kernel_rfl))
    rfl rfl Try.underlying4 laidOut (by kernel_rfl) (fun ds h => by match ds, h with | [_], _ => rfl) ?_
  intro W base args ds ps hval0 hA0 hlt
  have hval : ∀ (j : Nat) t v, Try.f3.params[j]? = some t → args[j]? = some v → Value.okWide Try.prog W .any base t v := hval0
  have hA : DataW.TrodAll enc Try.prog W 0 (fun _ => true) true Try.f3.params.toList args.toList ds ps := hA0
  rw [Try.params3] at hA hval
  obtain ⟨v0, vs0, d0, ds0, p0, q0, hargs, rfl, rfl, h0, r0⟩ := trodAll_cons hA
  obtain ⟨rfl, rfl, rfl⟩ := trodAll_nil r0
  obtain rfl : args = #[v0] := by cases args; simp_all
  obtain ⟨A0, x0, c0, rfl, b0, m0, R0, g0⟩ := Open.open_rows (k := 3) (Open.enc2b .u64 .u64) (fun x => (Lit.int .u64 x.1).wf = true ∧ (Lit.int .u64 x.2.1).wf = true) Try.underlying22 (by kernel_rfl) (by decide) (Open.enc2b_length .u64 .u64) (fun n cs y h hl => Open.two_bool Try.underlying31 rfl rfl (by kernel_rfl) (by kernel_rfl) Try.underlying29 (by kernel_rfl) Try.underlying27 Try.underlying27 Try.underlying4 n cs y h hl) (hval 0 22 v0 rfl rfl) h0
  refine (walk A0 x0 c0 W R0 (Nat.le_trans b0 m0) g0).mono fun e W' h => ?_
  exact h

theorem over : Rows.limboPlaysRow.holds Try.pinned (OpenSpec.ofChange Rows.limboPlaysSpec) :=
  OpenClaim.holds_of_wide 3 Try.f3 rfl rfl rfl rfl rfl rfl rfl ⟨rfl, rfl, rfl, rfl, rfl⟩ rfl rfl rfl rfl rfl (by kernel_rfl) Try.func3 (by kernel_rfl)
    (of_decide_eq_true (by kernel_rfl)) (by unfold Func.isWrapper; first | (rw [if_pos (by decide +kernel)]; kernel_rfl) | (rw [if_neg (by decide +kernel)]; exact ⟨rfl, rfl⟩))
    (fun os started H enc _ => lifted os started H enc)

theorem proved : Rows.LimboPlaysSaid := over
#print axioms proved
end Go.Proofs.Ytlgoldakbnbbbaa.LimboPlays
