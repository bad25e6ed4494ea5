/- LimboOnce: for every list of references, each added in an epoch that rises by the lowest bits of a second list, what is ripe is asked for behind each: a copy has as many slots as the limbo and what was ripe together, each slot is told two epochs later at the earliest, and with what is ripe two epochs behind the last one each slot has been told once, and none is left; and the chapter's example comes out (of more than 100 just that is asked); the arguments read as they did. No condition. -/
import Derived.Test.YtlgoldakbnbbbaaLimboAwake
import Derived.Test.YtlgoldakbnbbbaaFrame
import Derived.Test.YtlgoldakbnbbbaaInts
namespace Go.Proofs.Ytlgoldakbnbbbaa.LimboOnce
set_option maxRecDepth 20000
open Go.ChangeShapes Go.WideShapes Go.ChangeAt Go.RowKit LM Lay Limbo Ints
set_option linter.unusedVariables false
set_option linter.unusedSimpArgs false

/-- Epochs that are, or were, and how many slots. -/
structure Fit (L : Ls) (e : Int) (told k : Nat) : Prop where
  pos : ∀ x ∈ allL L, 0 ≤ x.2
  upto : Upto L e
  one : 1 ≤ e
  few : e ≤ (k : Int) + 1
  len : told + lenL L = k
  small : k ≤ 100
theorem add_mem {L : Ls} {x y : R2} (h : y ∈ allL (addL L x)) : y ∈ allL L ∨ y = x := by
  obtain ⟨k, hk, ek⟩ := rest_of x.2
  rw [addL_is L ek] at h
  match k, hk with
  | 0, _ => simp [allL, putL] at h ⊢; grind
  | 1, _ => simp [allL, putL] at h ⊢; grind
  | 2, _ => simp [allL, putL] at h ⊢; grind
theorem Fit.ripe {L : Ls} {e e2 r : Int} {told k : Nat} (h : Fit L e told k) (hk : k < 100) (he : e2 = e ∨ e2 = e + 1) : Fit (amidL (addL L (r, e)) e2 3) e2 (told + ((allL (addL L (r, e))).filter (ripeB e2)).length) (k + 1) := by
  have h1 := h.one
  have h2 := h.few
  have h3 := h.len
  have hp := parts_len (addL L (r, e)) e2
  rw [lenL_add] at hp
  refine ⟨fun x hx => ?_, upto_amid (upto_more (upto_add h.upto r) (by omega)) e2, by omega, by omega, by omega, by omega⟩
  rw [amidL_all] at hx
  rcases add_mem (List.mem_filter.1 hx).1 with hx | rfl
  · exact h.pos x hx
  · show 0 ≤ e
    omega

/-- The law's limbo in block p. -/
structure At (w : World) (p : Nat) (L : Ls) (wr : World) : Prop where
  lim : ∃ S, Lim wr p S L ∧ ∀ k, S k → w.heap.size ≤ k
  below : Below w.heap.size w wr
section
variable {w wr w1 w2 : World} {p q : Nat} {L L' : Ls}
theorem At.next (h : At w p L wr) (hb : Below wr.heap.size wr w1) : At w p L w1 := by
  obtain ⟨⟨S, h1, h2⟩, h5⟩ := h
  exact ⟨⟨S, h1.later hb, h2⟩, h5.trans (hb.mono h5.size)⟩
theorem At.add (h : At w p L wr) (hm : lenL L ≤ 1000000) {r e : Int} (h0 : 0 ≤ e) : Calls Try.prog 7 #[.pointer (some ⟨p, 0, none⟩), .int .u64 r, .int .u64 e] wr fun e' w' => e' = .returned (.tuple #[]) ∧ At w p (addL L (r, e)) w' := by
  obtain ⟨⟨S, h1, h2⟩, h5⟩ := h
  refine (Add_any h1 hm h0).mono ?_
  rintro e' w' ⟨S', he, l', s', o'⟩
  exact ⟨he, ⟨S', l', fun k hk => (s' k hk).elim (h2 k) (fun h => Nat.le_trans h5.size h)⟩, h5.trans (o'.below h5.size h2)⟩
/-- Two limbos: q is a copy. -/
structure Two (w : World) (p q : Nat) (L L' : Ls) (wr : World) : Prop where
  lim : ∃ S, Lim wr p S L ∧ (∀ k, S k → w.heap.size ≤ k) ∧ ∃ T, Lim wr q T L' ∧ ∀ k, S k → ¬ T k
  below : Below w.heap.size w wr
theorem Two.one (h : Two w p q L L' wr) : At w p L wr := by
  obtain ⟨⟨S, h1, h2, _⟩, h5⟩ := h
  exact ⟨⟨S, h1, h2⟩, h5⟩
def Copied (w : World) (p : Nat) (L : Ls) (e : Ending) (w' : World) : Prop := ∃ q, e = .returned (.pointer (some ⟨q, 0, none⟩)) ∧ Two w p q L L w'
theorem At.copy (h : At w p L wr) (hm : lenL L ≤ 1000000) : Calls Try.prog 14 #[.pointer (some ⟨p, 0, none⟩)] wr (Copied w p L) := by
  obtain ⟨⟨S, h1, h2⟩, h5⟩ := h
  refine (Copy_any h1 hm).mono ?_
  rintro e' w' ⟨q, T, he, l', s', hb⟩
  exact ⟨q, he, ⟨S, h1.later hb, h2, T, l', fun k hk hT => by have := h1.lt k hk; have := s' k hT; omega⟩, h5.trans (hb.mono h5.size)⟩
def Ripened (w : World) (p q : Nat) (L : Ls) (c : Int) (e : Ending) (w' : World) : Prop :=
  ∃ (A' : Option Addr) (n c' : Nat), e = .returned (.slice A' n c') ∧ n = ((allL L).filter (ripeB c)).length ∧ Row w' w'.heap.size A' (flat encR ((allL L).filter (ripeB c))) ∧ Two w p q (amidL L c 3) L w'
theorem Two.ripe (h : Two w p q L L wr) (hm : lenL L ≤ 1000000) {c : Int} (h0 : 0 ≤ c) (h1 : c < 18446744073709551616) : Calls Try.prog 11 #[.pointer (some ⟨p, 0, none⟩), .int .u64 c] wr (Ripened w p q L c) := by
  obtain ⟨⟨S, l1, s1, T, l2, hST⟩, h5⟩ := h
  refine (Ripe_any l1 hm h0 h1).mono ?_
  rintro e w2 ⟨A', n, c', S', he, hn, hr, hf, l3, s3, o3⟩
  refine ⟨A', n, c', he, hn, hr, ⟨S', l3, fun k hk => (s3 k hk).elim (s1 k) (fun h => Nat.le_trans h5.size h), T, l2.only o3 hST, fun k hk hT => ?_⟩, h5.trans (o3.below h5.size s1)⟩
  rcases s3 k hk with h | h
  · exact hST k h hT
  · have := l2.lt k hT
    omega
theorem Two.lens {m : Nat} (h : Two w p q L L' wr) (hm : lenL L' = m) (hmm : m ≤ 1000000) : Calls Try.prog 13 #[.pointer (some ⟨q, 0, none⟩)] wr fun e w' => e = .returned (.int .i64 m) ∧ wr = w' := by
  obtain ⟨⟨S, l1, s1, T, l2, hST⟩, h5⟩ := h
  exact Len_any l2 hm hmm
theorem At.len {m : Nat} (h : At w p L wr) (hm : lenL L = m) (hmm : m ≤ 1000000) : Calls Try.prog 13 #[.pointer (some ⟨p, 0, none⟩)] wr fun e w' => e = .returned (.int .i64 m) ∧ wr = w' := by
  obtain ⟨⟨S, l1, s1⟩, h5⟩ := h
  exact Len_any l1 hm hmm
def RipenedOne (w : World) (p : Nat) (L : Ls) (c : Int) (e : Ending) (w' : World) : Prop :=
  ∃ (A' : Option Addr) (n c' : Nat), e = .returned (.slice A' n c') ∧ n = ((allL L).filter (ripeB c)).length ∧ At w p (amidL L c 3) w'
theorem At.ripe (h : At w p L wr) (hm : lenL L ≤ 1000000) {c : Int} (h0 : 0 ≤ c) (h1 : c < 18446744073709551616) : Calls Try.prog 11 #[.pointer (some ⟨p, 0, none⟩), .int .u64 c] wr (RipenedOne w p L c) := by
  obtain ⟨⟨S, l1, s1⟩, h5⟩ := h
  refine (Ripe_any l1 hm h0 h1).mono ?_
  rintro e w2 ⟨A', n, c', S', he, hn, hr, hf, l3, s3, o3⟩
  exact ⟨A', n, c', he, hn, ⟨S', l3, fun k hk => (s3 k hk).elim (s1 k) (fun h => Nat.le_trans h5.size h)⟩, h5.trans (o3.below h5.size s1)⟩
end

set_option maxHeartbeats 4000000 in
theorem walk (A0 : Option Addr) (l0 : List Int) (c0 : Nat) (A1 : Option Addr) (l1 : List Int) (c1 : Nat) (w : World) (hR0 : Row w w.heap.size A0 (flat (encZ .u64) l0)) (hl0 : l0.length ≤ maxLen) (hw0 : ∀ x ∈ l0, (Lit.int .u64 x).wf = true)
    (hR1 : Row w w.heap.size A1 (flat (encZ .i64) l1)) (hl1 : l1.length ≤ maxLen) (hw1 : ∀ x ∈ l1, (Lit.int .i64 x).wf = true) :
    Calls Try.prog 4 #[.slice A0 l0.length c0, .slice A1 l1.length c1] w fun e w' => e = .returned (.bool true) ∧ Below w.heap.size w w' := by
  obtain ⟨n, hn⟩ : ∃ n, n = l0.length := ⟨_, rfl⟩
  obtain ⟨m, hm⟩ : ∃ m, m = l1.length := ⟨_, rfl⟩
  unfold maxLen at hl0 hl1
  rw [← hn] at hl0 ⊢
  rw [← hm] at hl1 ⊢
  have HN := Lib.hid hn
  have HM := Lib.hid hm
  have HR0 := Lib.hid hR0
  have HR1 := Lib.hid hR1
  have HW := Lib.hid hw1
  clear hn hm hR0 hR1 hw0 hw1
  by_cases hbig : 100 < n
  · go_enter Try.func4, Try.ntmps4
    go_wp2_with fail
    refine (Law15.awake_any _).mono ?_
    rintro e w' ⟨rfl, hb⟩
    go_wp2
    go_ret
    exact ⟨rfl, hb⟩
  · have HF0 := Lib.hid (show Fit noL 1 0 0 from ⟨fun x h => by simp [allL, noL] at h, upto_no 1, by omega, by omega, by simp [lenL, noL], by omega⟩)
    go_enter Try.func4, Try.ntmps4
    go_wp2_with fail
    refine (New_any _).mono ?_
    rintro e w1 ⟨p, S1, rfl, l1', s1, b1⟩
    have HA0 := Lib.hid (show At w p noL w1 from ⟨⟨S1, l1', s1⟩, b1⟩)
    clear l1' s1 b1
    go_wp2
    go_loopw [6, 7, 8] (fun ev tv i wr => ∃ (k told : Nat) (e : Int) (L : Ls), k ≤ n ∧ i = .int .i64 k ∧ ev = .int .u64 e ∧ tv = .int .i64 told ∧ told ≤ k ∧ 1 ≤ e ∧ e ≤ (k : Int) + 1 ∧ Fit L e told k ∧ At w p L wr) (fun _ _ i _ => n - (intOf i).toNat)
    case atStart => exact ⟨0, 0, 1, noL, Nat.zero_le _, rfl, rfl, rfl, Nat.le_refl _, by omega, by omega, HF0.out, HA0.out⟩
    case round =>
      obtain ⟨k, told, e, L, hk, rfl, rfl, rfl, htk, he1, hek, hfit, hat⟩ := hrel
      have HA := Lib.hid hat
      have HFI := Lib.hid hfit
      have HSM := Lib.hid (show lenL L ≤ 1000000 by have := hfit.len; have := hfit.small; omega)
      clear hfit hat
      by_cases hlt : k < n
      · obtain ⟨r, hr⟩ : ∃ r, l0[k]? = some r := ⟨_, List.getElem?_eq_getElem (by rw [← HN.out]; exact hlt)⟩
        obtain ⟨b, o, hA0, _, hc⟩ := int_at (HR0.out.below HA.out.below) (i := k) (by rw [← HN.out]; exact hlt)
        have d0 := hc k r hr
        rw [hA0]
        clear hc hr hA0
        go_wp2_with fail
        refine (HA.out.add HSM.out (by omega)).mono ?_
        rintro e1 w2 ⟨rfl, hat⟩
        have HA2 := Lib.hid hat
        have HSM2 := Lib.hid (show lenL (addL L (r, e)) ≤ 1000000 by rw [lenL_add]; have := HFI.out.len; have := HFI.out.small; omega)
        clear hat d0
        go_wp2_with fail
        refine (HA2.out.copy HSM2.out).mono ?_
        rintro e2 w3 ⟨q, rfl, htwo⟩
        have HT := Lib.hid htwo
        clear htwo
        by_cases hu : k < m
        · obtain ⟨u, hu1⟩ : ∃ u, l1[k]? = some u := ⟨_, List.getElem?_eq_getElem (by rw [← HM.out]; exact hu)⟩
          obtain ⟨b2, o2, hA1, _, hc2⟩ := int_at (HR1.out.below HT.out.below) (i := k) (by rw [← HM.out]; exact hu)
          have g0 := hc2 k u hu1
          rw [hA1]
          have HA1 := Lib.hid hA1
          clear hc2 hu1 hA1
          rcases and_one_any u with hbit | hbit
          · have hw0 : IntKind.u64.wrap 0 = 0 := by decide
            have h20 : (0 : Int) ≤ e := by omega
            have HK2 := Lib.hid (show e < 18446744073709551616 by omega)
            have HFI2 := Lib.hid (HFI.out.ripe (r := r) (e2 := e) (by omega) (.inl rfl))
            go_wp2_with fail
            refine (HT.out.ripe HSM2.out h20 HK2.out).mono ?_
            rintro e3 w4 ⟨A3, n3, d3, rfl, hn3, hr3, ht3⟩
            obtain ⟨y, hy⟩ : ∃ y, lenL (amidL (addL L (r, e)) (e) 3) = y := ⟨_, rfl⟩
            have HY := Lib.hid hy
            have HX := Lib.hid (show lenL (addL L (r, e)) = y + n3 by rw [hn3, ← hy, parts_len])
            have HYN := Lib.hid (show y + n3 ≤ 1000000 by have h := HX.out; have h2 := HSM2.out; omega)
            have hy1 : y ≤ 1000000 := by have h := HYN.out; omega
            have hn31 : n3 ≤ 1000000 := by have h := HYN.out; omega
            have HN3 := Lib.hid hn3
            have HR3 := Lib.hid hr3
            have HT3 := Lib.hid ht3
            have HO3 := Lib.hid ht3.one
            clear hn3 hr3 ht3 hy
            go_wp2_with fail
            refine (HT3.out.lens HX.out HYN.out).mono ?_
            rintro e4 w5 ⟨rfl, rfl⟩
            go_wp2_with fail
            refine (HO3.out.len HY.out hy1).mono ?_
            rintro e5 w5 ⟨rfl, rfl⟩
            go_wp2
            go_loopw [11] (fun j wi => ∃ i : Nat, i ≤ n3 ∧ j = .int .i64 i ∧ w4 = wi) (fun j _ => n3 - (intOf j).toNat)
            case atStart => exact ⟨0, Nat.zero_le _, rfl, rfl⟩
            case round =>
              obtain ⟨i, hi, rfl, rfl⟩ := hrel
              by_cases hil : i < n3
              · obtain ⟨x, hx⟩ : ∃ x, ((allL (addL L (r, e))).filter (ripeB (e)))[i]? = some x := ⟨_, List.getElem?_eq_getElem (by rw [← HN3.out]; exact hil)⟩
                obtain ⟨b3, o3, hA3, _, hc3⟩ := Open.two_at HR3.out (i := i) (by rw [← HN3.out]; exact hil)
                have f1 := (hc3 i x hx).2
                have hxm := List.mem_filter.1 (List.mem_of_getElem? hx)
                have hx2 := (ripe_out hxm.2).2
                have hx0 : 0 ≤ x.2 := (add_mem hxm.1).elim (HFI.out.pos x) (fun h => by rw [h]; show 0 ≤ e; omega)
                rw [hA3]
                have HA3 := Lib.hid hA3
                clear hc3 hx hxm hA3
                go_wp2
                go_roundw
                case rel => exact ⟨i + 1, by omega, by go_num, trivial⟩
                case measure => simp [intOf]; omega
              · obtain rfl : i = n3 := by omega
                have HLN := Lib.hid HFI2.out.len
                have htn : told + i ≤ k + 1 := by have h := HFI2.out.len; rw [← HN3.out] at h; omega
                have HF3 := Lib.hid (show Fit (amidL (addL L (r, e)) (e) 3) (e) (told + i) (k + 1) by rw [HN3.out]; exact HFI2.out)
                go_wp2
                rw [← HA1.out]
                go_roundw
                case rel => exact ⟨k + 1, told + i, e, _, by omega, by go_num, by go_num, by go_num, htn, by omega, by omega, HF3.out, HO3.out⟩
                case measure => simp [intOf]; omega
          · have hw1 : IntKind.u64.wrap 1 = 1 := by decide
            have h20 : (0 : Int) ≤ e + 1 := by omega
            have HK2 := Lib.hid (show e + 1 < 18446744073709551616 by omega)
            have HFI2 := Lib.hid (HFI.out.ripe (r := r) (e2 := e + 1) (by omega) (.inr rfl))
            go_wp2_with fail
            refine (HT.out.ripe HSM2.out h20 HK2.out).mono ?_
            rintro e3 w4 ⟨A3, n3, d3, rfl, hn3, hr3, ht3⟩
            obtain ⟨y, hy⟩ : ∃ y, lenL (amidL (addL L (r, e)) (e + 1) 3) = y := ⟨_, rfl⟩
            have HY := Lib.hid hy
            have HX := Lib.hid (show lenL (addL L (r, e)) = y + n3 by rw [hn3, ← hy, parts_len])
            have HYN := Lib.hid (show y + n3 ≤ 1000000 by have h := HX.out; have h2 := HSM2.out; omega)
            have hy1 : y ≤ 1000000 := by have h := HYN.out; omega
            have hn31 : n3 ≤ 1000000 := by have h := HYN.out; omega
            have HN3 := Lib.hid hn3
            have HR3 := Lib.hid hr3
            have HT3 := Lib.hid ht3
            have HO3 := Lib.hid ht3.one
            clear hn3 hr3 ht3 hy
            go_wp2_with fail
            refine (HT3.out.lens HX.out HYN.out).mono ?_
            rintro e4 w5 ⟨rfl, rfl⟩
            go_wp2_with fail
            refine (HO3.out.len HY.out hy1).mono ?_
            rintro e5 w5 ⟨rfl, rfl⟩
            go_wp2
            go_loopw [11] (fun j wi => ∃ i : Nat, i ≤ n3 ∧ j = .int .i64 i ∧ w4 = wi) (fun j _ => n3 - (intOf j).toNat)
            case atStart => exact ⟨0, Nat.zero_le _, rfl, rfl⟩
            case round =>
              obtain ⟨i, hi, rfl, rfl⟩ := hrel
              by_cases hil : i < n3
              · obtain ⟨x, hx⟩ : ∃ x, ((allL (addL L (r, e))).filter (ripeB (e + 1)))[i]? = some x := ⟨_, List.getElem?_eq_getElem (by rw [← HN3.out]; exact hil)⟩
                obtain ⟨b3, o3, hA3, _, hc3⟩ := Open.two_at HR3.out (i := i) (by rw [← HN3.out]; exact hil)
                have f1 := (hc3 i x hx).2
                have hxm := List.mem_filter.1 (List.mem_of_getElem? hx)
                have hx2 := (ripe_out hxm.2).2
                have hx0 : 0 ≤ x.2 := (add_mem hxm.1).elim (HFI.out.pos x) (fun h => by rw [h]; show 0 ≤ e; omega)
                rw [hA3]
                have HA3 := Lib.hid hA3
                clear hc3 hx hxm hA3
                go_wp2
                go_roundw
                case rel => exact ⟨i + 1, by omega, by go_num, trivial⟩
                case measure => simp [intOf]; omega
              · obtain rfl : i = n3 := by omega
                have HLN := Lib.hid HFI2.out.len
                have htn : told + i ≤ k + 1 := by have h := HFI2.out.len; rw [← HN3.out] at h; omega
                have HF3 := Lib.hid (show Fit (amidL (addL L (r, e)) (e + 1) 3) (e + 1) (told + i) (k + 1) by rw [HN3.out]; exact HFI2.out)
                go_wp2
                rw [← HA1.out]
                go_roundw
                case rel => exact ⟨k + 1, told + i, e + 1, _, by omega, by go_num, by go_num, by go_num, htn, by omega, by omega, HF3.out, HO3.out⟩
                case measure => simp [intOf]; omega
        · -- no more bits
          have h20 : (0 : Int) ≤ e := by omega
          have HK2 := Lib.hid (show e < 18446744073709551616 by omega)
          have HFI2 := Lib.hid (HFI.out.ripe (r := r) (e2 := e) (by omega) (.inl rfl))
          go_wp2_with fail
          refine (HT.out.ripe HSM2.out h20 HK2.out).mono ?_
          rintro e3 w4 ⟨A3, n3, d3, rfl, hn3, hr3, ht3⟩
          obtain ⟨y, hy⟩ : ∃ y, lenL (amidL (addL L (r, e)) (e) 3) = y := ⟨_, rfl⟩
          have HY := Lib.hid hy
          have HX := Lib.hid (show lenL (addL L (r, e)) = y + n3 by rw [hn3, ← hy, parts_len])
          have HYN := Lib.hid (show y + n3 ≤ 1000000 by have h := HX.out; have h2 := HSM2.out; omega)
          have hy1 : y ≤ 1000000 := by have h := HYN.out; omega
          have hn31 : n3 ≤ 1000000 := by have h := HYN.out; omega
          have HN3 := Lib.hid hn3
          have HR3 := Lib.hid hr3
          have HT3 := Lib.hid ht3
          have HO3 := Lib.hid ht3.one
          clear hn3 hr3 ht3 hy
          go_wp2_with fail
          refine (HT3.out.lens HX.out HYN.out).mono ?_
          rintro e4 w5 ⟨rfl, rfl⟩
          go_wp2_with fail
          refine (HO3.out.len HY.out hy1).mono ?_
          rintro e5 w5 ⟨rfl, rfl⟩
          go_wp2
          go_loopw [11] (fun j wi => ∃ i : Nat, i ≤ n3 ∧ j = .int .i64 i ∧ w4 = wi) (fun j _ => n3 - (intOf j).toNat)
          case atStart => exact ⟨0, Nat.zero_le _, rfl, rfl⟩
          case round =>
            obtain ⟨i, hi, rfl, rfl⟩ := hrel
            by_cases hil : i < n3
            · obtain ⟨x, hx⟩ : ∃ x, ((allL (addL L (r, e))).filter (ripeB (e)))[i]? = some x := ⟨_, List.getElem?_eq_getElem (by rw [← HN3.out]; exact hil)⟩
              obtain ⟨b3, o3, hA3, _, hc3⟩ := Open.two_at HR3.out (i := i) (by rw [← HN3.out]; exact hil)
              have f1 := (hc3 i x hx).2
              have hxm := List.mem_filter.1 (List.mem_of_getElem? hx)
              have hx2 := (ripe_out hxm.2).2
              have hx0 : 0 ≤ x.2 := (add_mem hxm.1).elim (HFI.out.pos x) (fun h => by rw [h]; show 0 ≤ e; omega)
              rw [hA3]
              have HA3 := Lib.hid hA3
              clear hc3 hx hxm hA3
              go_wp2
              go_roundw
              case rel => exact ⟨i + 1, by omega, by go_num, trivial⟩
              case measure => simp [intOf]; omega
            · obtain rfl : i = n3 := by omega
              have HLN := Lib.hid HFI2.out.len
              have htn : told + i ≤ k + 1 := by have h := HFI2.out.len; rw [← HN3.out] at h; omega
              have HF3 := Lib.hid (show Fit (amidL (addL L (r, e)) (e) 3) (e) (told + i) (k + 1) by rw [HN3.out]; exact HFI2.out)
              go_wp2
              go_roundw
              case rel => exact ⟨k + 1, told + i, e, _, by omega, by go_num, by go_num, by go_num, htn, by omega, by omega, HF3.out, HO3.out⟩
              case measure => simp [intOf]; omega
      · obtain rfl : k = n := by omega
        have h20 : (0 : Int) ≤ e + 2 := by omega
        have HK2 := Lib.hid (show e + 2 < 18446744073709551616 by omega)
        obtain ⟨hg1, hg2⟩ := upto_gone HFI.out.upto (by omega)
        have HG1 := Lib.hid (show told + ((allL L).filter (ripeB (e + 2))).length = k by rw [hg1, lenL_all]; exact HFI.out.len)
        have HG2 := Lib.hid hg2
        clear hg1 hg2
        go_wp2_with fail
        refine (HA.out.ripe HSM.out h20 HK2.out).mono ?_
        rintro e3 w4 ⟨A3, n3, d3, rfl, hn3, ht3⟩
        have HO3 := Lib.hid ht3
        have hk3 : told + n3 = k := by rw [hn3]; exact HG1.out
        clear hn3 ht3
        subst hk3
        go_wp2_with fail
        refine (HO3.out.len HG2.out (by omega)).mono ?_
        rintro e4 w5 ⟨rfl, rfl⟩
        go_wp2_with fail
        refine (Law15.awake_any _).mono ?_
        rintro e5 w6 ⟨rfl, hb6⟩
        go_wp2
        go_ret
        exact ⟨rfl, HO3.out.below.trans (hb6.mono HO3.out.below.size)⟩
theorem laidOut : laidOutB Try.prog = true := by kernel_rfl
theorem own : ownKnob Try.prog.godebug = none := by kernel_rfl
theorem lifted (os : Os) (started : os.Started) (H : Type) (enc : TypeId × Value → H) :
    ReturnsInHanded {} Try.checked os 4 .any (Rows.limboOnceSpec.pre6 enc Try.prog Try.f4 Rows.limboOnceRow.domain false) (Rows.limboOnceSpec.post enc Try.prog Try.f4 false true false false) := by
  refine Frame.lifted (C := Try.checked) (fn := Try.f4) (tb := 4) own started (by kernel_rfl) Try.func4
    (ChangeSpec.witness6 (enc := enc) (C := Try.checked) false ⟨#[], #[.slice none 0 0, .slice none 0 0], []⟩ 8 (by kernel_rfl) (by kernel_rfl) (by kernel_rfl) (by kernel_rfl))
    rfl rfl Try.underlying4 laidOut (by kernel_rfl) (fun ds h => by match ds, h with | [_, _], _ => rfl) ?_
  intro W base args ds ps hval0 hA0 hlt
  have hval : ∀ (j : Nat) t v, Try.f4.params[j]? = some t → args[j]? = some v → Value.okWide Try.prog W .any base t v := hval0
  have hA : DataW.TrodAll enc Try.prog W 0 (fun _ => true) true Try.f4.params.toList args.toList ds ps := hA0
  rw [Try.params4] at hA hval
  obtain ⟨v0, vs0, d0, ds0, p0, q0, hargs, rfl, rfl, h0, r0⟩ := trodAll_cons hA
  obtain ⟨v1, vs1, d1, ds1, p1, q1, rfl, rfl, rfl, h1, r1⟩ := trodAll_cons r0
  obtain ⟨rfl, rfl, rfl⟩ := trodAll_nil r1
  obtain rfl : args = #[v0, v1] := by cases args; simp_all
  obtain ⟨A0, x0, c0, rfl, b0, m0, R0, g0⟩ := Open.open_rows (k := 1) (Ints.encZ .u64) (fun x => (Lit.int .u64 x).wf = true) Try.underlying41 (by kernel_rfl) (by decide) (Ints.encZ_length _) (fun n cs y h hl => Ints.one_int Try.underlying27 n cs y h hl) (hval 0 41 v0 rfl rfl) h0
  obtain ⟨A1, x1, c1, rfl, b1, m1, R1, g1⟩ := Open.open_rows (k := 1) (Ints.encZ .i64) (fun x => (Lit.int .i64 x).wf = true) Try.underlying42 (by kernel_rfl) (by decide) (Ints.encZ_length _) (fun n cs y h hl => Ints.one_int Try.underlying3 n cs y h hl) (hval 1 42 v1 rfl rfl) h1
  refine (walk A0 x0 c0 A1 x1 c1 W R0 (Nat.le_trans b0 m0) g0 R1 (Nat.le_trans b1 m1) g1).mono fun e W' h => ?_
  exact h

theorem over : Rows.limboOnceRow.holds Try.pinned (OpenSpec.ofChange Rows.limboOnceSpec) :=
  OpenClaim.holds_of_wide 4 Try.f4 rfl rfl rfl rfl rfl rfl rfl ⟨rfl, rfl, rfl, rfl, rfl⟩ rfl rfl rfl rfl rfl (by kernel_rfl) Try.func4 (by kernel_rfl)
    (of_decide_eq_true (by kernel_rfl)) (by unfold Func.isWrapper; first | (rw [if_pos (by decide +kernel)]; kernel_rfl) | (rw [if_neg (by decide +kernel)]; exact ⟨rfl, rfl⟩))
    (fun os started H enc _ => lifted os started H enc)

theorem proved : Rows.LimboOnceSaid := over
#print axioms proved
end Go.Proofs.Ytlgoldakbnbbbaa.LimboOnce
