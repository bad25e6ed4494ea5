/- The document's own reading of handles (package sundialref30): the number that stands from a place of a text on. -/
import Derived.Test.YtjbfhnkjcfpfpaaDoorHandleMath
import Derived.Test.YtjbfhnkjcfpfpaaDoorRows
import Derived.Test.YtjbfhnkjcfpfpaaDoorStr
import Derived.WalkMore
import Derived.WalkKit
import Derived.ProofKit
import Derived.Lib.Hide
namespace Go.Proofs.YtjbfhnkjcfpfpaaDoor.Ref30
set_option maxRecDepth 20000
open Go.RowKit Str HaM
set_option linter.unusedVariables false
set_option linter.unusedSimpArgs false
theorem at_run {s : List UInt8} {k : Nat} {b : UInt8} (h : s[k]? = some b) (W : World) : (Instr.index 9 (.string (bs s)) (.int .i64 (k : Int))).run Tryd.prog W = .ok (.int .u8 (b.toNat : Int)) W := by
  obtain ⟨hk, hb⟩ := List.getElem?_eq_some_iff.1 h
  have hs : ((k : Int)).toNat < (bs s).size := by rw [bs_size]; omega
  rw [run_index_string (h := Tryd.underlying9), dif_pos ⟨by omega, by omega⟩]
  exact congrArg (fun x : UInt8 => Result.ok (Value.int .u8 (x.toNat : Int)) W) hb
def halfV (a : Nat) : Option (Nat × Nat) → Value
  | none => .tuple #[.int .u64 0, .int .i64 (-1)]
  | some (m, k) => .tuple #[.int .u64 (m : Int), .int .i64 ((a : Int) + (k : Int))]
theorem ends_drop {s : List UInt8} {q : Nat} (h : ∀ b, s[q]? = some b → isD b = false) : HaM.Ends (s.drop q) := fun b t e => h b (by
  have : (s.drop q)[0]? = some b := by rw [e]; rfl
  simpa using this)
theorem head_drop {s : List UInt8} {a : Nat} {b : UInt8} (h : s[a]? = some b) : headZ (s.drop a) = decide (b.toNat = 48) := by
  obtain ⟨hk, hb⟩ := List.getElem?_eq_some_iff.1 h
  rw [List.drop_eq_getElem_cons hk, hb]
  rfl
theorem drop_at {s : List UInt8} {q : Nat} {b : UInt8} (h : s[q]? = some b) : s.drop q = b :: s.drop (q + 1) := by
  obtain ⟨hk, hb⟩ := List.getElem?_eq_some_iff.1 h
  rw [List.drop_eq_getElem_cons hk, hb]
set_option maxHeartbeats 1000000 in
theorem half_any {s : List UInt8} {a : Nat} (hl : s.length ≤ 10000) (ha : a ≤ s.length) (w : World) :
    Calls Tryd.prog 30 #[.string (bs s), .int .i64 (a : Int)] w fun e w' => e = .returned (halfV a (half (s.drop a))) ∧ w = w' := by
  obtain ⟨n, hn⟩ : ∃ n, s.length = n := ⟨_, rfl⟩
  obtain ⟨R, hR⟩ : ∃ R, half (s.drop a) = R := ⟨_, rfl⟩
  obtain ⟨z, hz⟩ : ∃ z, headZ (s.drop a) = z := ⟨_, rfl⟩
  have hsz : (bs s).size = n := by rw [bs_size, hn]
  rw [hn] at hl ha
  rw [hR]
  have H0 := Lib.hid (show go z 0 0 (s.drop a) = R by rw [← hz]; exact hR)
  have HN := Lib.hid hn
  have HZ := Lib.hid hz
  clear hn hR hz
  go_enter Tryd.func30, Tryd.ntmps30
  go_wp2
  go_loopw [6, 7] (fun mv qv wr => ∃ m q : Nat, mv = .int .u64 (m : Int) ∧ qv = .int .i64 (q : Int) ∧ a ≤ q ∧ q ≤ n ∧ m ≤ 4294967295 ∧ (q = a → m = 0) ∧ Hid (go z (q - a) m (s.drop q) = R) ∧ w = wr)
    (fun _ qv _ => n + 1 - (intOf qv).toNat)
  case atStart => exact ⟨0, a, rfl, rfl, Nat.le_refl _, ha, by decide, fun _ => rfl, by rw [Nat.sub_self]; exact H0, rfl⟩
  case round =>
    obtain ⟨m, q, rfl, rfl, haq, hqn, hm, hm0, HG, rfl⟩ := hrel
    by_cases hq : q < n
    · obtain ⟨b, hb⟩ : ∃ b, s[q]? = some b := ⟨_, List.getElem?_eq_getElem (by rw [HN.out]; exact hq)⟩
      have hx := fun W => at_run hb W
      have hc := b.toNat_lt
      have HB := Lib.hid hb
      obtain ⟨c, hcb⟩ : ∃ c, b.toNat = c := ⟨_, rfl⟩
      rw [hcb] at hc
      simp only [hcb] at hx
      have HC := Lib.hid hcb
      clear hb hcb
      have hg : R = go z (q - a) m (b :: s.drop (q + 1)) := by rw [← drop_at HB.out]; exact HG.out.symm
      by_cases hd : 48 ≤ c ∧ c ≤ 57
      · have hD : isD b = true := decide_eq_true (by rw [HC.out]; exact hd)
        have i1 : (48 : Int) ≤ (c : Int) := by omega
        have i2 : (c : Int) ≤ 57 := by omega
        have i3 : (q : Int) < (n : Int) := by omega
        by_cases hov : 4294967295 < 10 * m + (c - 48)
        · have HR := Lib.hid (show R = none by rw [hg, go_bad hD (.inl (by rw [HC.out]; exact hov))])
          have i4 : (4294967295 : Int) < 10 * (m : Int) + ((c : Int) - 48) := by omega
          clear hg hD hov hd hm0
          go_wp2
          go_ret2
          exact ⟨by rw [HR.out]; rfl, rfl⟩
        · obtain ⟨m', hm'⟩ : ∃ m', 10 * m + (c - 48) = m' := ⟨_, rfl⟩
          have hm2 : m' ≤ 4294967295 := by omega
          have i4 : ¬ (4294967295 : Int) < 10 * (m : Int) + ((c : Int) - 48) := by omega
          by_cases hqa : q = a
          · have HR := Lib.hid (show go z (q + 1 - a) m' (s.drop (q + 1)) = R by
              rw [hg, go_more hD (by rw [HC.out]; intro e; rcases e with e | ⟨e, -⟩ <;> omega), HC.out, hm', show q - a + 1 = q + 1 - a by omega])
            have i5 : ¬ (a : Int) + 1 < (q : Int) + 1 := by omega
            have HM := Lib.hid hm'
            have i6 : a ≤ q + 1 := by omega
            clear hg hD hov hd hm0 hm' hqa
            go_wp2
            go_roundw
            case rel => exact ⟨m', q + 1, by rw [← HM.out]; congr 1; omega, by congr 1, i6, by omega, hm2, fun e => by omega, HR, trivial⟩
            case measure => simp [intOf]; omega
          · obtain ⟨b0, hb0⟩ : ∃ b, s[a]? = some b := ⟨_, List.getElem?_eq_getElem (by rw [HN.out]; omega)⟩
            have hx0 := fun W => at_run hb0 W
            have hz0 : z = decide (b0.toNat = 48) := by rw [← HZ.out]; exact head_drop hb0
            have i5 : (a : Int) + 1 < (q : Int) + 1 := by omega
            by_cases h48 : b0.toNat = 48
            · have HR := Lib.hid (show R = none by rw [hg, go_bad hD (.inr ⟨by omega, by rw [hz0, h48]; rfl⟩)])
              rw [h48] at hx0
              clear hg hD hov hd hm0 hm' hqa hb0 hz0 h48
              go_wp2
              go_ret2
              exact ⟨by rw [HR.out]; rfl, rfl⟩
            · have HR := Lib.hid (show go z (q + 1 - a) m' (s.drop (q + 1)) = R by
                rw [hg, go_more hD (by rw [HC.out]; intro e; rcases e with e | ⟨-, e⟩; omega; rw [hz0] at e; exact h48 (of_decide_eq_true e)), HC.out, hm', show q - a + 1 = q + 1 - a by omega])
              have i7 : ((b0.toNat : Int) == 48) = false := by simp; omega
              have HM := Lib.hid hm'
              have i6 : a ≤ q + 1 := by omega
              obtain ⟨c0, hc0⟩ : ∃ c : Int, (b0.toNat : Int) = c := ⟨_, rfl⟩
              rw [hc0] at i7
              simp only [hc0] at hx0
              clear hg hD hov hd hm0 hm' hb0 hz0 h48 hc0
              go_wp2
              go_roundw
              case rel => exact ⟨m', q + 1, by rw [← HM.out]; congr 1; omega, by congr 1, i6, by omega, hm2, fun e => by omega, HR, trivial⟩
              case measure => simp [intOf]; omega
      · have hE : HaM.Ends (b :: s.drop (q + 1)) := fun b' t e => by
          cases e
          exact decide_eq_false (by rw [HC.out]; exact hd)
        have i3 : (q : Int) < (n : Int) := by omega
        by_cases hqa : q = a
        · have HR := Lib.hid (show R = none by rw [hg, show q - a = 0 by omega, go_none hE])
          have i5 : ((q : Int) == (a : Int)) = true := by simp; omega
          clear hg hm0 hE
          by_cases h1 : 48 ≤ c
          · have i1 : (48 : Int) ≤ (c : Int) := by omega
            have i2 : ¬ (c : Int) ≤ 57 := by omega
            clear hd
            subst hqa
            go_wp2
            go_ret2
            exact ⟨by rw [HR.out]; rfl, rfl⟩
          · have i1 : ¬ (48 : Int) ≤ (c : Int) := by omega
            clear hd
            subst hqa
            go_wp2
            go_ret2
            exact ⟨by rw [HR.out]; rfl, rfl⟩
        · have HR := Lib.hid (show R = some (m, q - a) by rw [hg, go_end hE (by omega)])
          have i5 : ((q : Int) == (a : Int)) = false := by simp; omega
          have HV := Lib.hid (show halfV a R = .tuple #[.int .u64 (m : Int), .int .i64 (q : Int)] by rw [HR.out]; show Value.tuple #[.int .u64 (m : Int), .int .i64 ((a : Int) + ((q - a : Nat) : Int))] = _; rw [show (a : Int) + ((q - a : Nat) : Int) = (q : Int) by omega])
          clear hg hm0 hE hqa
          by_cases h1 : 48 ≤ c
          · have i1 : (48 : Int) ≤ (c : Int) := by omega
            have i2 : ¬ (c : Int) ≤ 57 := by omega
            clear hd
            go_wp2
            go_ret2
            exact ⟨by rw [HV.out]; rfl, rfl⟩
          · have i1 : ¬ (48 : Int) ≤ (c : Int) := by omega
            clear hd
            go_wp2
            go_ret2
            exact ⟨by rw [HV.out]; rfl, rfl⟩
    · have hE : s.drop q = [] := List.drop_eq_nil_of_le (by rw [HN.out]; omega)
      have i3 : ¬ (q : Int) < (n : Int) := by omega
      have hg : R = go z (q - a) m [] := by rw [← hE]; exact HG.out.symm
      by_cases hqa : q = a
      · have HR := Lib.hid (show R = none by rw [hg, show q - a = 0 by omega, go_none nil_ends])
        clear hg hm0 hE
        subst hqa
        go_wp2
        go_ret2
        exact ⟨by rw [HR.out]; rfl, rfl⟩
      · have HR := Lib.hid (show R = some (m, q - a) by rw [hg, go_end nil_ends (by omega)])
        have i5 : ((q : Int) == (a : Int)) = false := by simp; omega
        have HV := Lib.hid (show halfV a R = .tuple #[.int .u64 (m : Int), .int .i64 (q : Int)] by rw [HR.out]; show Value.tuple #[.int .u64 (m : Int), .int .i64 ((a : Int) + ((q - a : Nat) : Int))] = _; rw [show (a : Int) + ((q - a : Nat) : Int) = (q : Int) by omega])
        clear hg hm0 hE hqa
        go_wp2
        go_ret2
        exact ⟨by rw [HV.out]; rfl, rfl⟩
end Go.Proofs.YtjbfhnkjcfpfpaaDoor.Ref30
