/- The document's own Digits: the decimal numeral of any number, by its own recursion; what lay in memory ahead stays as it was. -/
import Derived.Test.YtjbfhnkjcfpfpaaDoorFmtUint
import Derived.RegionTactic
import Derived.ChangeAlike
import Derived.Deep.RegionHeld3
import Derived.Test.YtjbfhnkjcfpfpaaDoorLay
import Derived.Lib.ItoaLen
namespace Go.Proofs.YtjbfhnkjcfpfpaaDoor.Digits
set_option maxRecDepth 20000
open Go.ChangeShapes Go.WideShapes Go.RowKit Go.Sort Go.Lib Lay Str

theorem one_byte (c : Nat) (hc : c < 256) (w : World) (a : Addr) (h : w.cell? a = some (.int .u8 c)) (cap : Nat) :
    (convert 48 9 (.slice (some a) 1 cap)).run Tryd.prog w = .ok (.string (bs [UInt8.ofNat c])) w := by
  have := run_convert_bytes_back (P := Tryd.prog) w 48 9 5 a cap [UInt8.ofNat c] Tryd.underlying48 Tryd.underlying5 Tryd.underlying9 (fun j hj => by
    have : j = 0 := by simpa using hj
    subst this
    have e : (UInt8.ofNat c).toNat = c := by simp; omega
    simpa [Addr.add, e] using h)
  exact this

/-- The byte of a number's last digit. -/
def lastB (u : Nat) : UInt8 := UInt8.ofNat (48 + u % 10)
theorem base (u : Nat) (hu : u < 10) (w : World) : Calls Tryd.prog 28 #[.int .u64 u] w fun e w' => e = .returned (.string (bs (Lib.decDigits u))) ∧ Below w.heap.size w w' := by
  have iu : (u : Int) < 10 := by omega
  have hcv := one_byte (48 + u) (by omega) (w.alloc (.cells #[Value.int .u8 (48 + (u : Int))] 5)) ⟨w.heap.size, 0, none⟩ (by rw [World.cell?_alloc_new]; simp) 1
  rw [← Lib.decDigits_one hu] at hcv
  clear hu
  go_enter Tryd.func28, Tryd.ntmps28
  go_wp2
  go_ret
  exact ⟨rfl, (Below.refl _ _).alloc (Nat.le_refl _) _⟩

theorem step (u : Nat) (hu : 10 ≤ u) (hu64 : u < 18446744073709551616)
    (ih : ∀ w, Calls Tryd.prog 28 #[.int .u64 ((u : Int) / 10)] w fun e w' => e = .returned (.string (bs (Lib.decDigits (u / 10)))) ∧ Below w.heap.size w w') (w : World) :
    Calls Tryd.prog 28 #[.int .u64 u] w fun e w' => e = .returned (.string (bs (Lib.decDigits u))) ∧ Below w.heap.size w w' := by
  have iu : ¬ (u : Int) < 10 := by omega
  have hc : ∀ (W : World) (b : Nat), W.cell? ⟨b, 0, none⟩ = some (.int .u8 (48 + (u : Int) % 10)) → (convert 48 9 (.slice (some ⟨b, 0, none⟩) 1 1)).run Tryd.prog W = .ok (.string (bs [lastB u])) W := fun W b h =>
    one_byte (48 + u % 10) (by omega) W ⟨b, 0, none⟩ (by rw [h]; simp) 1
  have hd : Lib.decDigits u = Lib.decDigits (u / 10) ++ [lastB u] := by rw [Lib.decDigits, dif_neg (by omega)]; rfl
  have HD := Lib.hid (show bs (Lib.decDigits (u / 10)) ++ bs [lastB u] = bs (Lib.decDigits u) by rw [hd, bs_append])
  have b0 : 0 ≤ 48 + (u : Int) % 10 := by omega
  have b1 : 48 + (u : Int) % 10 ≤ 57 := by omega
  have r1 : IntKind.u64.wrap ((u : Int) / 10) = (u : Int) / 10 := IntWalk.u64_in _ (by omega)
  have r2 : ((u : Int)).tmod 10 = (u : Int) % 10 := by rw [Int.tmod_eq_emod_of_nonneg (by omega)]
  have r3 : IntKind.u64.wrap (48 + (u : Int) % 10) = 48 + (u : Int) % 10 := IntWalk.u64_in _ (by omega)
  have r4 : IntKind.u8.wrap (48 + (u : Int) % 10) = 48 + (u : Int) % 10 := by rw [IntKind.wrap_u8]; omega
  have hl : (Lib.decDigits (u / 10)).length + [lastB u].length ≤ 9223372036854775807 := by
    have := Lib.nDigits_le20 (u / 10) (by omega)
    rw [Lib.decDigits_length]
    simp
    omega
  have hs := short hl
  clear hd hu hu64 hl
  go_enter Tryd.func28, Tryd.ntmps28
  go_wp2
  go_region_with (first
      | (go_at_call 28; (with_reducible refine (ih _).mono ?_); rintro e w' ⟨rfl, hb⟩; have hcell := reads_as hb))
  all_goals go_wp2
  all_goals go_ret
  all_goals
    refine ⟨ret_ba HD.out, ?_⟩
    first
      | exact ((Below.refl _ _).drew.trans hb).alloc (Nat.le_trans (by simp) hb.size) _
      | exact ((Below.refl _ _).drew.alloc (by simp) _).trans (hb.mono (by simp))

theorem Digits_nat (u : Nat) (hu64 : u < 18446744073709551616) (w : World) :
    Calls Tryd.prog 28 #[.int .u64 u] w fun e w' => e = .returned (.string (bs (Lib.decDigits u))) ∧ Below w.heap.size w w' := by
  induction u using Nat.strongRecOn generalizing w with
  | ind u ih =>
    by_cases h : u < 10
    · exact base u h w
    · exact step u (by omega) hu64 (fun w => by have := ih (u / 10) (by omega) (by omega) w; simpa using this) w
theorem Digits_any (u : Int) (h0 : 0 ≤ u) (h1 : u < 18446744073709551616) (w : World) :
    Calls Tryd.prog 28 #[.int .u64 u] w fun e w' => e = .returned (.string (bs (SM.decI u))) ∧ Below w.heap.size w w' := by
  obtain ⟨u, rfl⟩ := Int.eq_ofNat_of_zero_le h0
  exact Digits_nat u (by omega) w
end Go.Proofs.YtjbfhnkjcfpfpaaDoor.Digits
