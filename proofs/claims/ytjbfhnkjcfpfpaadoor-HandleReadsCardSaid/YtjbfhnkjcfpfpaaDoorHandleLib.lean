/- What package handle calls of Go's library: strings.Cut at a full stop, the digits of a number, and package handle's own number; what lay in memory ahead stays as it was. -/
import Derived.Test.YtjbfhnkjcfpfpaaDoorHandleShelf
import Derived.Test.YtjbfhnkjcfpfpaaDoorHandleCut
import Derived.Test.YtjbfhnkjcfpfpaaDoorFmtUint
import Derived.Test.YtjbfhnkjcfpfpaaDoorFrameLaid
import Derived.Test.YtjbfhnkjcfpfpaaDoorLay
import Derived.Lib.CutLaws
import Derived.Shelf.RegionOpenPlain
import Derived.BigCall
import Derived.BigGuard
import Derived.Deep.Draws
import Derived.Laws.Strings3
import Derived.Lib.Slices
namespace Go.Proofs.YtjbfhnkjcfpfpaaDoor.HandleLib
set_option maxRecDepth 20000
open Go.ChangeShapes Go.WideShapes Go.ChangeAt Go.RowKit Str HaM Lay Fmt
open SM (decI)
set_option linter.unusedVariables false
set_option linter.unusedSimpArgs false
theorem dot : (⟨#[46]⟩ : ByteArray) = bs [46] := rfl
theorem IndexByte_dot (s : List UInt8) (w : World) : Calls Tryd.prog 57 #[.string (bs s), .int .u8 46] w fun e w' => e = .returned (.int .i64 (Lib.index s [46])) ∧ w = w' :=
  (Any.stringslite_IndexByte Tryd.lays217 (bs s) 46 w).mono fun _ _ h => by
    obtain ⟨h, rfl⟩ := h
    refine ⟨?_, rfl⟩
    rw [h, bs_data, Lib.index_one]
    rfl
theorem Index_dot (s : List UInt8) (w : World) : Calls Tryd.prog 49 #[.string (bs s), .string ⟨#[46]⟩] w fun e w' => e = .returned (.int .i64 (Lib.index s [46])) ∧ w = w' := by
  by_cases h : s = [46]
  · have hi : Lib.index s [46] = 0 := by rw [h]; exact Lib.index_self _
    have e1 : ([46] == (bs s).toList) = true := by rw [bs_toList, h]; rfl
    have HI := Lib.hid hi
    clear hi h
    go_enter Tryd.func49, Tryd.ntmps49
    go_wp2
    go_ret
    exact ⟨by rw [HI.out]; rfl, rfl⟩
  · have e1 : ([46] == (bs s).toList) = false := by rw [bs_toList]; simp; exact fun e => h e.symm
    clear h
    go_enter Tryd.func49, Tryd.ntmps49
    go_wp2_with fail
    refine (IndexByte_dot s _).mono ?_
    rintro e w' ⟨rfl, rfl⟩
    go_wp2
    go_ret
    exact ⟨rfl, rfl⟩
/-- A text cut at its first full stop, as Go's library tells it. -/
def cutV (s : List UInt8) : Value := .tuple #[.string (bs (Lib.cut s [46]).1), .string (bs (Lib.cut s [46]).2.1), .bool (Lib.cut s [46]).2.2]
theorem Cut_in (s : List UInt8) (hl : s.length ≤ 10000) (w : World) : Calls Tryd.prog 43 #[.string (bs s), .string ⟨#[46]⟩] w fun e w' => e = .returned (cutV s) ∧ Below w.heap.size w w' := by
  rcases Lib.indexB_cases (bs s) ⟨#[46]⟩ with hix | ⟨i, hix, hroom⟩
  · obtain ⟨e1, e2, e3⟩ := Lib.cutB_miss (bs s) ⟨#[46]⟩ hix
    rw [bs_data] at e1 e2 e3
    have HV := Lib.hid (show cutV s = .tuple #[.string (bs s), .string ByteArray.empty, .bool false] by
      unfold cutV; rw [← e1, ← e2, ← e3]; rfl)
    have hj : Lib.index s [46] = -1 := by have := hix; unfold Lib.indexB at this; rw [bs_data] at this; exact this
    have HI := Lib.hid fun w => Index_dot s w
    rw [hj] at HI
    clear hix e1 e2 e3 hj
    go_enter Tryd.func43, Tryd.ntmps43
    go_wp2_with fail
    refine (HI.out _).mono ?_
    rintro e w' ⟨rfl, rfl⟩
    go_wp2
    go_ret3
    exact ⟨by rw [HV.out]; rfl, Below.refl _ _⟩
  · obtain ⟨e1, e2, e3⟩ := Lib.cutB_hit (bs s) ⟨#[46]⟩ i hix
    rw [bs_data] at e1 e2 e3
    have HV := Lib.hid (show cutV s = .tuple #[.string ((bs s).extract 0 i), .string ((bs s).extract (i + 1) (bs s).size), .bool true] by
      unfold cutV
      rw [show (bs s).extract (i + 1) (bs s).size = (bs s).extract (i + (⟨#[46]⟩ : ByteArray).size) (bs s).size from rfl, ← e1, ← e2, ← e3]; rfl)
    have hj : Lib.index s [46] = (i : Int) := by have := hix; unfold Lib.indexB at this; rw [bs_data] at this; exact this
    have HI := Lib.hid fun w => Index_dot s w
    rw [hj] at HI
    obtain ⟨n, hn⟩ : ∃ n, (bs s).size = n := ⟨_, rfl⟩
    rw [hn] at hroom HV
    have hroom : i + 1 ≤ n := hroom
    have c1 : (0 : Int) ≤ ↑i := by omega
    have c2 : (↑i : Int) ≤ ↑n := by omega
    have c3 : (0 : Int) ≤ ↑i + 1 := by omega
    have c4 : (↑i + 1 : Int) ≤ ↑n := by omega
    have e5 : IntKind.i64.wrap ((i : Int) + 1) = (i : Int) + 1 := IntWalk.i64_in _ (by rw [bs_size] at hn; omega)
    have mixed : Tryd.prog.follows .mixedOrders = true := by kernel_rfl
    clear hix e1 e2 e3 hj hroom
    go_enter Tryd.func43, Tryd.ntmps43
    go_wp2_with fail
    refine (HI.out _).mono ?_
    rintro e w' ⟨rfl, rfl⟩
    go_wp2
    go_region_o
    go_wp2
    go_ret3
    exact ⟨by rw [HV.out]; rfl, (Below.refl _ _).drew⟩
theorem Cut_dot (s : List UInt8) (hl : s.length ≤ 10000) (w : World) : Calls Tryd.prog 37 #[.string (bs s), .string ⟨#[46]⟩] w fun e w' => e = .returned (cutV s) ∧ Below w.heap.size w w' := by
  have HC := Lib.hid fun w => Cut_in s hl w
  unfold cutV at HC ⊢
  clear hl
  go_enter Tryd.func37, Tryd.ntmps37
  go_wp2_with fail
  refine (HC.out _).mono ?_
  rintro e w' ⟨rfl, hb⟩
  go_wp2
  go_ret3
  exact ⟨rfl, hb⟩
theorem digits_any (u : Int) (h0 : 0 ≤ u) (h1 : u < 18446744073709551616) (w : World) (hT : Tens w) : Calls Tryd.prog 27 #[.int .u64 u] w fun e w' => e = .returned (.string (bs (decI u))) ∧ Below w.heap.size w w' := by
  have HT := Lib.hid hT
  have H1 := Lib.hid h1
  clear h1 hT
  go_enter Tryd.func27, Tryd.ntmps27
  go_wp2_with fail
  refine (FormatUint_any u h0 H1.out _ HT.out).mono ?_
  rintro e w' ⟨rfl, hb⟩
  go_wp2
  go_ret
  exact ⟨rfl, hb⟩
/-- The library's two errors are values of an interface's type. -/
structure Errs (w : World) : Prop where
  syn : ∃ tp p, w.var? Tryd.prog "strconv.ErrSyntax" = some #[.iface tp p]
  rng : ∃ tp p, w.var? Tryd.prog "strconv.ErrRange" = some #[.iface tp p]
theorem Errs.later {w w' : World} (h : Errs w) (hb : Below w.heap.size w w') : Errs w' := by
  obtain ⟨⟨a, b, h1⟩, ⟨c, d, h2⟩⟩ := h
  exact ⟨⟨a, b, Frame.var_later h1 hb⟩, ⟨c, d, Frame.var_later h2 hb⟩⟩
theorem tens_later {w w' : World} (h : Tens w) (hb : Below w.heap.size w w') : Tens w' := Frame.tab_later h hb
/-- A number that is one. -/
theorem parse_ok {s : List UInt8} {n : Nat} (hl : s.length ≤ 10) (h : Lib.parseUintB 32 s = .ok n) (w : World) :
    Calls Tryd.prog 44 #[.string (bs s), .int .i64 10, .int .i64 32] w fun e w' => e = .returned (.tuple #[.int .u64 (n : Int), .nilIface]) ∧ Below w.heap.size w w' :=
  (Any.strconv_ParseUint_10_at32_ok Tryd.laysPu14 (bs s) (by rw [bs_size]; omega) n (by rw [bs_data]; exact h) w).mono fun _ _ h => ⟨h.1, by
    rcases h.2 with h | h
    · rw [h]; exact Below.refl _ _
    · rw [h]; exact Lib.bytesWorld_below _ _ _⟩
/-- A number that is none, of whichever error. -/
theorem parse_no {s : List UInt8} (hl : s.length ≤ 10) (h : ∀ n, Lib.parseUintB 32 s ≠ .ok n) (w : World) (hE : Errs w) :
    Calls Tryd.prog 44 #[.string (bs s), .int .i64 10, .int .i64 32] w fun e w' => ∃ (v : Int) (t : TypeId) (p : Value), e = .returned (.tuple #[.int .u64 v, .iface t p]) ∧ Below w.heap.size w w' := by
  obtain ⟨⟨a, b, h1⟩, ⟨c, d, h2⟩⟩ := hE
  cases hp : Lib.parseUintB 32 s
  · exact absurd hp (h _)
  · exact (Any.strconv_ParseUint_10_at32_syntax_var Tryd.laysPu14 (bs s) (by rw [bs_size]; omega) (by rw [bs_data]; exact hp) a b w h1).mono fun _ _ h => by
      obtain ⟨N, h, -, -, hb⟩ := h
      exact ⟨_, _, _, h, hb⟩
  · exact (Any.strconv_ParseUint_10_at32_range_var Tryd.laysPu14 (bs s) (by rw [bs_size]; omega) (by rw [bs_data]; exact hp) c d w h2).mono fun _ _ h => by
      obtain ⟨N, h, -, -, hb⟩ := h
      exact ⟨_, _, _, h, hb⟩
theorem number_any (s : List UInt8) (w : World) (hT : Tens w) (hE : Errs w) :
    Calls Tryd.prog 39 #[.string (bs s)] w fun e w' => ∃ v : Int, e = .returned (.tuple #[.int .u64 v, .bool (numP s).isSome]) ∧ (∀ n, numP s = some n → v = (n : Int)) ∧ Below w.heap.size w w' := by
  obtain ⟨n, hn⟩ : ∃ n, s.length = n := ⟨_, rfl⟩
  have hsz : (bs s).size = n := by rw [bs_size, hn]
  by_cases hl : 10 < n
  · have HN := Lib.hid (num_long (s := s) (by omega))
    have i1 : (10 : Int) < (n : Int) := by omega
    clear hn hl hT hE
    go_enter Tryd.func39, Tryd.ntmps39
    go_wp2
    go_ret2
    exact ⟨0, by rw [HN.out]; rfl, fun m e => (by rw [HN.out] at e; cases e), Below.refl _ _⟩
  · have i1 : ¬ (10 : Int) < (n : Int) := by omega
    have hl' : ¬ 10 < s.length := by omega
    by_cases hp : ∃ m, Lib.parseUintB 32 s = .ok m
    · obtain ⟨m, hp⟩ := hp
      have hm := Lib.parseUintB_le hp
      have hm : m ≤ 4294967295 := by omega
      have HP := Lib.hid fun w => parse_ok (by omega) hp w
      have HT := Lib.hid hT
      have HD := Lib.hid fun w => digits_any (m : Int) (by omega) (by omega) w
      by_cases hd : Lib.decDigits m = s
      · have HN := Lib.hid (num_ok hl' hp hd)
        have e1 : ((bs (decI (m : Int))).toList == (bs s).toList) = true := by rw [bs_toList, bs_toList, show decI (m : Int) = s from hd]; simp
        clear hn hl hl' hT hE hp hm hd
        go_enter Tryd.func39, Tryd.ntmps39
        go_wp2_with fail
        refine (HP.out _).mono ?_
        rintro e w' ⟨rfl, hb⟩
        go_wp2_with fail
        refine (HD.out _ (tens_later HT.out hb)).mono ?_
        rintro e w' ⟨rfl, hb2⟩
        go_wp2
        go_ret2
        exact ⟨m, by rw [HN.out]; rfl, fun k e => (by rw [HN.out] at e; cases e; rfl), hb.trans (hb2.mono hb.size)⟩
      · have HN := Lib.hid (num_off hl' hp hd)
        have e1 : ((bs (decI (m : Int))).toList == (bs s).toList) = false := by rw [bs_toList, bs_toList]; exact beq_eq_false_iff_ne.2 hd
        clear hn hl hl' hT hE hp hm hd
        go_enter Tryd.func39, Tryd.ntmps39
        go_wp2_with fail
        refine (HP.out _).mono ?_
        rintro e w' ⟨rfl, hb⟩
        go_wp2_with fail
        refine (HD.out _ (tens_later HT.out hb)).mono ?_
        rintro e w' ⟨rfl, hb2⟩
        go_wp2
        go_ret2
        exact ⟨m, by rw [HN.out]; rfl, fun k e => (by rw [HN.out] at e; cases e), hb.trans (hb2.mono hb.size)⟩
    · have hp' : ∀ m, Lib.parseUintB 32 s ≠ .ok m := fun m e => hp ⟨m, e⟩
      have HN := Lib.hid (num_no hp')
      have HP := Lib.hid fun w => parse_no (by omega) hp' w
      have HE := Lib.hid hE
      clear hn hl hl' hT hE hp hp'
      go_enter Tryd.func39, Tryd.ntmps39
      go_wp2_with fail
      refine (HP.out _ HE.out).mono ?_
      rintro e w' ⟨v, t, p, rfl, hb⟩
      go_wp2
      go_ret2
      exact ⟨v, by rw [HN.out]; rfl, fun m e => (by rw [HN.out] at e; cases e), hb⟩
end Go.Proofs.YtjbfhnkjcfpfpaaDoor.HandleLib
