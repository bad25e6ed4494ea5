/- Law 30's examples, and what the laws of layer 30 want of the listed variables. -/
import Derived.Test.YtjbfhnkjcfpfpaaDoorHandleWalks
import Derived.Test.YtjbfhnkjcfpfpaaDoorTie
namespace Go.Proofs.YtjbfhnkjcfpfpaaDoor.Law30
set_option maxRecDepth 20000
open Go.ChangeShapes Go.WideShapes Go.ChangeAt Go.RowKit KM WaM Str HaM Lay Fmt HandleLib
open SM (decI)
set_option linter.unusedVariables false
theorem wf_u64 {a : Int} (h : (Lit.int .u64 a).wf = true) : 0 ≤ a ∧ a < 18446744073709551616 := by
  simp [Lit.wf, IntKind.min, IntKind.max, IntKind.signed, IntKind.bits] at h; omega
theorem wf_i64 {a : Int} (h : (Lit.int .i64 a).wf = true) : -9223372036854775808 ≤ a ∧ a ≤ 9223372036854775807 := by
  simp [Lit.wf, IntKind.min, IntKind.max, IntKind.signed, IntKind.bits] at h; omega
/-- The listed variables hold what their initialisers lay. -/
def Held (w : World) : Prop := Tens w ∧ Errs w
theorem Held.later {w w' : World} (h : Held w) (hb : Below w.heap.size w w') : Held w' := ⟨tens_later h.1 hb, h.2.later hb⟩
/-- A listed value of an interface's type. -/
theorem laid_iface {P : Program} {W : World} {name nm : String} {d : DataW Unit} {l : List (String × DataW Unit)} {g : Nat} {t : TypeId} {ms : Array (String × TypeId)}
    (h : laidMetH P l W) (hp : (l.all fun x => x.2.handleName?.isNone) = true) (hm : (name, .iface nm d) ∈ l)
    (hg : P.globalNamed name = some g) (hty : (P.globals[g]?).map (·.type) = some t) (ht : P.underlying t = some (.interface ms)) :
    ∃ tp p, W.var? P name = some #[.iface tp p] := by
  obtain ⟨g', t', cs, fuel, p, hg', ht', hvar, hd⟩ := Frame.laid_at h hp hm
  obtain rfl := Option.some.inj (hg.symm.trans hg')
  obtain rfl := Option.some.inj (hty.symm.trans ht')
  obtain ⟨f1, u, v, e, -, -⟩ := iface_of_trod ht hd
  exact ⟨u, v, by rw [hvar]; congr 1; exact Array.toList_inj.1 e⟩
theorem held_of {W : World} {l : List (String × DataW Unit)} {d1 d2 : DataW Unit} {n1 n2 : String} (h : laidMetH Tryd.prog l W) (hp : (l.all fun x => x.2.handleName?.isNone) = true)
    (h1 : ("internal/strconv.uint64pow10", Lib.tabData .u64 Lib.pow10Tab) ∈ l) (h2 : ("strconv.ErrRange", .iface n1 d1) ∈ l) (h3 : ("strconv.ErrSyntax", .iface n2 d2) ∈ l) : Held W :=
  ⟨Frame.laid_ints h hp h1 (g := 0) (by kernel_rfl) (by kernel_rfl) Tryd.underlying66 Tryd.underlying22 (by kernel_rfl) (by kernel_rfl),
   laid_iface h hp h3 (g := 2) (by kernel_rfl) (by kernel_rfl) Tryd.underlying54, laid_iface h hp h2 (g := 3) (by kernel_rfl) (by kernel_rfl) Tryd.underlying54⟩
theorem ex_parts : parts [51, 46, 50] = some (3, 2) := by
  have h := parts_text (g := 3) (n := 2) (by decide) (by decide)
  rw [dec_small (by decide), dec_small (by decide)] at h
  exact h
theorem ex_text : textH 12884901890 = [51, 46, 50] := by
  show Lib.decDigits 3 ++ 46 :: Lib.decDigits 2 = _
  rw [dec_small (by decide), dec_small (by decide)]
  rfl
theorem awake_any (w : World) (h : Held w) :
    Calls Tryd.prog 12 #[] w fun e w' => e = .returned (.bool true) ∧ Below w.heap.size w w' := by
  have HP := Lib.hid fun w hT hE => Handle.Parse_is (s := [51, 46, 50]) (by decide) w hT hE
  rw [ex_parts, show Handle.parseT (some (3, 2)) = .tuple #[.int .u64 12884901890, .int .i64 0] from rfl] at HP
  have HT := Lib.hid fun w hT => Handle.Text_any (h := 12884901890) (by decide) w hT
  rw [ex_text] at HT
  have HF := Lib.hid fun w => Refer.Of_any 3 2 (by decide) w
  rw [show RM.ofI 3 2 = 12884901892 by decide] at HF
  have HO := Lib.hid fun w => Handle.Of_any (r := 12884901892) (by decide) w
  rw [show handI 12884901892 = 12884901890 by decide] at HO
  have HH := Lib.hid h
  have e1 : (bs [51, 46, 50]).toList = [51, 46, 50] := bs_toList _
  clear h
  go_enter Tryd.func12, Tryd.ntmps12
  go_wp2_with fail
  refine (HP.out _ HH.out.1 HH.out.2).mono ?_
  rintro e w' ⟨rfl, hb⟩
  go_wp2_with fail
  refine (HT.out _ (HH.out.later hb).1).mono ?_
  rintro e w' ⟨rfl, hb2⟩
  go_wp2_with fail
  refine (HF.out _).mono ?_
  rintro e w' ⟨rfl, rfl⟩
  go_wp2_with fail
  refine (HO.out _).mono ?_
  rintro e w' ⟨rfl, rfl⟩
  go_wp2
  go_ret
  exact ⟨rfl, hb.trans (hb2.mono hb.size)⟩
end Go.Proofs.YtjbfhnkjcfpfpaaDoor.Law30
