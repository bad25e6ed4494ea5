import Derived.Test.YtlagghghbpbcbaaGreatDoorStartComesAllP20
import Derived.Deep.DeepCutAuto
/- What a seeker becomes when it is told a word. -/
namespace Go.Proofs.YtlagghghbpbcbaaGreatDoor.Seek
set_option maxRecDepth 20000
open Go.ChangeShapes Go.WideShapes Go.RowKit CM DM PM KM Lay Ints Plan Go.Proofs.YtlagghghbpbcbaaGreatDoor.Task
set_option linter.unusedVariables false
set_option linter.unusedSimpArgs false

set_option maxHeartbeats 1000000 in
theorem find_any {w : World} {p c1 c2 : Nat} {S : Nat → Prop} {T N L G dl sq st lv pr cu nx : Int} {ps ss : List Int} {A1 A2 : Option Addr} (h : Parts w p S T N L G dl sq ⟨st, lv, pr, cu, nx, ps, ss⟩ A1 c1 A2 c2) (hm : lv ≤ 9223372036854775807) (hp : ps.length ≤ 1000000) (he : ss.length = ps.length) (x : Int) :
    Calls Tryz.prog 214 #[.pointer (some ⟨p, 0, none⟩), .int .u64 x] w (Turned w p S T N L G dl sq (find lv pr cu nx ps ss x)) := by
  obtain ⟨-, -, -, -, -, -, e6, e7, e8, -, -, e11, e12⟩ := h.cells
  simp only at e6 e7 e8 e11 e12
  obtain ⟨n, hn⟩ : ∃ n, n = ps.length := ⟨_, rfl⟩
  have hn2 := hn.trans he.symm
  rw [← hn] at e11 hp
  rw [← hn2] at e12
  have ho1 := h.o1
  simp only at ho1
  rw [← hn] at ho1
  have HO1 := Lib.hid ho1
  have HN := Lib.hid (And.intro hn (And.intro hn2 he))
  have HP := Lib.hid h
  have HA1 := Lib.hid (fun (W0 w3 : World) (g2 cap : Nat) (hB : Below w.heap.size w W0) (hg : W0.grownBy w3 (Value.slice A1 n c1).ownBlock) (ho : w3.ownsRow 0 22 1 (.slice (some ⟨g2, 0, none⟩) (n + 1) cap) (n + 1) (flat (encZ .u64) ps ++ encZ .u64 pr)) hor hlt => h.put_ps hB (only_grown hg fun k e => e) hn ho hor hlt)
  obtain ⟨i0, hi0, hz0, hz1, hz2⟩ := info_parts info_u64
  have K11 := fun o => cell_later (box_below w o) e11
  have HL := Lib.hid hm
  clear h hn hn2 ho1 he
  go_enter Tryz.func214, Tryz.ntmps214
  go_wp2
  go_cut [] (fun wx => ∃ S1 B1 d1, Parts wx p S1 T N L G dl sq ⟨st, lv, pr, cu, nx, ps ++ [pr], ss⟩ B1 d1 A2 c2 ∧ Only S w wx ∧ ∀ k, S1 k → S k ∨ (w.heap.size ≤ k ∧ k < wx.heap.size))
  case first =>
    go_region_law (refine step_append_lies _ rfl (.tmp 8) (.tmp 13) 30 rfl 0 22 i0 _ 1 8 Tryz.underlying30 hi0 hz0 hz1 hz2 rfl (by decide) _ n _ rfl (own_later HO1.out (((Below.refl _ _).alloc (Nat.le_refl _) _).drew)) ⟨w.heap.size, 0, none⟩ 1 1 (encZ .u64 pr) rfl rfl (cells_new _ _ _) (encZ_one _ _) (by decide) (by simp only [maxLen]; omega) (by omega) (Nat.zero_le _) _ rfl ?_; intro g2 cap w3 ho2 hg2 hor2 hlt2; obtain ⟨k1, S1, k2, k3, k4⟩ := HA1.out _ _ _ _ (((Below.refl _ _).alloc (Nat.le_refl _) _).drew) hg2 ho2 hor2 hlt2; have f11 := (k1 11).2; have d11 := (k1 11).1.trans e11; have HP1 := Lib.hid k2; have HO2 := Lib.hid k3; have HS1 := Lib.hid k4; clear k1 k2 k3 k4 ho2 hg2 hor2 hlt2)
    all_goals go_wp2_with fail
    all_goals go_meet
    all_goals (case rel => exact ⟨_, _, _, HP1.out, HO2.out, fun k e => (HS1.out k e).imp id fun z => ⟨z.1, Nat.lt_of_lt_of_le z.2 (by simp [World.setCell])⟩⟩)
  case rest =>
    obtain ⟨S1, B1, d1, hp1, hon1, hs1⟩ := hcut
    obtain ⟨-, -, -, -, -, -, g6, g7, g8, -, -, g11, g12⟩ := hp1.cells
    simp only at g6 g7 g8 g11 g12
    rw [← HN.out.2.1] at g12
    have ho2 := hp1.o2
    simp only at ho2
    rw [← HN.out.2.1] at ho2
    have HO2 := Lib.hid ho2
    have HA2 := Lib.hid (fun (W0 w3 : World) (g2 cap : Nat) (hB : Below wc.heap.size wc W0) (hg : Only (fun k => (Value.slice A2 n c2).ownBlock = some k) W0 w3) (ho : w3.ownsRow 0 22 1 (.slice (some ⟨g2, 0, none⟩) (n + 1) cap) (n + 1) (flat (encZ .u64) ss ++ encZ .u64 x)) hor hlt => hp1.put_ss hB hg HN.out.2.1 ho hor hlt)
    have HO3 := Lib.hid (And.intro hon1 hs1)
    clear ho2 hp1 hon1 hs1 e6 e7 e8 e11 e12 K11
    go_wp2_with (at_builtin; refine wpList_append_only _ rfl (.tmp 21) (.tmp 23) 30 rfl 0 22 i0 _ 1 8 Tryz.underlying30 hi0 hz0 hz1 hz2 rfl (by decide) _ n _ rfl (HO2.out.alloc _) ⟨wc.heap.size, 0, none⟩ 1 1 (encZ .u64 x) rfl (by decide) rfl (cells_new _ _ _) (encZ_one _ _) (by simp only [maxLen]; omega) (by omega) (Nat.zero_le _) ?_; intro g2 cap w3 ho3 hg3 hlt3 hor3 hon3; obtain ⟨k1, S2, k2, k3, k4⟩ := HA2.out _ _ _ _ ((Below.refl _ _).alloc (Nat.le_refl _) _) hon3 ho3 hor3 hlt3; have f12 := (k1 12).2; have d12 := (k1 12).1.trans g12; have HP2 := Lib.hid k2; have HO4 := Lib.hid k3; have HS2 := Lib.hid k4; clear k1 k2 k3 k4 ho3 hg3 hor3 hlt3 hon3)
    refine (descend_any HP2.out HL.out).mono ?_
    rintro e w4 ⟨rfl, h4, o4⟩
    have HE := Lib.hid (show Turned w p S T N L G dl sq (find lv pr cu nx ps ss x) (.returned (.tuple #[])) w4 from ((turned_one h4 o4).behind HO4.out fun k e => (HS2.out k e).imp id fun z => ⟨z.1, Nat.lt_of_lt_of_le z.2 (by simp [World.setCell])⟩).behind HO3.out.1 HO3.out.2)
    clear h4 o4
    go_wp2
    refine bodyPost_end (results_none rfl _ _ _) rfl ?_
    exact HE.out
theorem reach_any {w : World} {p c1 c2 : Nat} {S : Nat → Prop} {T N L G dl sq st lv pr cu nx : Int} {ps ss : List Int} {A1 A2 : Option Addr} (h : Parts w p S T N L G dl sq ⟨st, lv, pr, cu, nx, ps, ss⟩ A1 c1 A2 c2) (hm : lv ≤ 9223372036854775807) (hp : ps.length ≤ 1000000) (he : ss.length = ps.length) {r : Int} (hr : 0 ≤ r ∧ r < 18446744073709551616) :
    Calls Tryz.prog 208 #[.pointer (some ⟨p, 0, none⟩), .int .u64 r] w (Turned w p S T N L G dl sq (reach lv pr cu nx ps ss r)) := by
  have HN := Lib.hid fun W => Refer.None_any r hr.1 hr.2 W
  by_cases h0 : idx r = 0
  · rw [reach_none h0]
    have HF := Lib.hid (find_any h hm hp he 0)
    unfold idx at h0
    rw [decide_eq_true h0] at HN
    clear h h0 hr
    go_enter Tryz.func208, Tryz.ntmps208
    go_wp2_with fail
    refine (HN.out _).mono ?_
    rintro e w' ⟨rfl, rfl⟩
    go_wp2_with fail
    refine HF.out.mono ?_
    rintro e w1 h1
    have H1 := Lib.hid h1
    obtain ⟨rfl, -⟩ := h1
    go_wp2
    exact bodyPost_ret (v := .tuple #[]) (results_none rfl _ _ _) rfl H1.out
  · rw [reach_some h0]
    have HT := Lib.hid (turned_one ((h.set_cu r).set_st 2) ((only_set w p 9 (.int .u64 r)).trans (only_set _ p 6 (.int .i64 2))))
    obtain ⟨-, -, -, -, -, -, e6, -, -, e9, -⟩ := h.cells
    have f9 := h.thawed 9
    have f6 := fun v => (h.set_cu v).thawed 6
    simp only at e6 e9
    unfold idx at h0
    rw [decide_eq_false h0] at HN
    clear h h0 hr
    go_enter Tryz.func208, Tryz.ntmps208
    go_wp2_with fail
    refine (HN.out _).mono ?_
    rintro e w' ⟨rfl, rfl⟩
    go_wp2
    exact bodyPost_end (results_none rfl _ _ _) rfl HT.out
theorem pass_any {w : World} {p c1 c2 : Nat} {S : Nat → Prop} {T N L G dl sq st lv pr cu nx : Int} {ps ss : List Int} {A1 A2 : Option Addr} (h : Parts w p S T N L G dl sq ⟨st, lv, pr, cu, nx, ps, ss⟩ A1 c1 A2 c2) (hm : lv ≤ 9223372036854775807) (hp : ps.length ≤ 1000000) (he : ss.length = ps.length) (hn : 0 ≤ nx ∧ nx < 18446744073709551616) (b : Bool) :
    Calls Tryz.prog 210 #[.pointer (some ⟨p, 0, none⟩), .bool b] w (Turned w p S T N L G dl sq (pass lv pr cu nx ps ss b)) := by
  obtain ⟨-, -, -, -, -, -, -, -, e8, e9, e10, -⟩ := h.cells
  simp only at e8 e9 e10
  cases b with
  | false =>
    rw [pass_no]
    have HF := Lib.hid (find_any h hm hp he cu)
    clear h hn
    go_enter Tryz.func210, Tryz.ntmps210
    go_wp2_with fail
    refine HF.out.mono ?_
    rintro e w1 h1
    have H1 := Lib.hid h1
    obtain ⟨rfl, -⟩ := h1
    go_wp2
    exact bodyPost_ret (v := .tuple #[]) (results_none rfl _ _ _) rfl H1.out
  | true =>
    rw [pass_yes]
    have f8 := h.thawed 8
    have HR := Lib.hid (reach_any (h.set_pr cu) hm hp he hn)
    have HM := Lib.hid h.mem
    clear h hn
    go_enter Tryz.func210, Tryz.ntmps210
    go_wp2_with fail
    refine HR.out.mono ?_
    rintro e w1 h1
    have H1 := Lib.hid (h1.behind ((only_set w p 8 (.int .u64 cu)).wide (R' := S) fun k e => .inl (by rw [e]; exact HM.out)) fun k e => .inl e)
    obtain ⟨rfl, -⟩ := h1
    go_wp2
    exact bodyPost_end (results_none rfl _ _ _) rfl H1.out

theorem tell_0 {w : World} {p c1 c2 : Nat} {S : Nat → Prop} {T N L G dl sq lv pr cu nx f : Int} {ps ss : List Int} {A1 A2 : Option Addr} (h : Parts w p S T N L G dl sq ⟨0, lv, pr, cu, nx, ps, ss⟩ A1 c1 A2 c2) : Calls Tryz.prog 201 #[.pointer (some ⟨p, 0, none⟩), .int .u64 f] w (Turned w p S T N L G dl sq ⟨0, lv, pr, cu, nx, ps, ss⟩) := by
  obtain ⟨-, -, -, -, -, -, e6, -⟩ := h.cells
  simp only at e6
  have H := Lib.hid (turned_one h (Only.refl _ _))
  clear h
  go_enter Tryz.func201, Tryz.ntmps201
  go_wp2
  exact bodyPost_end (results_none rfl _ _ _) rfl H.out
theorem tell_1m {w : World} {p c1 c2 : Nat} {S : Nat → Prop} {T N L G dl sq lv pr cu nx f : Int} {ps ss : List Int} {A1 A2 : Option Addr} (h : Parts w p S T N L G dl sq ⟨1, lv, pr, cu, nx, ps, ss⟩ A1 c1 A2 c2) (hL : L ≤ 9223372036854775807) (hf : 0 ≤ f ∧ f < 18446744073709551616) (h0 : f % 2 = 1) : Calls Tryz.prog 201 #[.pointer (some ⟨p, 0, none⟩), .int .u64 f] w (Turned w p S T N L G dl sq (anew L cu nx)) := by
  obtain ⟨-, -, -, -, -, -, e6, -⟩ := h.cells
  simp only at e6
  have HM := Lib.hid fun W => Refer.Marked_any f hf.1 hf.2 W
  rw [decide_eq_true h0] at HM
  have H := Lib.hid (begin_any h hL)
  clear h h0 hf
  go_enter Tryz.func201, Tryz.ntmps201
  go_wp2_with fail
  go_wp2_with fail
  refine (HM.out _).mono ?_
  rintro e w' ⟨rfl, rfl⟩
  go_wp2_with fail
  refine H.out.mono ?_
  rintro e w1 ⟨rfl, h1, h2⟩
  have H1 := Lib.hid (turned_one h1 h2)
  clear h1 h2
  go_wp2
  exact bodyPost_ret (v := .tuple #[]) (results_none rfl _ _ _) rfl H1.out
theorem tell_1 {w : World} {p c1 c2 : Nat} {S : Nat → Prop} {T N L G dl sq lv pr cu nx f : Int} {ps ss : List Int} {A1 A2 : Option Addr} (h : Parts w p S T N L G dl sq ⟨1, lv, pr, cu, nx, ps, ss⟩ A1 c1 A2 c2) (hm : lv ≤ 9223372036854775807) (hp : ps.length ≤ 1000000) (he : ss.length = ps.length) (hf : 0 ≤ f ∧ f < 18446744073709551616) (h0 : ¬ f % 2 = 1) : Calls Tryz.prog 201 #[.pointer (some ⟨p, 0, none⟩), .int .u64 f] w (Turned w p S T N L G dl sq (reach lv pr cu nx ps ss f)) := by
  obtain ⟨-, -, -, -, -, -, e6, -⟩ := h.cells
  simp only at e6
  have HM := Lib.hid fun W => Refer.Marked_any f hf.1 hf.2 W
  rw [decide_eq_false h0] at HM
  have H := Lib.hid (reach_any h hm hp he hf)
  clear h h0 hf
  go_enter Tryz.func201, Tryz.ntmps201
  go_wp2_with fail
  go_wp2_with fail
  refine (HM.out _).mono ?_
  rintro e w' ⟨rfl, rfl⟩
  go_wp2_with fail
  refine H.out.mono ?_
  rintro e w1 h1
  have H1 := Lib.hid h1
  obtain ⟨rfl, -⟩ := h1
  go_wp2
  exact bodyPost_end (results_none rfl _ _ _) rfl H1.out
theorem tell_2m {w : World} {p c1 c2 : Nat} {S : Nat → Prop} {T N L G dl sq lv pr cu nx f : Int} {ps ss : List Int} {A1 A2 : Option Addr} (h : Parts w p S T N L G dl sq ⟨2, lv, pr, cu, nx, ps, ss⟩ A1 c1 A2 c2) (hf : 0 ≤ f ∧ f < 18446744073709551616) (h0 : f % 2 = 1) : Calls Tryz.prog 201 #[.pointer (some ⟨p, 0, none⟩), .int .u64 f] w (Turned w p S T N L G dl sq ⟨3, lv, pr, cu, f - f % 2, ps, ss⟩) := by
  obtain ⟨-, -, -, -, -, -, e6, -, -, -, e10, -⟩ := h.cells
  simp only at e6 e10
  have f10 := h.thawed 10
  have g6 := fun v => (h.set_nx v).thawed 6
  have k6 := fun v u => ((h.set_nx v).set_st u).thawed 6
  have H := Lib.hid (turned_one (((h.set_nx (f - f % 2)).set_st 4).set_st 3) (((only_set w p 10 (.int .u64 (f - f % 2))).trans (only_set _ p 6 (.int .i64 4))).trans (only_set _ p 6 (.int .i64 3))))
  have HM := Lib.hid fun W => Refer.Marked_any f hf.1 hf.2 W
  rw [decide_eq_true h0] at HM
  have HP := Lib.hid fun W => Refer.Plain_any f hf.1 hf.2 W
  generalize f - f % 2 = y at H HP ⊢
  clear h h0 hf
  go_enter Tryz.func201, Tryz.ntmps201
  go_wp2_with fail
  go_wp2_with fail
  refine (HP.out _).mono ?_
  rintro e w' ⟨rfl, rfl⟩
  go_wp2_with fail
  go_wp2_with fail
  refine (HM.out _).mono ?_
  rintro e w' ⟨rfl, rfl⟩
  go_wp2
  exact bodyPost_end (results_none rfl _ _ _) rfl H.out
theorem tell_2 {w : World} {p c1 c2 : Nat} {S : Nat → Prop} {T N L G dl sq lv pr cu nx f : Int} {ps ss : List Int} {A1 A2 : Option Addr} (h : Parts w p S T N L G dl sq ⟨2, lv, pr, cu, nx, ps, ss⟩ A1 c1 A2 c2) (hf : 0 ≤ f ∧ f < 18446744073709551616) (h0 : ¬ f % 2 = 1) : Calls Tryz.prog 201 #[.pointer (some ⟨p, 0, none⟩), .int .u64 f] w (Turned w p S T N L G dl sq ⟨4, lv, pr, cu, f - f % 2, ps, ss⟩) := by
  obtain ⟨-, -, -, -, -, -, e6, -, -, -, e10, -⟩ := h.cells
  simp only at e6 e10
  have f10 := h.thawed 10
  have g6 := fun v => (h.set_nx v).thawed 6
  have H := Lib.hid (turned_one ((h.set_nx (f - f % 2)).set_st 4) ((only_set w p 10 (.int .u64 (f - f % 2))).trans (only_set _ p 6 (.int .i64 4))))
  have HM := Lib.hid fun W => Refer.Marked_any f hf.1 hf.2 W
  rw [decide_eq_false h0] at HM
  have HP := Lib.hid fun W => Refer.Plain_any f hf.1 hf.2 W
  generalize f - f % 2 = y at H HP ⊢
  clear h h0 hf
  go_enter Tryz.func201, Tryz.ntmps201
  go_wp2_with fail
  go_wp2_with fail
  refine (HP.out _).mono ?_
  rintro e w' ⟨rfl, rfl⟩
  go_wp2_with fail
  go_wp2_with fail
  refine (HM.out _).mono ?_
  rintro e w' ⟨rfl, rfl⟩
  go_wp2
  exact bodyPost_end (results_none rfl _ _ _) rfl H.out
theorem tell_3 {w : World} {p c1 c2 : Nat} {S : Nat → Prop} {T N L G dl sq lv pr cu nx f : Int} {ps ss : List Int} {A1 A2 : Option Addr} (h : Parts w p S T N L G dl sq ⟨3, lv, pr, cu, nx, ps, ss⟩ A1 c1 A2 c2) (hm : lv ≤ 9223372036854775807) (hp : ps.length ≤ 1000000) (he : ss.length = ps.length) (hn : 0 ≤ nx ∧ nx < 18446744073709551616) (h0 : f = cu) : Calls Tryz.prog 201 #[.pointer (some ⟨p, 0, none⟩), .int .u64 f] w (Turned w p S T N L G dl sq (reach lv pr cu nx ps ss nx)) := by
  subst h0
  obtain ⟨-, -, -, -, -, -, e6, -, -, e9, e10, -⟩ := h.cells
  simp only at e6 e9 e10
  have H := Lib.hid (reach_any h hm hp he hn)
  have hq : (f != f) = false := by simp
  clear h hn
  go_enter Tryz.func201, Tryz.ntmps201
  go_wp2_with fail
  refine H.out.mono ?_
  rintro e w1 h1
  have H1 := Lib.hid h1
  obtain ⟨rfl, -⟩ := h1
  go_wp2
  exact bodyPost_end (results_none rfl _ _ _) rfl H1.out
theorem tell_3n {w : World} {p c1 c2 : Nat} {S : Nat → Prop} {T N L G dl sq lv pr cu nx f : Int} {ps ss : List Int} {A1 A2 : Option Addr} (h : Parts w p S T N L G dl sq ⟨3, lv, pr, cu, nx, ps, ss⟩ A1 c1 A2 c2) (hL : L ≤ 9223372036854775807) (h0 : ¬ f = cu) : Calls Tryz.prog 201 #[.pointer (some ⟨p, 0, none⟩), .int .u64 f] w (Turned w p S T N L G dl sq (anew L cu nx)) := by
  obtain ⟨-, -, -, -, -, -, e6, -, -, e9, -⟩ := h.cells
  simp only at e6 e9
  have H := Lib.hid (begin_any h hL)
  have hq : (f != cu) = true := by simpa using h0
  clear h
  go_enter Tryz.func201, Tryz.ntmps201
  go_wp2_with fail
  refine H.out.mono ?_
  rintro e w1 ⟨rfl, h1, h2⟩
  have H1 := Lib.hid (turned_one h1 h2)
  clear h1 h2
  go_wp2
  exact bodyPost_ret (v := .tuple #[]) (results_none rfl _ _ _) rfl H1.out
theorem tell_4e {w : World} {p c1 c2 : Nat} {S : Nat → Prop} {T N L G dl sq lv pr cu nx f : Int} {ps ss : List Int} {A1 A2 : Option Addr} (h : Parts w p S T N L G dl sq ⟨4, lv, pr, cu, nx, ps, ss⟩ A1 c1 A2 c2) (h0 : wrap64 f = dl) : Calls Tryz.prog 201 #[.pointer (some ⟨p, 0, none⟩), .int .u64 f] w (Turned w p S T N L G dl sq ⟨5, lv, pr, cu, nx, ps, ss⟩) := by
  subst h0
  obtain ⟨-, -, -, -, e4, -, e6, -⟩ := h.cells
  simp only at e6
  have f6 := h.thawed 6
  have H := Lib.hid (turned_one (h.set_st 5) (only_set w p 6 (.int .i64 5)))
  clear h
  go_enter Tryz.func201, Tryz.ntmps201
  go_wp2
  exact bodyPost_ret (v := .tuple #[]) (results_none rfl _ _ _) rfl H.out
theorem tell_4 {w : World} {p c1 c2 : Nat} {S : Nat → Prop} {T N L G dl sq lv pr cu nx f : Int} {ps ss : List Int} {A1 A2 : Option Addr} {b : Bool} (h : Parts w p S T N L G dl sq ⟨4, lv, pr, cu, nx, ps, ss⟩ A1 c1 A2 c2) (hm : lv ≤ 9223372036854775807) (hp : ps.length ≤ 1000000) (he : ss.length = ps.length) (hn : 0 ≤ nx ∧ nx < 18446744073709551616) (h0 : ¬ wrap64 f = dl) (hb : b = decide (wrap64 f < dl)) : Calls Tryz.prog 201 #[.pointer (some ⟨p, 0, none⟩), .int .u64 f] w (Turned w p S T N L G dl sq (pass lv pr cu nx ps ss b)) := by
  obtain ⟨-, -, -, -, e4, -, e6, -⟩ := h.cells
  simp only at e6
  have H := Lib.hid (pass_any h hm hp he hn b)
  have HB := Lib.hid hb
  have hq : (wrap64 f == dl) = false := by simpa using h0
  have hw : IntKind.i64.wrap f = wrap64 f := IntWalk.i64_left f
  generalize wrap64 f = y at hq hw HB h0
  clear h hn hb
  go_enter Tryz.func201, Tryz.ntmps201
  go_wp2_with fail
  rw [← HB.out]
  refine H.out.mono ?_
  rintro e w1 h1
  have H1 := Lib.hid h1
  obtain ⟨rfl, -⟩ := h1
  go_wp2
  exact bodyPost_end (results_none rfl _ _ _) rfl H1.out
theorem tell_5 {w : World} {p c1 c2 : Nat} {S : Nat → Prop} {T N L G dl sq lv pr cu nx f : Int} {ps ss : List Int} {A1 A2 : Option Addr} {b : Bool} (h : Parts w p S T N L G dl sq ⟨5, lv, pr, cu, nx, ps, ss⟩ A1 c1 A2 c2) (hm : lv ≤ 9223372036854775807) (hp : ps.length ≤ 1000000) (he : ss.length = ps.length) (hn : 0 ≤ nx ∧ nx < 18446744073709551616) (hb : b = decide (f < sq)) : Calls Tryz.prog 201 #[.pointer (some ⟨p, 0, none⟩), .int .u64 f] w (Turned w p S T N L G dl sq (pass lv pr cu nx ps ss b)) := by
  obtain ⟨-, -, -, -, -, e5, e6, -⟩ := h.cells
  simp only at e6
  have H := Lib.hid (pass_any h hm hp he hn b)
  have HB := Lib.hid hb
  clear h hn hb
  go_enter Tryz.func201, Tryz.ntmps201
  go_wp2_with fail
  rw [← HB.out]
  refine H.out.mono ?_
  rintro e w1 h1
  have H1 := Lib.hid h1
  obtain ⟨rfl, -⟩ := h1
  go_wp2
  exact bodyPost_end (results_none rfl _ _ _) rfl H1.out
theorem Tell_any {w : World} {p k : Nat} {S : Nat → Prop} {T N L G dl sq f : Int} {s : St} (h : Seeks w p S T N L G dl sq k s) (hk : k ≤ 1000000) (hf : 0 ≤ f ∧ f < 18446744073709551616) : Calls Tryz.prog 201 #[.pointer (some ⟨p, 0, none⟩), .int .u64 f] w fun e w' =>
    e = .returned (.tuple #[]) ∧ ∃ S', Seeks w' p S' T N L G dl sq (k + 1) (seekT L dl sq s f) ∧ Only S w w' ∧ ∀ k, S' k → S k ∨ (w.heap.size ≤ k ∧ k < w'.heap.size) := by
  obtain ⟨ho, hL, A1, c1, A2, c2, h⟩ := h
  have hok := seekT_ok (dl := dl) (sq := sq) ho hL hf
  suffices hs : Calls Tryz.prog 201 #[.pointer (some ⟨p, 0, none⟩), .int .u64 f] w (Turned w p S T N L G dl sq (seekT L dl sq s f)) from hs.mono fun e w' ⟨h1, S', B1, d1, B2, d2, h2, h3, h4⟩ => ⟨h1, S', ⟨hok, hL, B1, d1, B2, d2, h2⟩, h3, h4⟩
  clear hok
  obtain ⟨st, lv, pr, cu, nx, ps, ss⟩ := s
  obtain ⟨h1, h2, h3, h4, h5, h6, h7⟩ := ho
  simp only at h1 h2 h3 h4 h5 h6 h7
  have h8 := Nat.le_trans h7 hk
  rcases h1 with rfl | rfl | rfl | rfl | rfl | rfl
  · rw [seekT_0]; exact tell_0 h
  · by_cases h0 : f % 2 = 1
    · rw [seekT_1m h0]; exact tell_1m h hL hf h0
    · rw [seekT_1 h0]; exact tell_1 h h2 h8 h6 hf h0
  · by_cases h0 : f % 2 = 1
    · rw [seekT_2m h0]; exact tell_2m h hf h0
    · rw [seekT_2 h0]; exact tell_2 h hf h0
  · by_cases h0 : f = cu
    · subst h0; rw [seekT_3]; exact tell_3 h h2 h8 h6 h5 rfl
    · rw [seekT_3n h0]; exact tell_3n h hL h0
  · by_cases h0 : wrap64 f = dl
    · rw [seekT_4e h0]; exact tell_4e h h0
    · rw [seekT_4 h0 rfl]; exact tell_4 h h2 h8 h6 h5 h0 rfl
  · rw [seekT_5 rfl]; exact tell_5 h h2 h8 h6 h5 rfl
end Go.Proofs.YtlagghghbpbcbaaGreatDoor.Seek
