/- Package task's flow of two scripts, made by Behind: what it asks for, what it is told, and another task that it is given. -/
import Derived.Test.YthlamnghbdaaiaaTaskMade
namespace Go.Proofs.Ythlamnghbdaaiaa.Task
open Go.ChangeShapes Go.WideShapes Go.RowKit CM DM Lay Ints Cells
set_option linter.unusedVariables false

theorem method_tell (p : Nat) (n : Nat) (w : World) : (method (n + 1) 25 (.pointer (some ⟨p, 0, none⟩)) "Tell").run Try.prog w = .ok (9, .pointer (some ⟨p, 0, none⟩)) w := by kernel_rfl
/-- The flow's script was told v; nothing else has turned but its part. -/
structure Mids (w : World) (f pb d p q g : Nat) (fv : Value) (ds : List D) (fs : List Int) (g' : Nat) (w2 : World) : Prop where
  flow : FlowAt w2 f (some pb) d
  part : PartAt w2 pb (taskV p) fv false
  scr : Scr w2 p q g' ds fs
  words : g' = g ∨ w.heap.size ≤ g'
  only : Only (fun k => k = pb ∨ k = p ∨ k = g) w w2
def Tolds (w : World) (f pb d p q g : Nat) (fv : Value) (ds : List D) (fs : List Int) (R : World → World → Prop) (e : Ending) (w' : World) : Prop :=
  e = .returned (.tuple #[]) ∧ ∃ w2 g', Mids w f pb d p q g fv ds fs g' w2 ∧ R w2 w'
def Somes (R : World → Prop) (e : Ending) (w' : World) : Prop := (∃ v, e = .returned v) ∧ R w'
theorem FTell_any {f pb d p q g : Nat} {fv : Value} {ds : List D} {fs : List Int} {x : D} {w : World} (hF : FlowAt w f (some pb) d) (hP : PartAt w pb (taskV p) fv false) (hS : Scr w p q g ds fs) (hx : ds[fs.length]? = some x) (hp : pb ≠ p ∧ pb ≠ q ∧ pb ≠ g) (hf : f ≠ pb) (hfs : f ≠ p ∧ f ≠ g) (v : Int) (R : World → World → Prop)
    (HN : ∀ w2 g', Mids w f pb d p q g fv ds (fs ++ [v]) g' w2 → Calls Try.prog 13 #[.pointer (some ⟨f, 0, none⟩)] w2 (Somes (R w2))) :
    Calls Try.prog 14 #[.pointer (some ⟨f, 0, none⟩), .int .u64 v] w (Tolds w f pb d p q g fv ds (fs ++ [v]) R) := by
  have H1 := Lib.hid (FNext_more hF hP hS hx hp hf)
  have HNX := Lib.hid HN
  have HS := Lib.hid hS
  have HF := Lib.hid hF
  have HL := Lib.hid (List.getElem?_eq_some_iff.1 hx).1
  have HPP := Lib.hid hp
  clear HN hF hP hS hx
  go_enter Try.func14, Try.ntmps14
  go_wp2_with fail
  refine H1.out.mono ?_
  rintro e w1 ⟨rfl, ho, hP1⟩
  have hb1 := (Below.refl w1.heap.size w1).alloc (Nat.le_refl _) (.cells #[.int .i64 x.1, .int .i64 x.2.1, .int .u64 x.2.2.1, .int .u64 x.2.2.2.1, .int .u64 x.2.2.2.2] 29)
  have HO1 := Lib.hid (ho.then_below hb1)
  have HF1 := Lib.hid (hb1.flow (ho.heap HF.out hf : FlowAt w1 f (some pb) d))
  have HP1 := Lib.hid (hb1.part hP1)
  have HS1 := Lib.hid (HS.out.only HO1.out (fun e => hp.1 e.symm) (fun e => hp.2.1 e.symm) (fun e => hp.2.2 e.symm))
  have c0 := (cell_heap HF1.out 0).1
  have c1 := (cell_heap HP1.out 0).1
  replace c0 : _ = some (Value.pointer (some ⟨pb, 0, none⟩)) := c0
  replace c1 : _ = some (taskV p) := c1
  have hm := method_tell p
  clear ho hP1 hb1 hp
  go_wp2_with fail
  refine (Tell_more HS1.out HL.out v).mono ?_
  rintro e w2 ⟨g', rfl, hS2, hg', ho2⟩
  have HM := Lib.hid (show Mids w f pb d p q g fv ds (fs ++ [v]) g' w2 from ⟨ho2.heap HF1.out (by omega), ho2.heap HP1.out (by have := HPP.out; omega), hS2, hg'.imp id (fun h => Nat.le_trans HO1.out.size h), (HO1.out.wide fun i e => .inl (.inl e)).more ho2 (fun i e => .inl (.inr e))⟩)
  clear hS2 hg' ho2 hm c0 c1
  go_wp2_with fail
  refine (HNX.out w2 g' HM.out).mono ?_
  rintro e w3 ⟨⟨v', rfl⟩, hR⟩
  have HR := Lib.hid hR
  clear hR
  go_wp2
  refine bodyPost_end (results_none rfl _ _ _) rfl ?_
  exact ⟨rfl, w2, g', HM.out, HR.out⟩

theorem Two.later {w w' : World} {f pb d b1 b2 p1 q1 g1 p2 q2 g2 : Nat} {a b : List D} {fs1 fs2 : List Int} (h : Two w f pb d b1 b2 p1 q1 g1 p2 q2 g2 a b fs1 fs2) (hb : Below w.heap.size w w') : Two w' f pb d b1 b2 p1 q1 g1 p2 q2 g2 a b fs1 fs2 :=
  ⟨hb.flow h.flow, hb.part h.part, h.caps.later hb, h.one.later hb, h.two.later hb, h.apart⟩
theorem Two.asked {w w' : World} {f pb d b1 b2 p1 q1 g1 p2 q2 g2 : Nat} {a b : List D} {fs1 fs2 : List Int} (h : Two w f pb d b1 b2 p1 q1 g1 p2 q2 g2 a b fs1 fs2) (ho : Only (fun k => k = pb) w w') (hP : PartAt w' pb (taskV p1) (Value.func (.func 25) #[] #[.pointer (some ⟨b1, 0, none⟩), .pointer (some ⟨b2, 0, none⟩)]) false) : Two w' f pb d b1 b2 p1 q1 g1 p2 q2 g2 a b fs1 fs2 :=
  have ha := h.apart
  ⟨ho.heap h.flow (by omega), hP, h.caps.only ho (by omega) (by omega), h.one.only ho (by omega) (by omega) (by omega), h.two.only ho (by omega) (by omega) (by omega), ha⟩
theorem Lone.asked {w w' : World} {f pb d p q g : Nat} {ds : List D} {fs : List Int} (h : Lone w f pb d p q g ds fs) (ho : Only (fun k => k = pb) w w') (hP : PartAt w' pb (taskV p) .nilFunc false) : Lone w' f pb d p q g ds fs :=
  have ha := h.apart
  ⟨ho.heap h.flow (by omega), hP, h.scr.only ho (by omega) (by omega) (by omega), ha⟩
theorem Lone.later {w w' : World} {f pb d p q g : Nat} {ds : List D} {fs : List Int} (h : Lone w f pb d p q g ds fs) (hb : Below w.heap.size w w') : Lone w' f pb d p q g ds fs := ⟨hb.flow h.flow, hb.part h.part, h.scr.later hb, h.apart⟩
theorem Fl.later {w wr w' : World} {f i : Nat} {a b : List D} {R : Nat → Prop} (h : Fl w wr f a b i R) (hb : Below wr.heap.size wr w') : Fl w w' f a b i R := by
  obtain ⟨h0, h1, h2, hs⟩ := h
  have hsz := hb.size
  refine ⟨h0.trans (hb.mono h0.size), h1, fun k e => ⟨(h2 k e).1, Nat.lt_of_lt_of_le (h2 k e).2 hsz⟩, ?_⟩
  rcases hs with ⟨pb, b1, b2, p1, q1, g1, p2, q2, g2, fs1, l1, l2, hT, hr⟩ | ⟨pb, p, q, g, fs, l1, l2, l3, hL, hr⟩ | ⟨l1, hF⟩
  · exact .inl ⟨pb, b1, b2, p1, q1, g1, p2, q2, g2, fs1, l1, l2, hT.later hb, hr⟩
  · exact .inr (.inl ⟨pb, p, q, g, fs, l1, l2, l3, hL.later hb, hr⟩)
  · exact .inr (.inr ⟨l1, hb.flow hF⟩)

theorem Fl_next {w wr : World} {f i : Nat} {a b : List D} {x : D} {R : Nat → Prop} (h : Fl w wr f a b i R) (hx : (a ++ b)[i]? = some x) : Calls Try.prog 13 #[.pointer (some ⟨f, 0, none⟩)] wr fun e w' => e = .returned (.tuple #[.agg #[.int .i64 x.1, .int .i64 x.2.1, .int .u64 x.2.2.1, .int .u64 x.2.2.2.1, .int .u64 x.2.2.2.2], .bool true]) ∧ Fl w w' f a b i R ∧ Only R wr w' := by
  obtain ⟨h0, h1, h2, hs⟩ := h
  have hsz := h0.size
  rcases hs with ⟨pb, b1, b2, p1, q1, g1, p2, q2, g2, fs1, l1, l2, hT, hsp, hr⟩ | ⟨pb, p, q, g, fs, l1, l2, l3, hL, hr⟩ | ⟨l1, hF⟩
  · rw [List.getElem?_append_left l1, ← l2] at hx
    refine (FNext_more hT.flow hT.part hT.one hx hT.apart.2.1 hT.apart.1).mono ?_
    rintro e w' ⟨rfl, ho, hP⟩
    exact ⟨rfl, ⟨h0.trans (ho.below hsz (fun k e => e ▸ (h2 _ hr.1).1)), h1, fun k e => ⟨(h2 k e).1, Nat.lt_of_lt_of_le (h2 k e).2 ho.size⟩, .inl ⟨pb, b1, b2, p1, q1, g1, p2, q2, g2, fs1, l1, l2, hT.asked ho hP, hsp, hr⟩⟩, ho.wide fun k e => .inl (e ▸ hr.1)⟩
  · rw [List.getElem?_append_right l1, show i - a.length = fs.length by omega] at hx
    refine (FNext_more hL.flow hL.part hL.scr hx hL.apart.2.1 hL.apart.1).mono ?_
    rintro e w' ⟨rfl, ho, hP⟩
    exact ⟨rfl, ⟨h0.trans (ho.below hsz (fun k e => e ▸ (h2 _ hr.1).1)), h1, fun k e => ⟨(h2 k e).1, Nat.lt_of_lt_of_le (h2 k e).2 ho.size⟩, .inr (.inl ⟨pb, p, q, g, fs, l1, l2, l3, hL.asked ho hP, hr⟩)⟩, ho.wide fun k e => .inl (e ▸ hr.1)⟩
  · have := (List.getElem?_eq_some_iff.1 hx).1
    simp at this
    omega
theorem Fl_end {w wr : World} {f i : Nat} {a b : List D} {R : Nat → Prop} (h : Fl w wr f a b i R) (hi : i = a.length + b.length) : Calls Try.prog 13 #[.pointer (some ⟨f, 0, none⟩)] wr fun e w' => e = .returned (.tuple #[.agg #[.int .i64 0, .int .i64 0, .int .u64 0, .int .u64 0, .int .u64 0], .bool false]) ∧ Fl w w' f a b i R ∧ Only R wr w' := by
  have hF : FlowAt wr f none 0 := by
    rcases h.state with ⟨_, _, _, _, _, _, _, _, _, _, l1, _⟩ | ⟨_, _, _, _, _, l1, l2, _⟩ | ⟨_, hF⟩
    · omega
    · omega
    · exact hF
  refine (FNext_none hF).mono ?_
  rintro e w' ⟨rfl, hb⟩
  exact ⟨rfl, h.later hb, only_below _ hb⟩
end Go.Proofs.Ythlamnghbdaaiaa.Task
