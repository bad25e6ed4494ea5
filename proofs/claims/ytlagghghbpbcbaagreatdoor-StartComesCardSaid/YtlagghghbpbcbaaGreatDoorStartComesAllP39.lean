import Derived.Test.YtlagghghbpbcbaaGreatDoorStartComesAllP38
import Derived.Deep.RegionHeld3
/- Package start (layer 31): how a starter goes on from taking a slot to bringing its timer in, and to leaving. -/
namespace Go.Proofs.YtlagghghbpbcbaaGreatDoor.Srt
set_option maxRecDepth 20000
open Go.ChangeShapes Go.WideShapes Go.RowKit CM DM PM KM Lay Ints Plan Go.Proofs.YtlagghghbpbcbaaGreatDoor.Flows
open Go.Proofs.YtlagghghbpbcbaaGreatDoor.Limbo (Lim)
open LM (Ls lenL addL R2)
open Go.Proofs.YtlagghghbpbcbaaGreatDoor.Pin (Pins Unpins)
open Go.Proofs.YtlagghghbpbcbaaGreatDoor.Pool (Pops)
open Go.Proofs.YtlagghghbpbcbaaGreatDoor.Ins (Inserts InsI ins_ask ins_told Insert_any Lives_any Lives_nil Handle_any Ins_next addO)
open InM (insA insT livesB refS)
open PiM (pinA pinT)
open PoM (popA popT popI)
set_option linter.unusedVariables false
set_option linter.unusedSimpArgs false

theorem tellHandle_any {w : World} {p d n : Nat} {S : Nat → Prop} {T N L G th kd dl dr hh cn err hd : Int} {l : Nat} {lb : Ls} {acts : List Act4} {ok : Bool} {k : Nat} {i : Int} {s : InM.St} (h : Freed (InsI T N L G l i dl (IntKind.u64.wrap dl) (IntKind.u64.wrap (DM.heightI dr L)) (DM.heightI dr L) k lb) (Ba p T N L G th kd dl dr hh cn l n acts err ok hd Zi) 93 w p d S s) (hlv : livesB s = true) :
    Calls Tryz.prog 105 #[.pointer (some ⟨p, 0, none⟩)] w fun e w' => e = .returned (.tuple #[]) ∧ ∃ S2, Phase 155 .nilFunc (LeaveI T N L G th) (Ba p T N L G th kd dl dr hh cn l n acts err true (SrM.handS s) (Zx T N L G dl (IntKind.u64.wrap dl) (IntKind.u64.wrap (DM.heightI dr L)) (DM.heightI dr L) l lb true)) 93 w' p d S2 ⟨2, ofI T 0 th, 0⟩ ∧ Grown w w' S S2 ∧ Anew 93 p d w w' := by
  obtain ⟨h1, h2, q, SM, X, rest, hF, hI, ⟨A, g, U, V, rfl, hA, hg, ⟨qp, rfl⟩, rfl⟩, h3, h4⟩ := h
  have hI : Inserts w q SM T N L G l i dl (IntKind.u64.wrap dl) (IntKind.u64.wrap (DM.heightI dr L)) (DM.heightI dr L) k lb s := hI
  have HH := Lib.hid (show Calls Tryz.prog 62 #[.pointer (some ⟨q, 0, none⟩)] w fun e w' => e = .returned (.int .u64 (SrM.handS s)) ∧ w = w' from Handle_any hI)
  have HEND := Lib.hid (show Calls Tryz.prog 103 #[.pointer (some ⟨p, 0, none⟩)] ((w.setCell ⟨p, 18, none⟩ (.bool true)).setCell ⟨p, 19, none⟩ (.int .u64 (SrM.handS s))) fun e w' => e = .returned (.tuple #[]) ∧ ∃ S2, Phase 155 .nilFunc (LeaveI T N L G th) (Ba p T N L G th kd dl dr hh cn l n acts err true (SrM.handS s) (Zx T N L G dl (IntKind.u64.wrap dl) (IntKind.u64.wrap (DM.heightI dr L)) (DM.heightI dr L) l lb true)) 93 w' p d S2 ⟨2, ofI T 0 th, 0⟩ ∧ Grown w w' S S2 ∧ Anew 93 p d w w' from by
    have ho : Only (fun j => j = p) w ((w.setCell ⟨p, 18, none⟩ (.bool true)).setCell ⟨p, 19, none⟩ (.int .u64 (SrM.handS s))) := (only_setCell (R := fun j => j = p) w (p := ⟨p, 18, none⟩) rfl _).trans (only_setCell (R := fun j => j = p) _ (p := ⟨p, 19, none⟩) rfl _)
    have hz := ho.size
    refine (leave_any (S := S) (lb := lb) ⟨h1, fun j e => Nat.lt_of_lt_of_le (h2 j e) hz, A, g, _, _, fun j => X j ∨ SM j, put_hd (put_ok hF true) (SrM.handS s), hA.only ho (fun e z => e z), fun e => .inl (hg e), .inr ⟨rfl, q, SM, k, i, s, rfl, Inserts.only hI ho fun j e z => (h3 j (.inl e)).2 z, hlv, fun j e => ⟨.inr e, fun z => ?_⟩⟩, fun j e => h3 j e.symm⟩).mono ?_
    · by_cases e2 : g = p
      · exact (h3 j (.inl e)).2 (z.trans e2)
      · exact h4 j e (z ▸ hg e2)
    · rintro e w' ⟨rfl, S2, k1, k2, k3⟩
      exact ⟨rfl, S2, k1, Grown.trans (S1 := S) ⟨ho.wide fun j e => .inl (e ▸ h1), fun j e => .inl e⟩ k2, k3.more hz⟩)
  have c16 := (cells_st hF).2.2.2.2.2.2.1
  obtain ⟨v18, c18⟩ : ∃ v, w.cell? ⟨p, 18, none⟩ = some v := ⟨_, (cells_st hF).2.2.2.2.2.2.2.2.1⟩
  obtain ⟨v19, c19⟩ : ∃ v, (w.setCell ⟨p, 18, none⟩ (.bool true)).cell? ⟨p, 19, none⟩ = some v := ⟨_, (cells_st (put_ok hF true)).2.2.2.2.2.2.2.2.2.1⟩
  have f18 := thawed_st hF 18
  have f19 := thawed_st (put_ok hF true) 19
  generalize SrM.handS s = hv at HH HEND c19 f19 ⊢
  clear hF hI hA hg h3 h4 h1 h2
  go_enter Tryz.func105, Tryz.ntmps105
  go_wp2_with fail
  refine (HH.out).mono ?_
  rintro e w' ⟨rfl, rfl⟩
  go_wp2_with fail
  refine HEND.out.mono ?_
  rintro e w' ⟨rfl, h⟩
  have HE := Lib.hid h
  clear h
  go_wp2
  exact bodyPost_end (results_none rfl _ _ _) rfl ⟨rfl, HE.out⟩
theorem takeSlot_any {w : World} {p d n : Nat} {S : Nat → Prop} {T N L G th kd dl dr hh cn err hd : Int} {l : Nat} {lb : Ls} {acts : List Act4} {ok : Bool} {s : PiM.St} (h : Freed (PinI T N L G th) (Ba p T N L G th kd dl dr hh cn l n acts err ok hd (Zp l lb)) 93 w p d S s) :
    Calls Tryz.prog 44 #[.pointer (some ⟨p, 0, none⟩)] w fun e w' => e = .returned (.tuple #[]) ∧ ∃ S2, Phase 90 (meth 73 p) (PopI T N L G) (Ba p T N L G th kd dl dr hh cn l n acts err ok hd (Zo l lb)) 93 w' p d S2 ⟨1, 0, 0⟩ ∧ Grown w w' S S2 ∧ Anew 93 p d w w' := by
  obtain ⟨h1, h2, q, SM, X, rest, hF, hI, ⟨A, g, U, V, rfl, hA, hg, rfl, rfl, ⟨SL, hlim, hSL⟩⟩, h3, h4⟩ := h
  have HPO := Lib.hid (fun W : World => Pool.Pop_any T N L G W)
  have HEND := Lib.hid (show ∀ w3 q, Pops w3 q T N L G ⟨1, 0, 0⟩ → w.heap.size ≤ q → Below w.heap.size w w3 →
      Calls Tryz.prog 42 #[.pointer (some ⟨p, 0, none⟩), itf 90 q, meth 73 p] (w3.setCell ⟨p, 15, none⟩ (.pointer (some ⟨q, 0, none⟩))).drew fun e w' => e = .returned (.tuple #[]) ∧ ∃ S2, Phase 90 (meth 73 p) (PopI T N L G) (Ba p T N L G th kd dl dr hh cn l n acts err ok hd (Zo l lb)) 93 w' p d S2 ⟨1, 0, 0⟩ ∧ Grown w w' S S2 ∧ Anew 93 p d w w' from fun w3 q2 g1 g2 g3 => by
    have hz := g3.size
    have hq := Pops.lt g1
    have hpw := h2 p h1
    have ho : Only (fun j => j = p) w3 (w3.setCell ⟨p, 15, none⟩ (.pointer (some ⟨q2, 0, none⟩))).drew := (only_setCell (R := fun j => j = p) w3 (p := ⟨p, 15, none⟩) rfl _).then_below (Below.refl _ _).drew
    have hz2 := ho.size
    have hXp : ∀ j, X j → j ≠ p := fun j e => (h3 j (.inr e)).2
    refine (Given.made (pop_task T N L G).asks (fv2 := meth 73 p) (E2 := Ba p T N L G th kd dl dr hh cn l n acts err ok hd (Zo l lb)) (Ba_keeps Zo_stays) (meth_then _ p) (S := fun j => S j ∨ j = q2) (s2 := ⟨1, 0, 0⟩) ⟨.inl h1, fun j e => e.elim (fun e => by have := h2 j e; omega) fun e => by omega, none, _, fun j => j = q2, X, (put_pop (hF.later g3) (.pointer (some ⟨q2, 0, none⟩))).later (Below.refl _ _).drew, ⟨Pops.only g1 ho (by omega), rfl, fun j e => by omega⟩,
      ⟨A, g, _, _, rfl, (hA.only (only_below (fun _ => False) g3) (fun _ => id)).only ho (fun e z => e z), hg, rfl, rfl, SL, (hlim.later g3).only ho (fun j e z => hXp j (hSL j z).1 e), hSL⟩, fun j e => e.elim (fun e => ⟨.inr e, by omega⟩) (fun e => ⟨.inl (h3 j (.inr e)).1, hXp j e⟩), fun j e z => by have := h2 j (h3 j (.inr z)).1; omega⟩ (x := (1, 3, 0, 0, 0)) (PoM.popA_1 _ _ _ _)).mono ?_
    rintro e w' ⟨rfl, S2, k1, k2, k3, -⟩
    have hz3 := k2.1.size
    exact ⟨rfl, S2, k1, ⟨((only_below S g3).more ho fun j e => .inl (e ▸ h1)).more k2.1 fun j e => e.imp id fun e => by omega, fun j e => (k2.2 j e).elim (fun e => e.imp id fun e => by omega) fun e => .inr (by omega)⟩, k3.more (by omega)⟩)
  have HF := Lib.hid (fun W (v : Value) (hb : Below w.heap.size w W) => And.intro (cells_st (hF.later hb)).2.2.2.2.2.1 (And.intro (thawed_st (hF.later hb) 15) (cells_st (put_pop (hF.later hb) v)).2.2.2.2.2.1))
  obtain ⟨⟨c4, c5, c6, c7⟩, -⟩ := cells_st hF
  clear hF hI hA hg hlim hSL h3 h4 h1 h2
  go_enter Tryz.func44, Tryz.ntmps44
  go_wp2_with fail
  refine (HPO.out _).mono ?_
  rintro e w2 ⟨q2, rfl, g1, g2, g3⟩
  have HTO := Lib.hid (HEND.out _ _ g1 g2 g3)
  obtain ⟨c15, f15, d15⟩ := HF.out _ (.pointer (some ⟨q2, 0, none⟩)) g3
  have hf := hmf
  clear g1 g2 g3 c4 c5 c6 c7
  go_upto_region 1 with fail
  go_region_with (go_at_call 42; refine HTO.out.mono ?_; rintro e w5 ⟨rfl, h⟩; have HE := Lib.hid h; clear h)
  all_goals go_wp2
  all_goals exact bodyPost_end (results_none rfl _ _ _) rfl ⟨rfl, HE.out⟩
/-- No slot was free. -/
theorem bringIn_none {w : World} {p d n : Nat} {S : Nat → Prop} {T N L G th kd dl dr hh cn err hd : Int} {l : Nat} {lb : Ls} {acts : List Act4} {s : PoM.St} (h : Freed (PopI T N L G) (Ba p T N L G th kd dl dr hh cn l n acts err false hd (Zo l lb)) 93 w p d S s) (hi : popI s = 0) (hac : acts.length < 1000000) :
    Calls Tryz.prog 73 #[.pointer (some ⟨p, 0, none⟩)] w fun e w' => e = .returned (.tuple #[]) ∧ ∃ S2, Phase 155 .nilFunc (LeaveI T N L G th) (Ba p T N L G th kd dl dr hh cn l n (acts ++ [(5, 0, 0, (n : Int))]) 3 false hd (Zx T N L G dl (IntKind.u64.wrap dl) (IntKind.u64.wrap (DM.heightI dr L)) (DM.heightI dr L) l lb false)) 93 w' p d S2 ⟨2, ofI T 0 th, 0⟩ ∧ Grown w w' S S2 ∧ Anew 93 p d w w' := by
  obtain ⟨h1, h2, q, SM, X, rest, hF, hI, ⟨A, g, U, V, rfl, hA, hg, rfl, rfl, ⟨SL, hlim, hSL⟩⟩, h3, h4⟩ := h
  have HIX := Lib.hid (Pool.Index_any hI.1)
  rw [hi] at HIX
  have c15 := (cells_st hF).2.2.2.2.2.1
  have HNT := Lib.hid (Note_at (w := w) (p := p) (n := n) (g := g) (v0 := .pointer none) (v1 := .int .i64 (d : Int)) (A := A) (rest := [.int .i64 T, .int .i64 N, .int .i64 L, .int .u64 G, .int .i64 th, .int .i64 kd, .int .i64 dl, .int .u64 dr, .int .u64 hh, .int .i64 cn, .pointer (some ⟨l, 0, none⟩), .pointer (some ⟨q, 0, none⟩), .pointer none, .int .i64 err, .bool false, .int .u64 hd, .slice none 0 0]) (hty := 93) (l := acts) hF hA hac 5 0 0)
  have HX := Lib.hid (show ∀ w2, Noted w p g n (.pointer none) (.int .i64 (d : Int)) [.int .i64 T, .int .i64 N, .int .i64 L, .int .u64 G, .int .i64 th, .int .i64 kd, .int .i64 dl, .int .u64 dr, .int .u64 hh, .int .i64 cn, .pointer (some ⟨l, 0, none⟩), .pointer (some ⟨q, 0, none⟩), .pointer none, .int .i64 err, .bool false, .int .u64 hd, .slice none 0 0] 93 (acts ++ [(5, 0, 0, (n : Int))]) (.returned (.tuple #[])) w2 →
      (w2.cell? ⟨p, 17, none⟩ = some (.int .i64 err) ∧ w2.frozen? ⟨p, 17, none⟩ = false) ∧ Calls Tryz.prog 103 #[.pointer (some ⟨p, 0, none⟩)] (w2.setCell ⟨p, 17, none⟩ (.int .i64 3)) fun e w' => e = .returned (.tuple #[]) ∧ ∃ S2, Phase 155 .nilFunc (LeaveI T N L G th) (Ba p T N L G th kd dl dr hh cn l n (acts ++ [(5, 0, 0, (n : Int))]) 3 false hd (Zx T N L G dl (IntKind.u64.wrap dl) (IntKind.u64.wrap (DM.heightI dr L)) (DM.heightI dr L) l lb false)) 93 w' p d S2 ⟨2, ofI T 0 th, 0⟩ ∧ Grown w w' S S2 ∧ Anew 93 p d w w' from fun w2 hN => by
    obtain ⟨-, g', A', k1, k2, k3, k4⟩ := hN
    have hF2 : HeadAt w2 p none d [.int .i64 (n : Int), A', .int .i64 T, .int .i64 N, .int .i64 L, .int .u64 G, .int .i64 th, .int .i64 kd, .int .i64 dl, .int .u64 dr, .int .u64 hh, .int .i64 cn, .pointer (some ⟨l, 0, none⟩), .pointer (some ⟨q, 0, none⟩), .pointer none, .int .i64 err, .bool false, .int .u64 hd, .slice none 0 0] 93 := k1
    have ho : Only (fun j => j = p) w2 (w2.setCell ⟨p, 17, none⟩ (.int .i64 3)) := only_setCell (R := fun j => j = p) w2 (p := ⟨p, 17, none⟩) rfl _
    have hz := k4.size
    have hz2 := ho.size
    have hgl : g' < w2.heap.size := by obtain ⟨-, -, -, -, -, z⟩ := k2; exact z
    have hpw := h2 p h1
    have hSLp : ∀ j, SL j → j ≠ p := fun j e => (h3 j (.inr (hSL j e).1)).2
    have hSLw : ∀ j, SL j → j < w.heap.size := fun j e => h2 j (h3 j (.inr (hSL j e).1)).1
    refine ⟨⟨(cells_st hF2).2.2.2.2.2.2.2.1, thawed_st hF2 17⟩, (leave_any (S := fun j => S j ∨ j = g') (lb := lb) ⟨.inl h1, fun j e => e.elim (fun e => by have := h2 j e; omega) fun e => by omega, A', g', _, _, fun j => (X j ∨ j = g') ∧ j ≠ p, put_err hF2 3, k2.only ho (fun e z => e z), fun e => ⟨.inr rfl, e⟩,
      .inl ⟨rfl, rfl, SL, (hlim.only k4 (fun j e z => e.elim (fun e => hSLp j z e) fun e => (hSL j z).2 e.1)).only ho (fun j e z => hSLp j z e), fun j e => ⟨⟨.inl (hSL j e).1, hSLp j e⟩, fun z => k3.elim (fun y => (hSL j e).2 (z.trans y)) fun y => by have := hSLw j e; omega⟩⟩, fun j e => ⟨e.1.imp (fun e => (h3 j (.inr e)).1) id, e.2⟩⟩).mono ?_⟩
    rintro e w' ⟨rfl, S2, m1, m2, m3⟩
    have hz3 := m2.1.size
    refine ⟨rfl, S2, m1, ⟨((k4.wide (R' := S) fun j e => ?_).more ho fun j e => .inl (e ▸ h1)).more m2.1 fun j e => ?_, fun j e => ?_⟩, m3.more (by omega)⟩
    · rcases e with e | e
      · exact .inl (e ▸ h1)
      · exact .inl (h3 j (.inr (e.1 ▸ hg e.2))).1
    · rcases e with e | e
      · exact .inl e
      · subst e
        rcases k3 with y | y
        · by_cases e2 : g = p
          · exact .inl (y.trans e2 ▸ h1)
          · exact .inl (h3 j (.inr (y ▸ hg e2))).1
        · exact .inr y
    · rcases m2.2 j e with e | e
      · rcases e with e | e
        · exact .inl e
        · subst e
          rcases k3 with y | y
          · by_cases e2 : g = p
            · exact .inl (y.trans e2 ▸ h1)
            · exact .inl (h3 j (.inr (y ▸ hg e2))).1
          · exact .inr ⟨y, by omega⟩
      · exact .inr (by omega))
  clear hF hI hA hg hlim hSL h3 h4 h1 h2 hi hac
  go_enter Tryz.func73, Tryz.ntmps73
  go_wp2_with fail
  refine (HIX.out).mono ?_
  rintro e w' ⟨rfl, rfl⟩
  go_wp2_with fail
  refine HNT.out.mono ?_
  intro e w2 hN
  obtain rfl := hN.1
  obtain ⟨⟨c17, f17⟩, HLV⟩ := HX.out w2 hN
  have HL := Lib.hid HLV
  clear hN HLV c15
  go_wp2_with fail
  refine HL.out.mono ?_
  rintro e w' ⟨rfl, h⟩
  have HE := Lib.hid h
  clear h
  go_wp2
  exact bodyPost_ret (v := .tuple #[]) (results_none rfl _ _ _) rfl ⟨rfl, HE.out⟩
/-- A slot was taken: the timer is brought in. -/
theorem bringIn_some {w : World} {p d n : Nat} {S : Nat → Prop} {T N L G th kd dl dr hh cn err hd : Int} {l : Nat} {lb : Ls} {acts : List Act4} {ok : Bool} {k : Nat} {s : PoM.St} {i : Int} (h : Freed (PopI T N L G) (Ba p T N L G th kd dl dr hh cn l n acts err ok hd (Zo l lb)) 93 w p d S s) (hi : popI s = i) (hi0 : ¬ i = 0) (hT : 1 ≤ T ∧ T ≤ 9223372036854775807) (hL : 1 ≤ L ∧ L ≤ 9223372036854775807) (hdr : 0 ≤ dr ∧ dr < 18446744073709551616) (hlb : lenL lb ≤ 1000000) :
    Calls Tryz.prog 73 #[.pointer (some ⟨p, 0, none⟩)] w fun e w' => e = .returned (.tuple #[]) ∧ ∃ S2, Phase 91 (meth 105 p) (InsI T N L G l i dl (IntKind.u64.wrap dl) (IntKind.u64.wrap (DM.heightI dr L)) (DM.heightI dr L) k lb) (Ba p T N L G th kd dl dr hh cn l n acts err ok hd Zi) 93 w' p d S2 InM.start ∧ Grown w w' S S2 ∧ Anew 93 p d w w' := by
  obtain ⟨h1, h2, q, SM, X, rest, hF, hI, ⟨A, g, U, V, rfl, hA, hg, rfl, rfl, ⟨SL, hlim, hSL⟩⟩, h3, h4⟩ := h
  have HIX := Lib.hid (Pool.Index_any hI.1)
  rw [hi] at HIX
  have c15 := (cells_st hF).2.2.2.2.2.1
  have hib : (i == 0) = false := by simpa using hi0
  have hpS : ¬ SL p := fun e => (h3 p (.inr (hSL p e).1)).2 rfl
  have HIN := Lib.hid (fun (W : World) (hb : Below w.heap.size w W) => Insert_any (T := T) (N := N) (L := L) (G := G) (i := i) (dl := dl) (n := dr) hT hL hdr (hlim.later hb) hlb)
  have HK := Lib.hid (show ∀ W, Only SL w W → (W.cell? ⟨p, 4, none⟩ = some (.int .i64 T) ∧ W.cell? ⟨p, 5, none⟩ = some (.int .i64 N) ∧ W.cell? ⟨p, 6, none⟩ = some (.int .i64 L) ∧ W.cell? ⟨p, 7, none⟩ = some (.int .u64 G)) ∧ W.cell? ⟨p, 10, none⟩ = some (.int .i64 dl) ∧ W.cell? ⟨p, 11, none⟩ = some (.int .u64 dr) ∧ W.cell? ⟨p, 14, none⟩ = some (.pointer (some ⟨l, 0, none⟩)) ∧ W.frozen? ⟨p, 16, none⟩ = false from fun W ho => by
    have g := hF.only ho hpS
    obtain ⟨k1, k2, k3, k4, k5, -⟩ := cells_st g
    exact ⟨k1, k3, k4, k5, thawed_st g 16⟩)
  have HS := Lib.hid (show ∀ W0 v, Only SL w W0 → (fun W => (W.cell? ⟨p, 4, none⟩ = some (.int .i64 T) ∧ W.cell? ⟨p, 5, none⟩ = some (.int .i64 N) ∧ W.cell? ⟨p, 6, none⟩ = some (.int .i64 L) ∧ W.cell? ⟨p, 7, none⟩ = some (.int .u64 G)) ∧ W.cell? ⟨p, 10, none⟩ = some (.int .i64 dl) ∧ W.cell? ⟨p, 11, none⟩ = some (.int .u64 dr) ∧ W.cell? ⟨p, 14, none⟩ = some (.pointer (some ⟨l, 0, none⟩)) ∧ W.frozen? ⟨p, 16, none⟩ = false) (W0.setCell ⟨p, 16, none⟩ v) from fun W0 v ho => by
    have g := put_ins (hF.only ho hpS) v
    obtain ⟨k1, k2, k3, k4, k5, -⟩ := cells_st g
    exact ⟨k1, k3, k4, k5, thawed_st g 16⟩)
  have HC := Lib.hid (show ∀ W, Only SL w W → W.cell? ⟨p, 16, none⟩ = some (.pointer none) from fun W ho => (cells_st (hF.only ho hpS)).2.2.2.2.2.2.1)
  have HF := Lib.hid (fun W (v : Value) (ho : Only SL w W) => (cells_st (put_ins (hF.only ho hpS) v)).2.2.2.2.2.2.1)
  have HEND := Lib.hid (show ∀ w3 qi SI, Inserts w3 qi SI T N L G l i dl (IntKind.u64.wrap dl) (IntKind.u64.wrap (DM.heightI dr L)) (DM.heightI dr L) 0 lb InM.start → Grown w w3 SL SI →
      Calls Tryz.prog 42 #[.pointer (some ⟨p, 0, none⟩), itf 91 qi, meth 105 p] (w3.setCell ⟨p, 16, none⟩ (.pointer (some ⟨qi, 0, none⟩))).drew fun e w' => e = .returned (.tuple #[]) ∧ ∃ S2, Phase 91 (meth 105 p) (InsI T N L G l i dl (IntKind.u64.wrap dl) (IntKind.u64.wrap (DM.heightI dr L)) (DM.heightI dr L) k lb) (Ba p T N L G th kd dl dr hh cn l n acts err ok hd Zi) 93 w' p d S2 InM.start ∧ Grown w w' S S2 ∧ Anew 93 p d w w' from fun w3 qi SI g1 g2 => by
    have hz := g2.1.size
    have hpw := h2 p h1
    have hlt := Inserts.lt g1
    have ho : Only (fun j => j = p) w3 (w3.setCell ⟨p, 16, none⟩ (.pointer (some ⟨qi, 0, none⟩))).drew := (only_setCell (R := fun j => j = p) w3 (p := ⟨p, 16, none⟩) rfl _).then_below (Below.refl _ _).drew
    have hz2 := ho.size
    have hnp : ∀ j, SI j → j ≠ p := fun j e z => by
      subst z
      exact (g2.2 _ e).elim hpS fun e => by omega
    have hXp : ∀ j, X j → j ≠ p := fun j e => (h3 j (.inr e)).2
    have hXw : ∀ j, X j → j < w.heap.size := fun j e => h2 j (h3 j (.inr e)).1
    have g3 : InsI T N L G l i dl (IntKind.u64.wrap dl) (IntKind.u64.wrap (DM.heightI dr L)) (DM.heightI dr L) k lb qi w3 SI InM.start := ⟨InM.start_ok, g1.2.1, g1.2.2.1, g1.2.2.2⟩
    refine (Given.made (ins_ask T N L G l i dl (IntKind.u64.wrap dl) (IntKind.u64.wrap (DM.heightI dr L)) (DM.heightI dr L) k lb) (fv2 := meth 105 p) (E2 := Ba p T N L G th kd dl dr hh cn l n acts err ok hd Zi) (Ba_keeps Zi_stays) (meth_then _ p) (S := fun j => S j ∨ SI j) (s2 := InM.start) ⟨.inl h1, fun j e => e.elim (fun e => by have := h2 j e; omega) fun e => by have := hlt j e; omega, none, _, SI, fun j => X j ∧ ¬ SL j, (put_ins (hF.only g2.1 hpS) (.pointer (some ⟨qi, 0, none⟩))).later (Below.refl _ _).drew, (ins_ask T N L G l i dl (IntKind.u64.wrap dl) (IntKind.u64.wrap (DM.heightI dr L)) (DM.heightI dr L) k lb).only g3 ho hnp,
      ⟨A, g, _, _, rfl, (hA.only g2.1 (fun e z => (hSL g z).2 rfl)).only ho (fun e z => e z), fun e => ⟨hg e, fun z => (hSL g z).2 rfl⟩, ⟨q, rfl⟩, rfl⟩, fun j e => e.elim (fun e => ⟨.inr e, hnp j e⟩) (fun e => ⟨.inl (h3 j (.inr e.1)).1, hXp j e.1⟩), fun j e z => (g2.2 j e).elim z.2 fun e => by have := hXw j z.1; omega⟩ (x := (1, atI T L i 0, 0, 0, 0)) rfl).mono ?_
    have hown : ∀ j, SI j → S j ∨ (w.heap.size ≤ j ∧ j < w3.heap.size) := fun j e => (g2.2 j e).imp (fun e => (h3 j (.inr (hSL j e).1)).1) id
    rintro e w' ⟨rfl, S2, k1, k2, k3, -⟩
    have hz3 := k2.1.size
    refine ⟨rfl, S2, k1, ⟨((g2.1.wide (R' := S) fun j e => .inl (h3 j (.inr (hSL j e).1)).1).more ho fun j e => .inl (e ▸ h1)).more k2.1 fun j e => e.elim .inl fun e => (hown j e).imp id And.left, fun j e => ?_⟩, k3.more (by omega)⟩
    rcases k2.2 j e with e | e
    · exact e.elim .inl fun e => (hown j e).imp id fun e => ⟨e.1, by omega⟩
    · exact .inr (by omega))
  clear hF hI hA hg hlim hSL h3 h4 h1 h2 hi hi0 hT hL hdr hlb hpS
  go_enter Tryz.func73, Tryz.ntmps73
  go_wp2_with fail
  refine (HIX.out).mono ?_
  rintro e w' ⟨rfl, rfl⟩
  go_upto_region 5 with fail
  have HD1 := Lib.hid (HK.out _ (only_below SL (Below.refl w.heap.size w).drew))
  go_region_held3 (fun W => (W.cell? ⟨p, 4, none⟩ = some (.int .i64 T) ∧ W.cell? ⟨p, 5, none⟩ = some (.int .i64 N) ∧ W.cell? ⟨p, 6, none⟩ = some (.int .i64 L) ∧ W.cell? ⟨p, 7, none⟩ = some (.int .u64 G)) ∧ W.cell? ⟨p, 10, none⟩ = some (.int .i64 dl) ∧ W.cell? ⟨p, 11, none⟩ = some (.int .u64 dr) ∧ W.cell? ⟨p, 14, none⟩ = some (.pointer (some ⟨l, 0, none⟩)) ∧ W.frozen? ⟨p, 16, none⟩ = false)
    ((first | (with_reducible exact HD1.out) | (with_reducible assumption) | (with_reducible exact HK.out _ HB3.out.2.1) | exact HS.out _ _ HB3.out.2.1))
    (first
      | (go_at_call 104; refine (HIN.out _ (Below.refl w.heap.size w).drew).mono ?_; rintro e w3 ⟨qi, SI, rfl, g1, g2, g3⟩; have hg2 := Grown.trans (Grown.below SL (Below.refl w.heap.size w).drew) g2; have HB3 := Lib.hid (And.intro g1 (And.intro hg2.1 hg2)); have hc16 := HC.out _ HB3.out.2.1; clear g1 g2 g3 hg2)
      | fail)
  have HTO := Lib.hid (HEND.out w3 qi SI HB3.out.1 HB3.out.2.2)
  have c16 := HF.out w3 (.pointer (some ⟨qi, 0, none⟩)) HB3.out.2.1
  have hf := hmf
  clear hc16
  go_upto_region 6 with fail
  go_region_with (go_at_call 42; refine HTO.out.mono ?_; rintro e w5 ⟨rfl, h⟩; have HE := Lib.hid h; clear h)
  all_goals go_wp2
  all_goals exact bodyPost_end (results_none rfl _ _ _) rfl ⟨rfl, HE.out⟩
end Go.Proofs.YtlagghghbpbcbaaGreatDoor.Srt

/- Package start (layer 31): what a starter asks for, and what it becomes when it is told a word. -/
namespace Go.Proofs.YtlagghghbpbcbaaGreatDoor.Srt
set_option maxRecDepth 20000
open Go.ChangeShapes Go.WideShapes Go.RowKit CM DM PM KM Lay Ints Plan Go.Proofs.YtlagghghbpbcbaaGreatDoor.Flows
open Go.Proofs.YtlagghghbpbcbaaGreatDoor.Limbo (Lim)
open LM (Ls lenL addL R2)
open Go.Proofs.YtlagghghbpbcbaaGreatDoor.Pin (Pins Unpins)
open Go.Proofs.YtlagghghbpbcbaaGreatDoor.Pool (Pops)
open Go.Proofs.YtlagghghbpbcbaaGreatDoor.Task (res5 set5)
open Go.Proofs.YtlagghghbpbcbaaGreatDoor.Ins (Inserts InsI ins_ask ins_told Insert_any Lives_any Lives_nil Handle_any Ins_next addO Room)
open InM (insA insT livesB refS retI)
open PiM (pinA pinT)
open PoM (popA popT popI)
set_option linter.unusedVariables false
set_option linter.unusedSimpArgs false

/-- Where the flow of a starter stands. -/
def Stand (w : World) (p : Nat) (S : Nat → Prop) (T N L G th kd dl dr hh cn : Int) (l k : Nat) (lb : Ls) (s : SrM.St) : Prop := match s.pl with
  | .pin t => ((∃ x, pinA t = some x) ∧ lenL lb ≤ 1000000 ∧ s.ok = false) ∧ Phase 95 (meth 44 p) (PinI T N L G th) (Ba p T N L G th kd dl dr hh cn l s.n s.acts s.err s.ok s.hd (Zp l lb)) 93 w p 0 S t
  | .pop t => ((∃ x, popA T L t = some x) ∧ lenL lb ≤ 1000000 ∧ s.ok = false) ∧ Phase 90 (meth 73 p) (PopI T N L G) (Ba p T N L G th kd dl dr hh cn l s.n s.acts s.err s.ok s.hd (Zo l lb)) 93 w p 0 S t
  | .ins i t => ((∃ x, insA T L i (IntKind.u64.wrap dl) (IntKind.u64.wrap (DM.heightI dr L)) t = some x) ∧ s.ok = false) ∧ Phase 91 (meth 105 p) (InsI T N L G l i dl (IntKind.u64.wrap dl) (IntKind.u64.wrap (DM.heightI dr L)) (DM.heightI dr L) k lb) (Ba p T N L G th kd dl dr hh cn l s.n s.acts s.err s.ok s.hd Zi) 93 w p 0 S t
  | .leave t => (∃ x, pinA t = some x) ∧ Phase 155 .nilFunc (LeaveI T N L G th) (Ba p T N L G th kd dl dr hh cn l s.n s.acts s.err s.ok s.hd (Zx T N L G dl (IntKind.u64.wrap dl) (IntKind.u64.wrap (DM.heightI dr L)) (DM.heightI dr L) l lb s.ok)) 93 w p 0 S t
  | .idle => Idle (Ba p T N L G th kd dl dr hh cn l s.n s.acts s.err s.ok s.hd (Zx T N L G dl (IntKind.u64.wrap dl) (IntKind.u64.wrap (DM.heightI dr L)) (DM.heightI dr L) l lb s.ok)) 93 w p 0 S
/-- A starter in block p, told k words at most: S are all its blocks; lb is what its limbo, in block l, keeps. -/
def Starts (w : World) (p : Nat) (S : Nat → Prop) (T N L G th kd dl dr hh cn : Int) (l k : Nat) (lb : Ls) (s : SrM.St) : Prop :=
  (s.n ≤ k ∧ s.acts.length ≤ k) ∧ ((1 ≤ T ∧ T ≤ 9223372036854775807) ∧ (1 ≤ L ∧ L ≤ 9223372036854775807) ∧ 0 ≤ dr ∧ dr < 18446744073709551616) ∧ Stand w p S T N L G th kd dl dr hh cn l k lb s
theorem Stand.only {w : World} {p k : Nat} {S : Nat → Prop} {T N L G th kd dl dr hh cn : Int} {l : Nat} {lb : Ls} {s : SrM.St} {w' : World} {R : Nat → Prop} (h : Stand w p S T N L G th kd dl dr hh cn l k lb s) (ho : Only R w w') (hR : ∀ j, S j → ¬ R j) : Stand w' p S T N L G th kd dl dr hh cn l k lb s := by
  obtain ⟨pl, n, acts, err, ok, hd⟩ := s
  cases pl with
  | pin t => exact ⟨h.1, Phase.only (pin_task T N L G th).asks (Ba_keeps Zp_stays) h.2 ho hR⟩
  | pop t => exact ⟨h.1, Phase.only (pop_task T N L G).asks (Ba_keeps Zo_stays) h.2 ho hR⟩
  | ins i t => exact ⟨h.1, Phase.only (ins_ask ..) (Ba_keeps Zi_stays) h.2 ho hR⟩
  | leave t => exact ⟨h.1, Phase.only (leave_task T N L G th).asks (Ba_keeps Zx_stays) h.2 ho hR⟩
  | idle => exact Idle.only (Ba_keeps Zx_stays) h ho hR
theorem Starts.only {w : World} {p k : Nat} {S : Nat → Prop} {T N L G th kd dl dr hh cn : Int} {l : Nat} {lb : Ls} {s : SrM.St} {w' : World} {R : Nat → Prop} (h : Starts w p S T N L G th kd dl dr hh cn l k lb s) (ho : Only R w w') (hR : ∀ j, S j → ¬ R j) : Starts w' p S T N L G th kd dl dr hh cn l k lb s := ⟨h.1, h.2.1, h.2.2.only ho hR⟩
theorem Starts.later {w : World} {p k : Nat} {S : Nat → Prop} {T N L G th kd dl dr hh cn : Int} {l : Nat} {lb : Ls} {s : SrM.St} {w' : World} (h : Starts w p S T N L G th kd dl dr hh cn l k lb s) (hb : Below w.heap.size w w') : Starts w' p S T N L G th kd dl dr hh cn l k lb s := h.only (only_below (fun _ => False) hb) fun _ _ => id
theorem Starts.own {w : World} {p k : Nat} {S : Nat → Prop} {T N L G th kd dl dr hh cn : Int} {l : Nat} {lb : Ls} {s : SrM.St} (h : Starts w p S T N L G th kd dl dr hh cn l k lb s) : S p ∧ ∀ j, S j → j < w.heap.size := by
  obtain ⟨-, -, h⟩ := h
  obtain ⟨pl, n, acts, err, ok, hd⟩ := s
  cases pl with
  | pin t => exact ⟨Phase.base h.2, Phase.lt h.2⟩
  | pop t => exact ⟨Phase.base h.2, Phase.lt h.2⟩
  | ins i t => exact ⟨Phase.base h.2, Phase.lt h.2⟩
  | leave t => exact ⟨Phase.base h.2, Phase.lt h.2⟩
  | idle => exact ⟨Idle.base h, Idle.lt h⟩
theorem some_of {o : Option D} (h : ¬ o = none) : ∃ x, o = some x := Option.ne_none_iff_exists'.1 h
theorem Flow_next {w : World} {p k : Nat} {S : Nat → Prop} {T N L G th kd dl dr hh cn : Int} {l : Nat} {lb : Ls} {s : SrM.St} (h : Starts w p S T N L G th kd dl dr hh cn l k lb s) : Calls Tryz.prog 57 #[.pointer (some ⟨p, 0, none⟩)] w fun e w' => e = .returned (ansV (SrM.stA T L (IntKind.u64.wrap dl) (IntKind.u64.wrap (DM.heightI dr L)) s)) ∧ Below w.heap.size w w' := by
  obtain ⟨-, -, h⟩ := h
  obtain ⟨pl, n, acts, err, ok, hd⟩ := s
  cases pl with
  | pin t =>
    obtain ⟨⟨⟨x, hx⟩, -⟩, h⟩ := h
    refine (Phase.asked (pin_task T N L G th).asks (Ba_keeps Zp_stays) h hx).mono ?_
    rintro e w' ⟨rfl, -, hb⟩
    exact ⟨by rw [← hx]; rfl, hb⟩
  | pop t =>
    obtain ⟨⟨⟨x, hx⟩, -⟩, h⟩ := h
    refine (Phase.asked (pop_task T N L G).asks (Ba_keeps Zo_stays) h hx).mono ?_
    rintro e w' ⟨rfl, -, hb⟩
    exact ⟨by rw [← hx]; rfl, hb⟩
  | ins i t =>
    obtain ⟨⟨⟨x, hx⟩, -⟩, h⟩ := h
    refine (Phase.asked (ins_ask ..) (Ba_keeps Zi_stays) h hx).mono ?_
    rintro e w' ⟨rfl, -, hb⟩
    exact ⟨by rw [← hx]; rfl, hb⟩
  | leave t =>
    obtain ⟨⟨x, hx⟩, h⟩ := h
    refine (Phase.asked (leave_task T N L G th).asks (Ba_keeps Zx_stays) h hx).mono ?_
    rintro e w' ⟨rfl, -, hb⟩
    exact ⟨by rw [← hx]; rfl, hb⟩
  | idle =>
    refine (Idle.asked (Ba_keeps Zx_stays) h).mono ?_
    rintro e w' ⟨rfl, -, hb⟩
    exact ⟨rfl, hb⟩
theorem Start_next {w : World} {p k : Nat} {S : Nat → Prop} {T N L G th kd dl dr hh cn : Int} {l : Nat} {lb : Ls} {s : SrM.St} (h : Starts w p S T N L G th kd dl dr hh cn l k lb s) : Calls Tryz.prog 25 #[.pointer (some ⟨p, 0, none⟩)] w fun e w' => e = .returned (ansV (SrM.stA T L (IntKind.u64.wrap dl) (IntKind.u64.wrap (DM.heightI dr L)) s)) ∧ Below w.heap.size w w' := by
  have HN := Lib.hid (Flow_next (h.later (box_below w (.cells #[.int .i64 0, .int .i64 0, .int .u64 0, .int .u64 0, .int .u64 0] 63))))
  unfold ansV ansD at HN ⊢
  generalize (SrM.stA T L (IntKind.u64.wrap dl) (IntKind.u64.wrap (DM.heightI dr L)) s).isSome = bo at HN ⊢
  generalize (SrM.stA T L (IntKind.u64.wrap dl) (IntKind.u64.wrap (DM.heightI dr L)) s).getD (0, 0, 0, 0, 0) = d at HN ⊢
  clear h
  go_enter Tryz.func25, Tryz.ntmps25
  go_wp2_with fail
  refine HN.out.mono ?_
  rintro e w1 ⟨rfl, hb⟩
  obtain ⟨⟨r0, r1, r2, r3, r4⟩, g0, g1, g2, g3, g4⟩ := res5 hb
  obtain ⟨⟨s0, s1, s2, s3, s4⟩, hB⟩ := set5 hb (.int .i64 d.1) (.int .i64 d.2.1) (.int .u64 d.2.2.1) (.int .u64 d.2.2.2.1) (.int .u64 d.2.2.2.2)
  have HB := Lib.hid hB
  clear hB hb
  go_wp2
  exact bodyPost_ret (v := .tuple #[.agg #[.int .i64 d.1, .int .i64 d.2.1, .int .u64 d.2.2.1, .int .u64 d.2.2.2.1, .int .u64 d.2.2.2.2], .bool bo]) (by simp [results, Tryz.results25, go_sem, s0, s1, s2, s3, s4]) rfl ⟨rfl, HB.out⟩
/-- A deed is counted. -/
theorem step_phase {w : World} {p d n : Nat} {S : Nat → Prop} {T N L G th kd dl dr hh cn err hd : Int} {l : Nat} {acts : List Act4} {ok : Bool} {σ : Type} {ty : TypeId} {nf tf : FuncId} {I : Nat → World → (Nat → Prop) → σ → Prop} {ask : σ → Option D} (hT : IsAsk ty nf tf I ask) {fv : Value} {Z : Side} (hZ : Stays Z) {t : σ} (h : Phase ty fv I (Ba p T N L G th kd dl dr hh cn l n acts err ok hd Z) 93 w p d S t) (hn : n < 1000000) :
    Calls Tryz.prog 58 #[.pointer (some ⟨p, 2, none⟩)] w fun e w' => e = .returned (.tuple #[]) ∧ Phase ty fv I (Ba p T N L G th kd dl dr hh cn l (n + 1) acts err ok hd Z) 93 w' p d S t ∧ Only (fun j => j = p) w w' := by
  obtain ⟨h1, h2, pb, q, SM, X, rest, hF, hP, hI, ⟨A, g, U, V, rfl, hA, hg, hz⟩, h3, h4⟩ := h
  refine (Step_at (w := w) (p := p) (n := n) (v0 := .pointer (some ⟨pb, 0, none⟩)) (v1 := .int .i64 (d : Int)) (A := A) (rest := [.int .i64 T, .int .i64 N, .int .i64 L, .int .u64 G, .int .i64 th, .int .i64 kd, .int .i64 dl, .int .u64 dr, .int .u64 hh, .int .i64 cn, .pointer (some ⟨l, 0, none⟩), U, V, .int .i64 err, .bool ok, .int .u64 hd, .slice none 0 0]) (hty := 93) hF hn).mono ?_
  rintro e w' ⟨rfl, k1, ho⟩
  have hzz := ho.size
  exact ⟨rfl, ⟨h1, fun j e => Nat.lt_of_lt_of_le (h2 j e) hzz, pb, q, SM, X, _, k1, hP.only ho fun e => (h3 pb (.inr (.inr rfl))).2 e, hT.only hI ho fun j e z => (h3 j (.inl e)).2 z, ⟨A, g, U, V, rfl, hA.only ho (fun e z => e z), hg, hZ.only hz ho fun j e z => (h3 j (.inr (.inl e))).2 z⟩, h3, h4⟩, ho⟩
/-- An act is noted, amid the bringing in. -/
theorem note_phase {w : World} {p d n : Nat} {S : Nat → Prop} {T N L G th kd dl dr hh cn err hd : Int} {l : Nat} {acts : List Act4} {ok : Bool} {σ : Type} {ty : TypeId} {nf tf : FuncId} {I : Nat → World → (Nat → Prop) → σ → Prop} {ask : σ → Option D} (hT : IsAsk ty nf tf I ask) {fv : Value} {t : σ} (h : Phase ty fv I (Ba p T N L G th kd dl dr hh cn l n acts err ok hd Zi) 93 w p d S t) (hac : acts.length < 1000000) (kd2 hv dv : Int) :
    Calls Tryz.prog 61 #[.pointer (some ⟨p, 2, none⟩), .int .i64 kd2, .int .u64 hv, .int .i64 dv] w fun e w' => e = .returned (.tuple #[]) ∧ (∃ S', Phase ty fv I (Ba p T N L G th kd dl dr hh cn l n (acts ++ [(kd2, hv, dv, (n : Int))]) err ok hd Zi) 93 w' p d S' t ∧ Grown w w' S S') ∧ Same p 3 w w' ∧ ∀ j, 4 ≤ j → w'.cell? ⟨p, j, none⟩ = w.cell? ⟨p, j, none⟩ := by
  obtain ⟨h1, h2, pb, q, SM, X, rest, hF, hP, hI, ⟨A, g, U, V, rfl, hA, hg, hz⟩, h3, h4, h5, h6⟩ := h
  refine (Note_at (w := w) (p := p) (n := n) (g := g) (v0 := .pointer (some ⟨pb, 0, none⟩)) (v1 := .int .i64 (d : Int)) (A := A) (rest := [.int .i64 T, .int .i64 N, .int .i64 L, .int .u64 G, .int .i64 th, .int .i64 kd, .int .i64 dl, .int .u64 dr, .int .u64 hh, .int .i64 cn, .pointer (some ⟨l, 0, none⟩), U, V, .int .i64 err, .bool ok, .int .u64 hd, .slice none 0 0]) (hty := 93) (l := acts) hF hA hac kd2 hv dv).mono ?_
  rintro e w' ⟨rfl, g', A', k1, k2, k3, k4⟩
  have hF2 : HeadAt w' p (some pb) d [.int .i64 (n : Int), A', .int .i64 T, .int .i64 N, .int .i64 L, .int .u64 G, .int .i64 th, .int .i64 kd, .int .i64 dl, .int .u64 dr, .int .u64 hh, .int .i64 cn, .pointer (some ⟨l, 0, none⟩), U, V, .int .i64 err, .bool ok, .int .u64 hd, .slice none 0 0] 93 := k1
  have hzz := k4.size
  have hgl : g' < w'.heap.size := by obtain ⟨-, -, -, -, -, z⟩ := k2; exact z
  have hXw : ∀ j, SM j ∨ X j ∨ j = pb → j < w.heap.size := fun j e => h2 j (h3 j e).1
  have hgX : g ≠ p → X g := hg
  have hS : g' ≠ p → S g' ∨ w.heap.size ≤ g' := fun e => k3.imp (fun y => by subst y; exact (h3 _ (.inr (.inl (hg e)))).1) id
  have hR : ∀ j, (SM j ∨ j = pb) → ¬ (j = p ∨ (j = g ∧ g ≠ p)) := fun j e z => by
    rcases z with z | ⟨z, z2⟩
    · rcases e with e | e
      · exact (h3 j (.inl e)).2 z
      · exact (h3 j (.inr (.inr e))).2 z
    · rcases e with e | e
      · exact h6 j e (z ▸ hg z2)
      · exact h5 (e ▸ z ▸ hg z2)
  refine ⟨rfl, ⟨fun j => S j ∨ (j = g' ∧ g' ≠ p), ⟨.inl h1, fun j e => e.elim (fun e => Nat.lt_of_lt_of_le (h2 j e) hzz) fun e => by omega, pb, q, SM, fun j => X j ∨ (j = g' ∧ g' ≠ p), _, hF2, hP.only k4 (hR pb (.inr rfl)), hT.only hI k4 fun j e => hR j (.inl e), ⟨A', g', U, V, rfl, k2, fun e => .inr ⟨rfl, e⟩, hz⟩, fun j e => ?_, h4, fun e => ?_, fun j e z => ?_⟩, k4.wide fun j e => .inl (e.elim (fun e => e ▸ h1) fun e => (h3 j (.inr (.inl (e.1 ▸ hg e.2)))).1), fun j e => e.elim .inl fun e => (hS e.2).elim (fun y => .inl (e.1 ▸ y)) fun y => .inr (by omega)⟩, fun j a b => ?_, fun j a => ?_⟩
  · rcases e with e | (e | e) | e
    · exact ⟨.inl (h3 j (.inl e)).1, (h3 j (.inl e)).2⟩
    · exact ⟨.inl (h3 j (.inr (.inl e))).1, (h3 j (.inr (.inl e))).2⟩
    · exact ⟨.inr e, fun z => e.2 (e.1 ▸ z)⟩
    · exact ⟨.inl (h3 j (.inr (.inr e))).1, (h3 j (.inr (.inr e))).2⟩
  · rcases e with e | e
    · exact h5 e
    · rcases k3 with y | y
      · exact h5 (e.1 ▸ y ▸ hg (y ▸ e.2))
      · have := hXw pb (.inr (.inr rfl)); omega
  · rcases z with z | z
    · exact h6 j e z
    · rcases k3 with y | y
      · exact h6 j e (z.1 ▸ y ▸ hg (y ▸ z.2))
      · have := hXw j (.inl e); omega
  · obtain rfl : j = 2 := by omega
    rw [(cell_heap hF 2).1, (cell_heap hF2 2).1]
    rfl
  · rw [(cell_heap hF j).1, (cell_heap hF2 j).1]
    obtain ⟨i, rfl⟩ : ∃ i, j = i + 4 := ⟨j - 4, by omega⟩
    simp
theorem tell_quiet {w : World} {p : Nat} {f : Int} {x : D} {b b' : Bool} {Q1 Q2 : World → Prop} (HN : Calls Tryz.prog 25 #[.pointer (some ⟨p, 0, none⟩)] w fun e w' => e = .returned (ansV (some x)) ∧ Below w.heap.size w w') (HS : ∀ W, Below w.heap.size w W → Calls Tryz.prog 58 #[.pointer (some ⟨p, 2, none⟩)] W fun e w' => e = .returned (.tuple #[]) ∧ Q1 w') (HL1 : ∀ W, Q1 W → ∃ V, W.cell? ⟨p, 16, none⟩ = some V ∧ Calls Tryz.prog 59 #[V] W fun e w' => e = .returned (.bool b) ∧ W = w') (HT : ∀ W, Q1 W → Calls Tryz.prog 60 #[.pointer (some ⟨p, 0, none⟩), .int .u64 f] W fun e w' => e = .returned (.tuple #[]) ∧ Q2 w') (HL2 : ∀ W, Q2 W → ∃ V, W.cell? ⟨p, 16, none⟩ = some V ∧ Calls Tryz.prog 59 #[V] W fun e w' => e = .returned (.bool b') ∧ W = w') (hb : b' = true → b = true) :
    Calls Tryz.prog 26 #[.pointer (some ⟨p, 0, none⟩), .int .u64 f] w fun e w' => e = .returned (.tuple #[]) ∧ Q2 w' := by
  have HNX := Lib.hid HN
  unfold ansV ansD at HNX
  simp only [Option.isSome_some, Option.getD_some] at HNX
  have HSX := Lib.hid HS
  have H1 := Lib.hid HL1
  have HTX := Lib.hid HT
  have H2 := Lib.hid HL2
  have HB := Lib.hid hb
  clear HN HS HL1 HT HL2 hb
  go_enter Tryz.func26, Tryz.ntmps26
  go_wp2_with fail
  refine HNX.out.mono ?_
  rintro e w1 ⟨rfl, hb1⟩
  go_wp2_with fail
  refine (HSX.out _ (bs_b hb1 (box_below _ _))).mono ?_
  rintro e w2 ⟨rfl, hq1⟩
  have HQ1 := Lib.hid hq1
  obtain ⟨V, c16, hL1⟩ := H1.out w2 hq1
  have HL1 := Lib.hid hL1
  clear hq1 hL1 hb1
  go_wp2_with fail
  refine HL1.out.mono ?_
  rintro e w' ⟨rfl, rfl⟩
  go_wp2_with fail
  refine (HTX.out _ HQ1.out).mono ?_
  rintro e w3 ⟨rfl, hq2⟩
  have HQ2 := Lib.hid hq2
  obtain ⟨V2, d16, hL2⟩ := H2.out w3 hq2
  have HL2 := Lib.hid hL2
  clear hq2 hL2 c16
  go_wp2_with fail
  refine HL2.out.mono ?_
  rintro e w' ⟨rfl, rfl⟩
  cases b' with
  | false =>
    go_wp2
    exact bodyPost_end (results_none rfl _ _ _) rfl ⟨rfl, HQ2.out⟩
  | true =>
    obtain rfl := HB.out rfl
    go_wp2
    exact bodyPost_end (results_none rfl _ _ _) rfl ⟨rfl, HQ2.out⟩
theorem tell_noted {w : World} {p : Nat} {f : Int} {x : D} {b b' : Bool} {Q1 Q2 : World → Prop} (HN : Calls Tryz.prog 25 #[.pointer (some ⟨p, 0, none⟩)] w fun e w' => e = .returned (ansV (some x)) ∧ Below w.heap.size w w') (HS : ∀ W, Below w.heap.size w W → Calls Tryz.prog 58 #[.pointer (some ⟨p, 2, none⟩)] W fun e w' => e = .returned (.tuple #[]) ∧ Q1 w') (HL1 : ∀ W, Q1 W → ∃ V, W.cell? ⟨p, 16, none⟩ = some V ∧ Calls Tryz.prog 59 #[V] W fun e w' => e = .returned (.bool b) ∧ W = w') (HT : ∀ W, Q1 W → Calls Tryz.prog 60 #[.pointer (some ⟨p, 0, none⟩), .int .u64 f] W fun e w' => e = .returned (.tuple #[]) ∧ Q2 w') {hv dv : Int} {Q3 : World → Prop} (hb : b = false)
    (HL2 : ∀ W, Q2 W → ∃ V, (W.cell? ⟨p, 16, none⟩ = some V ∧ W.cell? ⟨p, 10, none⟩ = some (.int .i64 dv)) ∧ (Calls Tryz.prog 59 #[V] W fun e w' => e = .returned (.bool true) ∧ W = w') ∧ (Calls Tryz.prog 62 #[V] W.drew fun e w' => e = .returned (.int .u64 hv) ∧ W.drew = w') ∧
      Calls Tryz.prog 61 #[.pointer (some ⟨p, 2, none⟩), .int .i64 1, .int .u64 hv, .int .i64 dv] W.drew fun e w' => e = .returned (.tuple #[]) ∧ (w'.cell? ⟨p, 16, none⟩ = some V ∧ w'.cell? ⟨p, 10, none⟩ = some (.int .i64 dv)) ∧ Q3 w') :
    Calls Tryz.prog 26 #[.pointer (some ⟨p, 0, none⟩), .int .u64 f] w fun e w' => e = .returned (.tuple #[]) ∧ Q3 w' := by
  subst hb
  have HNX := Lib.hid HN
  unfold ansV ansD at HNX
  simp only [Option.isSome_some, Option.getD_some] at HNX
  have HSX := Lib.hid HS
  have H1 := Lib.hid HL1
  have HTX := Lib.hid HT
  have H2 := Lib.hid HL2
  clear HN HS HL1 HT HL2
  go_enter Tryz.func26, Tryz.ntmps26
  go_wp2_with fail
  refine HNX.out.mono ?_
  rintro e w1 ⟨rfl, hb1⟩
  go_wp2_with fail
  refine (HSX.out _ (bs_b hb1 (box_below _ _))).mono ?_
  rintro e w2 ⟨rfl, hq1⟩
  have HQ1 := Lib.hid hq1
  obtain ⟨V, c16, hL1⟩ := H1.out w2 hq1
  have HL1 := Lib.hid hL1
  clear hq1 hL1 hb1
  go_wp2_with fail
  refine HL1.out.mono ?_
  rintro e w' ⟨rfl, rfl⟩
  go_wp2_with fail
  refine (HTX.out _ HQ1.out).mono ?_
  rintro e w3 ⟨rfl, hq2⟩
  obtain ⟨V2, ⟨d16, d10⟩, hL2, hH, hN⟩ := H2.out w3 hq2
  have HL2 := Lib.hid hL2
  have HHN := Lib.hid (And.intro hH hN)
  have HD := Lib.hid (show w3.drew.cell? ⟨p, 16, none⟩ = some V2 ∧ w3.drew.cell? ⟨p, 10, none⟩ = some (.int .i64 dv) from ⟨d16, d10⟩)
  clear hq2 hL2 hH hN c16
  go_wp2_with fail
  refine HL2.out.mono ?_
  rintro e w' ⟨rfl, rfl⟩
  go_upto_region 6 with fail
  go_region_held3 (fun W => W.cell? ⟨p, 16, none⟩ = some V2 ∧ W.cell? ⟨p, 10, none⟩ = some (.int .i64 dv))
    ((first | (with_reducible exact HD.out) | (with_reducible assumption) | (with_reducible exact HE.out.1)))
    (first
      | (go_at_call 62; refine HHN.out.1.mono ?_; rintro e w' ⟨rfl, rfl⟩)
      | (go_at_call 61; refine HHN.out.2.mono ?_; rintro e w6 ⟨rfl, h8, h⟩; have HE := Lib.hid (And.intro h8 h); clear h h8))
  all_goals go_wp2
  all_goals exact bodyPost_end (results_none rfl _ _ _) rfl ⟨rfl, HE.out.2⟩
/-- A starter that is done is told nothing. -/
theorem tell_idle {w : World} {p : Nat} {f : Int} (HN : Calls Tryz.prog 25 #[.pointer (some ⟨p, 0, none⟩)] w fun e w' => e = .returned (ansV none) ∧ Below w.heap.size w w') : Calls Tryz.prog 26 #[.pointer (some ⟨p, 0, none⟩), .int .u64 f] w fun e w' => e = .returned (.tuple #[]) ∧ Below w.heap.size w w' := by
  have HNX := Lib.hid HN
  unfold ansV ansD at HNX
  simp only [Option.isSome_none, Option.getD_none] at HNX
  clear HN
  go_enter Tryz.func26, Tryz.ntmps26
  go_wp2_with fail
  refine HNX.out.mono ?_
  rintro e w1 ⟨rfl, hb1⟩
  have HB := Lib.hid (fun o => bs_b hb1 (box_below w1 o))
  clear hb1
  go_wp2
  exact bodyPost_ret (v := .tuple #[]) (results_none rfl _ _ _) rfl ⟨rfl, HB.out _⟩
/-- The limbo, when the starter is told a word. -/
def lbT (L dl : Int) (lb : Ls) (s : SrM.St) (f : Int) : Ls := match s.pl with
  | .ins i t => addO lb (retI L dl t f)
  | _ => lb
theorem ba_cell {w : World} {p d n : Nat} {S : Nat → Prop} {T N L G th kd dl dr hh cn err hd : Int} {l : Nat} {acts : List Act4} {ok : Bool} {σ : Type} {ty : TypeId} {I : Nat → World → (Nat → Prop) → σ → Prop} {fv : Value} {Z : Side} {t : σ} (h : Phase ty fv I (Ba p T N L G th kd dl dr hh cn l n acts err ok hd Z) 93 w p d S t) : ∃ g X q SM U V, w.cell? ⟨p, 16, none⟩ = some V ∧ w.cell? ⟨p, 10, none⟩ = some (.int .i64 dl) ∧ Z g w X q U V ∧ I q w SM t := by
  obtain ⟨-, -, pb, q, SM, X, rest, hF, hP, hI, ⟨A, g, U, V, rfl, hA, hg, hz⟩, -⟩ := h
  exact ⟨g, X, q, SM, U, V, (cells_st hF).2.2.2.2.2.2.1, (cells_st hF).2.2.1, hz, hI⟩
theorem over_lives {w : World} {g l : Nat} {X : Nat → Prop} {T N L G dl dw tw tall : Int} {lb : Ls} {b : Bool} {V : Value} (h : Over T N L G dl dw tw tall l lb b g w X V) : Calls Tryz.prog 59 #[V] w fun e w' => e = .returned (.bool b) ∧ w = w' := by
  rcases h with ⟨rfl, rfl, -⟩ | ⟨rfl, qi, SI, k, i, s, rfl, h1, h2, -⟩
  · exact Lives_nil w
  · rw [← h2]; exact Lives_any h1
/-- Whether its timer lives, as its cells tell. -/
theorem lives_stand {w : World} {p k : Nat} {S : Nat → Prop} {T N L G th kd dl dr hh cn : Int} {l : Nat} {lb : Ls} {s : SrM.St} (h : Stand w p S T N L G th kd dl dr hh cn l k lb s) : ∃ V, w.cell? ⟨p, 16, none⟩ = some V ∧ Calls Tryz.prog 59 #[V] w fun e w' => e = .returned (.bool (SrM.livesP s)) ∧ w = w' := by
  obtain ⟨pl, n, acts, err, ok, hd⟩ := s
  cases pl with
  | pin t =>
    obtain ⟨g, X, q, SM, U, V, c, -, ⟨-, rfl, -⟩, -⟩ := ba_cell h.2
    exact ⟨_, c, Lives_nil w⟩
  | pop t =>
    obtain ⟨g, X, q, SM, U, V, c, -, ⟨-, rfl, -⟩, -⟩ := ba_cell h.2
    exact ⟨_, c, Lives_nil w⟩
  | ins i t =>
    obtain ⟨g, X, q, SM, U, V, c, -, ⟨-, rfl⟩, hI⟩ := ba_cell h.2
    exact ⟨_, c, Lives_any hI⟩
  | leave t =>
    obtain ⟨g, X, q, SM, U, V, c, -, hz, -⟩ := ba_cell h.2
    exact ⟨_, c, over_lives hz⟩
  | idle =>
    obtain ⟨-, -, q, X, rest, hF, ⟨A, g, U, V, rfl, hA, hg, hz⟩, -⟩ := h
    exact ⟨V, (cells_st hF).2.2.2.2.2.2.1, over_lives hz⟩
/-- A deed is counted. -/
theorem step_stand {w : World} {p k : Nat} {S : Nat → Prop} {T N L G th kd dl dr hh cn : Int} {l : Nat} {lb : Ls} {s : SrM.St} {x : D} (h : Stand w p S T N L G th kd dl dr hh cn l k lb s) (hx : SrM.stA T L (IntKind.u64.wrap dl) (IntKind.u64.wrap (DM.heightI dr L)) s = some x) (hn : s.n < 1000000) :
    Calls Tryz.prog 58 #[.pointer (some ⟨p, 2, none⟩)] w fun e w' => e = .returned (.tuple #[]) ∧ Stand w' p S T N L G th kd dl dr hh cn l k lb (SrM.count s) ∧ Only (fun j => j = p) w w' := by
  obtain ⟨pl, n, acts, err, ok, hd⟩ := s
  cases pl with
  | pin t =>
    refine (step_phase (pin_task T N L G th).asks Zp_stays h.2 hn).mono ?_
    rintro e w' ⟨rfl, k1, k2⟩
    exact ⟨rfl, ⟨h.1, k1⟩, k2⟩
  | pop t =>
    refine (step_phase (pop_task T N L G).asks Zo_stays h.2 hn).mono ?_
    rintro e w' ⟨rfl, k1, k2⟩
    exact ⟨rfl, ⟨h.1, k1⟩, k2⟩
  | ins i t =>
    refine (step_phase (ins_ask ..) Zi_stays h.2 hn).mono ?_
    rintro e w' ⟨rfl, k1, k2⟩
    exact ⟨rfl, ⟨h.1, k1⟩, k2⟩
  | leave t =>
    refine (step_phase (leave_task T N L G th).asks Zx_stays h.2 hn).mono ?_
    rintro e w' ⟨rfl, k1, k2⟩
    exact ⟨rfl, ⟨h.1, k1⟩, k2⟩
  | idle => cases hx
theorem ins_up {w : World} {q k : Nat} {S : Nat → Prop} {T N L G i dl dw tw tall : Int} {l : Nat} {lb : Ls} {t : InM.St} (h : InsI T N L G l i dl dw tw tall k lb q w S t) : InM.Ok T L tall k t := h.1
/-- Its flow is told a word. -/
theorem flow_stand {w : World} {p k : Nat} {S : Nat → Prop} {T N L G th kd dl dr hh cn : Int} {l : Nat} {lb : Ls} {s : SrM.St} {f : Int} {x : D} (h : Stand w p S T N L G th kd dl dr hh cn l k lb s) (hx : SrM.stA T L (IntKind.u64.wrap dl) (IntKind.u64.wrap (DM.heightI dr L)) s = some x) (hT : 1 ≤ T ∧ T ≤ 9223372036854775807) (hL : 1 ≤ L ∧ L ≤ 9223372036854775807) (hdr : 0 ≤ dr ∧ dr < 18446744073709551616) (hac : s.acts.length < 1000000) (hk : k + 1 ≤ 1000000) (hf : Word f) :
    Calls Tryz.prog 60 #[.pointer (some ⟨p, 0, none⟩), .int .u64 f] w fun e w' => e = .returned (.tuple #[]) ∧ ∃ S', Stand w' p S' T N L G th kd dl dr hh cn l (k + 1) (lbT L dl lb s f) (SrM.flT T L th dl (IntKind.u64.wrap dl) (IntKind.u64.wrap (DM.heightI dr L)) (DM.heightI dr L) s f) ∧ Grown w w' S S' := by
  obtain ⟨pl, n, acts, err, ok, hd⟩ := s
  cases pl with
  | pin t =>
    obtain ⟨⟨-, hlb, hok⟩, h⟩ := h
    have hx : pinA t = some x := hx
    refine Phase.told (pin_task T N L G th).asks (Ba_keeps Zp_stays) h hx (s' := pinT t f) (I' := PinI T N L G th) (fun q SM w1 g1 g2 => (pin_task T N L G th).tell g1 hf) fun w2 S2 g1 g2 => ?_
    by_cases he : (pinA (pinT t f)).isSome = true
    · rw [show SrM.flT T L th dl (IntKind.u64.wrap dl) (IntKind.u64.wrap (DM.heightI dr L)) (DM.heightI dr L) ⟨.pin t, n, acts, err, ok, hd⟩ f = ⟨.pin (pinT t f), n, acts, err, ok, hd⟩ from if_pos he]
      obtain ⟨y, hy⟩ := Option.isSome_iff_exists.1 he
      refine (Phase.asked (pin_task T N L G th).asks (Ba_keeps Zp_stays) g1 hy).mono ?_
      rintro e w' ⟨rfl, k1, hb⟩
      exact ⟨⟨_, rfl⟩, S2, ⟨⟨⟨y, hy⟩, hlb, hok⟩, k1⟩, g2.trans (Grown.below S2 hb)⟩
    · rw [show SrM.flT T L th dl (IntKind.u64.wrap dl) (IntKind.u64.wrap (DM.heightI dr L)) (DM.heightI dr L) ⟨.pin t, n, acts, err, ok, hd⟩ f = ⟨.pop ⟨1, 0, 0⟩, n, acts, err, ok, hd⟩ from if_neg he]
      refine (Phase.passed (n := 0) (fv2 := meth 73 p) (E2 := Ba p T N L G th kd dl dr hh cn l n acts err ok hd (Zo l lb)) (s2 := ⟨1, 0, 0⟩) (pin_task T N L G th).asks (pop_task T N L G).asks (Ba_keeps Zp_stays) (Ba_keeps Zo_stays) g1 (by decide) (by simpa using he) (x := (1, 3, 0, 0, 0)) (PoM.popA_1 _ _ _ _) takeSlot_enter fun w1 hF => (takeSlot_any hF).mono ?_).mono ?_
      · rintro e w2 ⟨rfl, S2, k1, k2, k3⟩
        exact ⟨rfl, S2, k1, k2, k3, Same.zero _ _ _⟩
      · rintro e w' ⟨rfl, S3, k1, k2, -, -⟩
        exact ⟨⟨_, rfl⟩, S3, ⟨⟨⟨_, PoM.popA_1 _ _ _ _⟩, hlb, hok⟩, k1⟩, g2.trans k2⟩
  | pop t =>
    obtain ⟨⟨-, hlb, hok⟩, h⟩ := h
    have hok : ok = false := hok
    subst hok
    have hx : popA T L t = some x := hx
    refine Phase.told (pop_task T N L G).asks (Ba_keeps Zo_stays) h hx (s' := popT t f) (I' := PopI T N L G) (fun q SM w1 g1 g2 => (pop_task T N L G).tell g1 hf) fun w2 S2 g1 g2 => ?_
    by_cases he : (popA T L (popT t f)).isSome = true
    · rw [show SrM.flT T L th dl (IntKind.u64.wrap dl) (IntKind.u64.wrap (DM.heightI dr L)) (DM.heightI dr L) ⟨.pop t, n, acts, err, false, hd⟩ f = ⟨.pop (popT t f), n, acts, err, false, hd⟩ from if_pos he]
      obtain ⟨y, hy⟩ := Option.isSome_iff_exists.1 he
      refine (Phase.asked (pop_task T N L G).asks (Ba_keeps Zo_stays) g1 hy).mono ?_
      rintro e w' ⟨rfl, k1, hb⟩
      exact ⟨⟨_, rfl⟩, S2, ⟨⟨⟨y, hy⟩, hlb, rfl⟩, k1⟩, g2.trans (Grown.below S2 hb)⟩
    · by_cases hi : popI (popT t f) = 0
      · rw [show SrM.flT T L th dl (IntKind.u64.wrap dl) (IntKind.u64.wrap (DM.heightI dr L)) (DM.heightI dr L) ⟨.pop t, n, acts, err, false, hd⟩ f = SrM.out T th n (acts ++ [(5, 0, 0, (n : Int))]) 3 false hd from (if_neg he).trans (if_pos hi)]
        refine (Phase.passed (n := 0) (fv2 := .nilFunc) (E2 := Ba p T N L G th kd dl dr hh cn l n (acts ++ [(5, 0, 0, (n : Int))]) 3 false hd (Zx T N L G dl (IntKind.u64.wrap dl) (IntKind.u64.wrap (DM.heightI dr L)) (DM.heightI dr L) l lb false)) (s2 := ⟨2, ofI T 0 th, 0⟩) (pop_task T N L G).asks (leave_task T N L G th).asks (Ba_keeps Zo_stays) (Ba_keeps Zx_stays) g1 (by decide) (by simpa using he) (x := (2, ofI T 0 th, 0, 0, 0)) (PiM.pinA_2 _ _) bringIn_enter fun w1 hF => (bringIn_none hF hi hac).mono ?_).mono ?_
        · rintro e w2 ⟨rfl, S2, k1, k2, k3⟩
          exact ⟨rfl, S2, k1, k2, k3, Same.zero _ _ _⟩
        · rintro e w' ⟨rfl, S3, k1, k2, -, -⟩
          exact ⟨⟨_, rfl⟩, S3, ⟨⟨_, PiM.pinA_2 _ _⟩, k1⟩, g2.trans k2⟩
      · rw [show SrM.flT T L th dl (IntKind.u64.wrap dl) (IntKind.u64.wrap (DM.heightI dr L)) (DM.heightI dr L) ⟨.pop t, n, acts, err, false, hd⟩ f = ⟨.ins (popI (popT t f)) InM.start, n, acts, err, false, hd⟩ from (if_neg he).trans (if_neg hi)]
        refine (Phase.passed (n := 0) (fv2 := meth 105 p) (E2 := Ba p T N L G th kd dl dr hh cn l n acts err false hd Zi) (s2 := InM.start) (pop_task T N L G).asks (ins_ask T N L G l (popI (popT t f)) dl (IntKind.u64.wrap dl) (IntKind.u64.wrap (DM.heightI dr L)) (DM.heightI dr L) (k + 1) lb) (Ba_keeps Zo_stays) (Ba_keeps Zi_stays) g1 (by decide) (by simpa using he) (x := (1, atI T L (popI (popT t f)) 0, 0, 0, 0)) rfl bringIn_enter fun w1 hF => (bringIn_some (k := k + 1) hF rfl hi hT hL hdr hlb).mono ?_).mono ?_
        · rintro e w2 ⟨rfl, S2, k1, k2, k3⟩
          exact ⟨rfl, S2, k1, k2, k3, Same.zero _ _ _⟩
        · rintro e w' ⟨rfl, S3, k1, k2, -, -⟩
          exact ⟨⟨_, rfl⟩, S3, ⟨⟨⟨(1, atI T L (popI (popT t f)) 0, 0, 0, 0), rfl⟩, rfl⟩, k1⟩, g2.trans k2⟩
  | ins i t =>
    obtain ⟨⟨-, hok⟩, h⟩ := h
    have hok : ok = false := hok
    subst hok
    have hx : insA T L i (IntKind.u64.wrap dl) (IntKind.u64.wrap (DM.heightI dr L)) t = some x := hx
    refine Phase.told (ins_ask T N L G l i dl (IntKind.u64.wrap dl) (IntKind.u64.wrap (DM.heightI dr L)) (DM.heightI dr L) k lb) (Ba_keeps Zi_stays) h hx (s' := insT T L i dl (IntKind.u64.wrap dl) (IntKind.u64.wrap (DM.heightI dr L)) (DM.heightI dr L) t f) (I' := InsI T N L G l i dl (IntKind.u64.wrap dl) (IntKind.u64.wrap (DM.heightI dr L)) (DM.heightI dr L) (k + 1) (addO lb (retI L dl t f))) (fun q SM w1 g1 g2 => ins_told g1 hk hf) fun w2 S2 g1 g2 => ?_
    by_cases he : (insA T L i (IntKind.u64.wrap dl) (IntKind.u64.wrap (DM.heightI dr L)) (insT T L i dl (IntKind.u64.wrap dl) (IntKind.u64.wrap (DM.heightI dr L)) (DM.heightI dr L) t f)).isSome = true
    · rw [show SrM.flT T L th dl (IntKind.u64.wrap dl) (IntKind.u64.wrap (DM.heightI dr L)) (DM.heightI dr L) ⟨.ins i t, n, acts, err, false, hd⟩ f = ⟨.ins i (insT T L i dl (IntKind.u64.wrap dl) (IntKind.u64.wrap (DM.heightI dr L)) (DM.heightI dr L) t f), n, acts, err, false, hd⟩ from if_pos he]
      obtain ⟨y, hy⟩ := Option.isSome_iff_exists.1 he
      refine (Phase.asked (ins_ask T N L G l i dl (IntKind.u64.wrap dl) (IntKind.u64.wrap (DM.heightI dr L)) (DM.heightI dr L) (k + 1) (addO lb (retI L dl t f))) (Ba_keeps Zi_stays) g1 hy).mono ?_
      rintro e w' ⟨rfl, k1, hb⟩
      exact ⟨⟨_, rfl⟩, S2, ⟨⟨⟨y, hy⟩, rfl⟩, k1⟩, g2.trans (Grown.below S2 hb)⟩
    · have hn : insA T L i (IntKind.u64.wrap dl) (IntKind.u64.wrap (DM.heightI dr L)) (insT T L i dl (IntKind.u64.wrap dl) (IntKind.u64.wrap (DM.heightI dr L)) (DM.heightI dr L) t f) = none := by simpa using he
      rw [show SrM.flT T L th dl (IntKind.u64.wrap dl) (IntKind.u64.wrap (DM.heightI dr L)) (DM.heightI dr L) ⟨.ins i t, n, acts, err, false, hd⟩ f = SrM.out T th n acts err true (SrM.handS (insT T L i dl (IntKind.u64.wrap dl) (IntKind.u64.wrap (DM.heightI dr L)) (DM.heightI dr L) t f)) from if_neg he]
      obtain ⟨_, _, _, _, _, _, -, -, -, hI⟩ := ba_cell g1
      have hlv := SrM.lives_end (ins_up hI) hn
      refine (Phase.passed (n := 0) (fv2 := .nilFunc) (E2 := Ba p T N L G th kd dl dr hh cn l n acts err true (SrM.handS (insT T L i dl (IntKind.u64.wrap dl) (IntKind.u64.wrap (DM.heightI dr L)) (DM.heightI dr L) t f)) (Zx T N L G dl (IntKind.u64.wrap dl) (IntKind.u64.wrap (DM.heightI dr L)) (DM.heightI dr L) l (addO lb (retI L dl t f)) true)) (s2 := ⟨2, ofI T 0 th, 0⟩) (ins_ask T N L G l i dl (IntKind.u64.wrap dl) (IntKind.u64.wrap (DM.heightI dr L)) (DM.heightI dr L) (k + 1) (addO lb (retI L dl t f))) (leave_task T N L G th).asks (Ba_keeps Zi_stays) (Ba_keeps Zx_stays) g1 (by decide) hn (x := (2, ofI T 0 th, 0, 0, 0)) (PiM.pinA_2 _ _) tellHandle_enter fun w1 hF => (tellHandle_any hF hlv).mono ?_).mono ?_
      · rintro e w2 ⟨rfl, S2, k1, k2, k3⟩
        exact ⟨rfl, S2, k1, k2, k3, Same.zero _ _ _⟩
      · rintro e w' ⟨rfl, S3, k1, k2, -, -⟩
        exact ⟨⟨_, rfl⟩, S3, ⟨⟨_, PiM.pinA_2 _ _⟩, k1⟩, g2.trans k2⟩
  | leave t =>
    obtain ⟨-, h⟩ := h
    have hx : pinA t = some x := hx
    refine Phase.told (leave_task T N L G th).asks (Ba_keeps Zx_stays) h hx (s' := pinT t f) (I' := LeaveI T N L G th) (fun q SM w1 g1 g2 => (leave_task T N L G th).tell g1 hf) fun w2 S2 g1 g2 => ?_
    by_cases he : (pinA (pinT t f)).isSome = true
    · rw [show SrM.flT T L th dl (IntKind.u64.wrap dl) (IntKind.u64.wrap (DM.heightI dr L)) (DM.heightI dr L) ⟨.leave t, n, acts, err, ok, hd⟩ f = ⟨.leave (pinT t f), n, acts, err, ok, hd⟩ from if_pos he]
      obtain ⟨y, hy⟩ := Option.isSome_iff_exists.1 he
      refine (Phase.asked (leave_task T N L G th).asks (Ba_keeps Zx_stays) g1 hy).mono ?_
      rintro e w' ⟨rfl, k1, hb⟩
      exact ⟨⟨_, rfl⟩, S2, ⟨⟨y, hy⟩, k1⟩, g2.trans (Grown.below S2 hb)⟩
    · rw [show SrM.flT T L th dl (IntKind.u64.wrap dl) (IntKind.u64.wrap (DM.heightI dr L)) (DM.heightI dr L) ⟨.leave t, n, acts, err, ok, hd⟩ f = ⟨.idle, n, acts, err, ok, hd⟩ from if_neg he]
      refine (Phase.ended (leave_task T N L G th).asks (Ba_keeps Zx_stays) (E2 := Ba p T N L G th kd dl dr hh cn l n acts err ok hd (Zx T N L G dl (IntKind.u64.wrap dl) (IntKind.u64.wrap (DM.heightI dr L)) (DM.heightI dr L) l lb ok)) (fun {w X rest q SM} z1 z2 z3 => ⟨X, z2, fun j e => .inr e⟩) g1 (by decide) (by simpa using he)).mono ?_
      rintro e w' ⟨rfl, k1, hb⟩
      exact ⟨⟨_, rfl⟩, S2, k1, g2.trans ⟨hb, fun j e => .inl e⟩⟩
  | idle => cases hx
/-- A starter is told a word. -/
theorem Start_tell {w : World} {p k : Nat} {S : Nat → Prop} {T N L G th kd dl dr hh cn : Int} {l : Nat} {lb : Ls} {s : SrM.St} {f : Int} (h : Starts w p S T N L G th kd dl dr hh cn l k lb s) (hk : k + 1 ≤ 1000000) (hf : Word f) :
    Calls Tryz.prog 26 #[.pointer (some ⟨p, 0, none⟩), .int .u64 f] w fun e w' => e = .returned (.tuple #[]) ∧ ∃ S', Starts w' p S' T N L G th kd dl dr hh cn l (k + 1) (lbT L dl lb s f) (SrM.stT T L th dl (IntKind.u64.wrap dl) (IntKind.u64.wrap (DM.heightI dr L)) (DM.heightI dr L) s f) ∧ Grown w w' S S' := by
  have HN := Start_next h
  have hb0 := h
  obtain ⟨⟨hn, hac⟩, hB, hS⟩ := h
  obtain ⟨hT, hL, hdr⟩ := hB
  have hup : ∀ {W : World} {S' : Nat → Prop} {lb' : Ls} {s' : SrM.St}, Stand W p S' T N L G th kd dl dr hh cn l k lb' s' → Stand W p S' T N L G th kd dl dr hh cn l k lb' s' := fun h => h
  cases hx : SrM.stA T L (IntKind.u64.wrap dl) (IntKind.u64.wrap (DM.heightI dr L)) s with
  | none =>
    rw [hx] at HN
    have hpl : s.pl = .idle := by
      obtain ⟨pl, n, acts, err, ok, hd⟩ := s
      cases pl with
      | pin t => obtain ⟨⟨⟨x, hx2⟩, -⟩, -⟩ := hS; exact absurd (hx2.symm.trans hx) (by simp)
      | pop t => obtain ⟨⟨⟨x, hx2⟩, -⟩, -⟩ := hS; exact absurd (hx2.symm.trans hx) (by simp)
      | ins i t => obtain ⟨⟨⟨x, hx2⟩, -⟩, -⟩ := hS; exact absurd (hx2.symm.trans hx) (by simp)
      | leave t => obtain ⟨⟨x, hx2⟩, -⟩ := hS; exact absurd (hx2.symm.trans hx) (by simp)
      | idle => rfl
    rw [SrM.stT_none hx]
    refine (tell_idle HN).mono ?_
    rintro e w' ⟨rfl, hb⟩
    have hS' := Stand.only hS (only_below (fun _ => False) hb) fun _ _ => id
    refine ⟨rfl, S, ⟨⟨by omega, by omega⟩, ⟨hT, hL, hdr⟩, ?_⟩, Grown.below S hb⟩
    obtain ⟨pl, n, acts, err, ok, hd⟩ := s
    obtain rfl : pl = .idle := hpl
    exact hS'
  | some x =>
    rw [hx] at HN
    rw [SrM.stT_some hx]
    have hHS : ∀ W, Below w.heap.size w W → Calls Tryz.prog 58 #[.pointer (some ⟨p, 2, none⟩)] W fun e w' => e = .returned (.tuple #[]) ∧ Stand w' p S T N L G th kd dl dr hh cn l k lb (SrM.count s) ∧ Grown w w' S S := fun W hb => by
      refine (step_stand (Stand.only hS (only_below (fun _ => False) hb) fun _ _ => id) hx (by omega)).mono ?_
      rintro e w' ⟨rfl, k1, k2⟩
      exact ⟨rfl, k1, (Grown.below S hb).trans ⟨k2.wide fun j e => .inl (e ▸ hb0.own.1), fun j e => .inl e⟩⟩
    have hHL : ∀ W, (Stand W p S T N L G th kd dl dr hh cn l k lb (SrM.count s) ∧ Grown w W S S) → ∃ V, W.cell? ⟨p, 16, none⟩ = some V ∧ Calls Tryz.prog 59 #[V] W fun e w' => e = .returned (.bool (SrM.livesP s)) ∧ W = w' := fun W hq => lives_stand (s := SrM.count s) hq.1
    have hHT : ∀ W, (Stand W p S T N L G th kd dl dr hh cn l k lb (SrM.count s) ∧ Grown w W S S) → Calls Tryz.prog 60 #[.pointer (some ⟨p, 0, none⟩), .int .u64 f] W fun e w' => e = .returned (.tuple #[]) ∧ ∃ S', Stand w' p S' T N L G th kd dl dr hh cn l (k + 1) (lbT L dl lb s f) (SrM.flT T L th dl (IntKind.u64.wrap dl) (IntKind.u64.wrap (DM.heightI dr L)) (DM.heightI dr L) (SrM.count s) f) ∧ Grown w w' S S' := fun W hq => by
      refine (flow_stand (s := SrM.count s) hq.1 hx hT hL hdr (by show s.acts.length < _; omega) hk hf).mono ?_
      rintro e w' ⟨rfl, S', k1, k2⟩
      exact ⟨rfl, S', k1, hq.2.trans k2⟩
    have hcnt : (SrM.flT T L th dl (IntKind.u64.wrap dl) (IntKind.u64.wrap (DM.heightI dr L)) (DM.heightI dr L) (SrM.count s) f).n = s.n + 1 := by
      obtain ⟨pl, n, acts, err, ok, hd⟩ := s
      cases pl <;> unfold SrM.flT SrM.count <;> simp only <;> (repeat' split) <;> rfl
    have hlen : (SrM.flT T L th dl (IntKind.u64.wrap dl) (IntKind.u64.wrap (DM.heightI dr L)) (DM.heightI dr L) (SrM.count s) f).acts.length ≤ k + 1 ∧ (SrM.livesP (SrM.flT T L th dl (IntKind.u64.wrap dl) (IntKind.u64.wrap (DM.heightI dr L)) (DM.heightI dr L) (SrM.count s) f) = true ∧ SrM.livesP s = false → (SrM.flT T L th dl (IntKind.u64.wrap dl) (IntKind.u64.wrap (DM.heightI dr L)) (DM.heightI dr L) (SrM.count s) f).acts.length ≤ k) := by
      obtain ⟨pl, n, acts, err, ok, hd⟩ := s
      simp only at hac
      cases pl with
      | pin t => unfold SrM.flT SrM.count; simp only; split <;> exact ⟨by simp only; omega, fun _ => hac⟩
      | pop t =>
        obtain ⟨⟨-, -, hok⟩, -⟩ := hS
        have hok : ok = false := hok
        subst hok
        unfold SrM.flT SrM.count
        simp only
        split
        · exact ⟨by simp only; omega, fun _ => hac⟩
        · split
          · refine ⟨by unfold SrM.out; simp; omega, fun e => ?_⟩
            cases e.1
          · exact ⟨by simp only; omega, fun _ => hac⟩
      | ins i t => unfold SrM.flT SrM.count; simp only; split <;> exact ⟨Nat.le_succ_of_le hac, fun _ => hac⟩
      | leave t => unfold SrM.flT SrM.count; simp only; split <;> exact ⟨by simp only; omega, fun _ => hac⟩
      | idle => cases hx
    by_cases hq : SrM.livesP (SrM.flT T L th dl (IntKind.u64.wrap dl) (IntKind.u64.wrap (DM.heightI dr L)) (DM.heightI dr L) (SrM.count s) f) = true ∧ SrM.livesP s = false
    · rw [show SrM.after dl s (SrM.flT T L th dl (IntKind.u64.wrap dl) (IntKind.u64.wrap (DM.heightI dr L)) (DM.heightI dr L) (SrM.count s) f) = SrM.noted dl (SrM.flT T L th dl (IntKind.u64.wrap dl) (IntKind.u64.wrap (DM.heightI dr L)) (DM.heightI dr L) (SrM.count s) f) from if_pos hq]
      obtain ⟨i, t, hst⟩ : ∃ i t, (SrM.flT T L th dl (IntKind.u64.wrap dl) (IntKind.u64.wrap (DM.heightI dr L)) (DM.heightI dr L) (SrM.count s) f).pl = .ins i t := by
        obtain ⟨pl, n, acts, err, ok, hd⟩ := s
        cases pl with
        | pin t =>
          exfalso
          have h1 := hq.1
          unfold SrM.flT SrM.count at h1
          simp only at h1
          split at h1 <;> cases h1
        | pop t =>
          obtain ⟨⟨-, -, hok⟩, -⟩ := hS
          have hok : ok = false := hok
          subst hok
          exfalso
          have h1 := hq.1
          unfold SrM.flT SrM.count at h1
          simp only at h1
          split at h1
          · cases h1
          · split at h1 <;> cases h1
        | ins i t =>
          have he : (insA T L i (IntKind.u64.wrap dl) (IntKind.u64.wrap (DM.heightI dr L)) (insT T L i dl (IntKind.u64.wrap dl) (IntKind.u64.wrap (DM.heightI dr L)) (DM.heightI dr L) t f)).isSome = true := by
            refine SrM.lives_on hq.2 ?_
            have h1 := hq.1
            unfold SrM.flT SrM.count at h1
            simp only at h1
            split at h1
            · exact h1
            · rename_i he
              exact absurd (SrM.lives_end (k := k + 1) (T := T) (L := L) (i := i) (tall := (DM.heightI dr L)) (t := insT T L i dl (IntKind.u64.wrap dl) (IntKind.u64.wrap (DM.heightI dr L)) (DM.heightI dr L) t f) (InM.insT_ok (by obtain ⟨_, _, _, _, _, _, -, -, -, hI⟩ := ba_cell hS.2; exact ins_up hI) hL hk hf) (by simpa using he)) (by
                intro hl
                exact he (SrM.lives_on hq.2 hl))
          exact ⟨i, insT T L i dl (IntKind.u64.wrap dl) (IntKind.u64.wrap (DM.heightI dr L)) (DM.heightI dr L) t f, by unfold SrM.flT SrM.count; simp only; rw [if_pos he]⟩
        | leave t =>
          exfalso
          have h1 := hq.1
          have h2 := hq.2
          unfold SrM.flT SrM.count at h1
          simp only at h1
          split at h1 <;> exact absurd (h1.symm.trans h2) (by simp)
        | idle => cases hx
      generalize SrM.flT T L th dl (IntKind.u64.wrap dl) (IntKind.u64.wrap (DM.heightI dr L)) (DM.heightI dr L) (SrM.count s) f = s' at hq hHT hcnt hlen hst ⊢
      obtain ⟨pl', n', acts', err', ok', hd'⟩ := s'
      obtain rfl : pl' = .ins i t := hst
      have hlv : livesB t = true := hq.1
      refine (tell_noted (b' := true) (hv := SrM.handS t) (dv := dl) (Q3 := fun w' => ∃ S', Starts w' p S' T N L G th kd dl dr hh cn l (k + 1) (lbT L dl lb s f) (SrM.noted dl ⟨.ins i t, n', acts', err', ok', hd'⟩) ∧ Grown w w' S S') HN hHS hHL hHT hq.2 fun W hW => ?_).mono fun e w' h => h
      obtain ⟨S', ⟨⟨⟨y, hy⟩, hok⟩, hP⟩, hg⟩ := hW
      obtain ⟨g, X, q, SM, U, V, c16, c10, ⟨-, rfl⟩, hI⟩ := ba_cell hP
      have hdr2 : Below W.heap.size W W.drew := (Below.refl _ _).drew
      refine ⟨_, ⟨c16, c10⟩, by rw [← hlv]; exact Lives_any hI, Handle_any (Inserts.later hI hdr2), ?_⟩
      refine (note_phase (ins_ask ..) (Phase.later (ins_ask ..) (Ba_keeps Zi_stays) hP hdr2) (Nat.lt_of_le_of_lt (show acts'.length ≤ k from hlen.2 hq) (by omega)) 1 (SrM.handS t) dl).mono ?_
      rintro e w' ⟨rfl, ⟨S3, k1, k2⟩, k3, k4⟩
      exact ⟨rfl, ⟨(k4 16 (by omega)).trans c16, (k4 10 (by omega)).trans c10⟩, S3, ⟨⟨by have h5 := hcnt; simp only at h5; show n' ≤ k + 1; omega, by have := hlen.2 hq; simp only at this; show (acts' ++ _).length ≤ k + 1; simp; omega⟩, ⟨hT, hL, hdr⟩, ⟨⟨⟨y, hy⟩, hok⟩, k1⟩⟩, (hg.trans (Grown.below S' hdr2)).trans k2⟩
    · rw [show SrM.after dl s (SrM.flT T L th dl (IntKind.u64.wrap dl) (IntKind.u64.wrap (DM.heightI dr L)) (DM.heightI dr L) (SrM.count s) f) = SrM.flT T L th dl (IntKind.u64.wrap dl) (IntKind.u64.wrap (DM.heightI dr L)) (DM.heightI dr L) (SrM.count s) f from if_neg hq]
      refine (tell_quiet (b' := SrM.livesP (SrM.flT T L th dl (IntKind.u64.wrap dl) (IntKind.u64.wrap (DM.heightI dr L)) (DM.heightI dr L) (SrM.count s) f)) HN hHS hHL hHT (fun W hW => ?_) fun e => ?_).mono ?_
      · obtain ⟨S', h1, -⟩ := hW
        exact lives_stand h1
      · cases h5 : SrM.livesP s with
        | true => rfl
        | false => exact absurd ⟨e, h5⟩ hq
      · rintro e w' ⟨rfl, S', k1, k2⟩
        exact ⟨rfl, S', ⟨⟨by omega, hlen.1⟩, ⟨hT, hL, hdr⟩, k1⟩, k2⟩
end Go.Proofs.YtlagghghbpbcbaaGreatDoor.Srt

/- Package start (layer 31): how a starter is made, and what it answers. -/
namespace Go.Proofs.YtlagghghbpbcbaaGreatDoor.Srt
set_option maxRecDepth 20000
open Go.ChangeShapes Go.WideShapes Go.RowKit CM DM PM KM Lay Ints Plan Go.Proofs.YtlagghghbpbcbaaGreatDoor.Flows
open Go.Proofs.YtlagghghbpbcbaaGreatDoor.Limbo (Lim)
open LM (Ls lenL addL R2)
open Go.Proofs.YtlagghghbpbcbaaGreatDoor.Pin (Pins Unpins)
open Go.Proofs.YtlagghghbpbcbaaGreatDoor.Ins (Inserts)
set_option linter.unusedVariables false
set_option linter.unusedSimpArgs false
theorem four_set {W : World} {k : Nat} {v0 v1 v2 v3 : Value} {t : TypeId} (h : W.heap[k]? = some (.cells #[v0, v1, v2, v3] t (0, 0))) (u0 u1 u2 u3 : Value) :
    (W.frozen? ⟨k, 0, none⟩ = false ∧ W.frozen? ⟨k, 1, none⟩ = false ∧ W.frozen? ⟨k, 2, none⟩ = false ∧ W.frozen? ⟨k, 3, none⟩ = false) ∧ (W.cell? ⟨k, 0, none⟩ = some v0 ∧ W.cell? ⟨k, 1, none⟩ = some v1 ∧ W.cell? ⟨k, 2, none⟩ = some v2 ∧ W.cell? ⟨k, 3, none⟩ = some v3) ∧
    (((((W.setCell ⟨k, 0, none⟩ u0).setCell ⟨k, 1, none⟩ u1).setCell ⟨k, 2, none⟩ u2).setCell ⟨k, 3, none⟩ u3).cell? ⟨k, 0, none⟩ = some u0 ∧ ((((W.setCell ⟨k, 0, none⟩ u0).setCell ⟨k, 1, none⟩ u1).setCell ⟨k, 2, none⟩ u2).setCell ⟨k, 3, none⟩ u3).cell? ⟨k, 1, none⟩ = some u1 ∧ ((((W.setCell ⟨k, 0, none⟩ u0).setCell ⟨k, 1, none⟩ u1).setCell ⟨k, 2, none⟩ u2).setCell ⟨k, 3, none⟩ u3).cell? ⟨k, 2, none⟩ = some u2 ∧ ((((W.setCell ⟨k, 0, none⟩ u0).setCell ⟨k, 1, none⟩ u1).setCell ⟨k, 2, none⟩ u2).setCell ⟨k, 3, none⟩ u3).cell? ⟨k, 3, none⟩ = some u3) := by
  have h0 := set_heap (j := 0) h u0
  have h1 := set_heap (j := 1) h0 u1
  have h2 := set_heap (j := 2) h1 u2
  have h3 := set_heap (j := 3) h2 u3
  exact ⟨⟨(cell_heap h 0).2, (cell_heap h 1).2, (cell_heap h 2).2, (cell_heap h 3).2⟩, ⟨(cell_heap h 0).1, (cell_heap h 1).1, (cell_heap h 2).1, (cell_heap h 3).1⟩, (cell_heap h3 0).1, (cell_heap h3 1).1, (cell_heap h3 2).1, (cell_heap h3 3).1⟩
theorem below_set4 {w W : World} {k : Nat} {u0 u1 u2 u3 : Value} (h : Below w.heap.size w W) (hk : w.heap.size ≤ k) : Below w.heap.size w ((((W.setCell ⟨k, 0, none⟩ u0).setCell ⟨k, 1, none⟩ u1).setCell ⟨k, 2, none⟩ u2).setCell ⟨k, 3, none⟩ u3) :=
  (((h.setCell (p := ⟨k, 0, none⟩) hk _).setCell (p := ⟨k, 1, none⟩) hk _).setCell (p := ⟨k, 2, none⟩) hk _).setCell (p := ⟨k, 3, none⟩) hk _
/-- What a starter answers. -/
def ansS (T L dw tw : Int) (s : SrM.St) : Value := if (SrM.stA T L dw tw s).isSome = true then .agg #[.int .i64 0, .bool false, .int .u64 0, .slice none 0 0] else .agg #[.int .i64 s.err, .bool s.ok, .int .u64 s.hd, .slice none 0 0]
set_option maxHeartbeats 2000000 in
theorem Answer_any {w : World} {p k : Nat} {S : Nat → Prop} {T N L G th kd dl dr hh cn : Int} {l : Nat} {lb : Ls} {s : SrM.St} (h : Starts w p S T N L G th kd dl dr hh cn l k lb s) : Calls Tryz.prog 15 #[.pointer (some ⟨p, 0, none⟩)] w fun e w' => e = .returned (ansS T L (IntKind.u64.wrap dl) (IntKind.u64.wrap (DM.heightI dr L)) s) ∧ Below w.heap.size w w' := by
  have hb := box_below w (.cells #[.int .i64 0, .bool false, .int .u64 0, .slice none 0 0] 50)
  have HN := Lib.hid (Start_next (h.later hb))
  have HC := Lib.hid (show ∀ W, Below w.heap.size w W → SrM.stA T L (IntKind.u64.wrap dl) (IntKind.u64.wrap (DM.heightI dr L)) s = none → (W.cell? ⟨p, 17, none⟩ = some (.int .i64 s.err) ∧ W.cell? ⟨p, 18, none⟩ = some (.bool s.ok) ∧ W.cell? ⟨p, 19, none⟩ = some (.int .u64 s.hd) ∧ W.cell? ⟨p, 20, none⟩ = some (.slice none 0 0)) from fun W hb hx => by
    obtain ⟨-, -, hS⟩ := h
    obtain ⟨pl, n, acts, err, ok, hd⟩ := s
    cases pl with
    | pin t => obtain ⟨⟨⟨x, hx2⟩, -⟩, -⟩ := hS; exact absurd (hx2.symm.trans hx) (by simp)
    | pop t => obtain ⟨⟨⟨x, hx2⟩, -⟩, -⟩ := hS; exact absurd (hx2.symm.trans hx) (by simp)
    | ins i t => obtain ⟨⟨⟨x, hx2⟩, -⟩, -⟩ := hS; exact absurd (hx2.symm.trans hx) (by simp)
    | leave t => obtain ⟨⟨x, hx2⟩, -⟩ := hS; exact absurd (hx2.symm.trans hx) (by simp)
    | idle =>
      obtain ⟨-, -, q, X, rest, hF, ⟨A, g, U, V, rfl, -⟩, -⟩ := hS
      exact (cells_st (hF.later hb)).2.2.2.2.2.2.2)
  unfold ansV ansD at HN
  unfold ansS
  cases hx : SrM.stA T L (IntKind.u64.wrap dl) (IntKind.u64.wrap (DM.heightI dr L)) s with
  | some x =>
    rw [hx] at HN
    simp only [Option.isSome_some, Option.getD_some] at HN
    clear h HC hx
    go_enter Tryz.func15, Tryz.ntmps15
    go_wp2_with fail
    refine HN.out.mono ?_
    rintro e w1 ⟨rfl, hb1⟩
    have hb2 := bs_b hb1 (box_below w1 (.cells #[.int .i64 x.1, .int .i64 x.2.1, .int .u64 x.2.2.1, .int .u64 x.2.2.2.1, .int .u64 x.2.2.2.2] 63))
    obtain ⟨⟨f0, f1, f2, f3⟩, ⟨a0, a1, a2, a3⟩, s0, s1, s2, s3⟩ := four_set ((hb2.block _ (by simp)).trans (new_heap w (.cells #[.int .i64 0, .bool false, .int .u64 0, .slice none 0 0] 50))) (.int .i64 0) (.bool false) (.int .u64 0) (.slice none 0 0)
    have HB := Lib.hid (below_set4 (u0 := .int .i64 0) (u1 := .bool false) (u2 := .int .u64 0) (u3 := .slice none 0 0) (bs_b hb hb2) (Nat.le_refl _))
    clear hb hb1 hb2
    go_wp2
    exact bodyPost_ret (v := .agg #[.int .i64 0, .bool false, .int .u64 0, .slice none 0 0]) (by simp [results, Tryz.results15, go_sem, s0, s1, s2, s3]) rfl ⟨rfl, HB.out⟩
  | none =>
    rw [hx] at HN
    simp only [Option.isSome_none, Option.getD_none] at HN
    have HCX := Lib.hid (fun W hb => HC.out W hb hx)
    clear h HC hx
    go_enter Tryz.func15, Tryz.ntmps15
    go_wp2_with fail
    refine HN.out.mono ?_
    rintro e w1 ⟨rfl, hb1⟩
    have hb2 := bs_b hb1 (box_below w1 (.cells #[.int .i64 0, .int .i64 0, .int .u64 0, .int .u64 0, .int .u64 0] 63))
    obtain ⟨⟨f0, f1, f2, f3⟩, ⟨a0, a1, a2, a3⟩, s0, s1, s2, s3⟩ := four_set ((hb2.block _ (by simp)).trans (new_heap w (.cells #[.int .i64 0, .bool false, .int .u64 0, .slice none 0 0] 50))) (.int .i64 s.err) (.bool s.ok) (.int .u64 s.hd) (.slice none 0 0)
    obtain ⟨c17, c18, c19, c20⟩ := HCX.out _ (bs_b hb hb2)
    have HB := Lib.hid (below_set4 (u0 := .int .i64 s.err) (u1 := .bool s.ok) (u2 := .int .u64 s.hd) (u3 := .slice none 0 0) (bs_b hb hb2) (Nat.le_refl _))
    clear hb hb1 hb2
    go_wp2
    exact bodyPost_ret (v := .agg #[.int .i64 s.err, .bool s.ok, .int .u64 s.hd, .slice none 0 0]) (by simp [results, Tryz.results15, go_sem, s0, s1, s2, s3]) rfl ⟨rfl, HB.out⟩
theorem Start_any {w : World} {T N L G th kd dl dr hh cn : Int} {l : Nat} {SL : Nat → Prop} {lb : Ls} (hT : 1 ≤ T ∧ T ≤ 9223372036854775807) (hL : 1 ≤ L ∧ L ≤ 9223372036854775807) (hdr : 0 ≤ dr ∧ dr < 18446744073709551616) (hd : 0 ≤ dl ∧ dl ≤ 1152921504606846976) (hl : Lim w l SL lb) (hlb : lenL lb ≤ 1000000) :
    Calls Tryz.prog 10 #[.agg #[.int .i64 T, .int .i64 N, .int .i64 L, .int .u64 G], .int .i64 th, .agg #[.int .i64 kd, .int .i64 dl, .int .u64 dr, .int .u64 hh, .int .i64 cn], .pointer (some ⟨l, 0, none⟩)] w fun e w' => ∃ p S, e = .returned (.pointer (some ⟨p, 0, none⟩)) ∧ Starts w' p S T N L G th kd dl dr hh cn l 0 lb (SrM.new T th) ∧ Grown w w' SL S ∧ w.heap.size ≤ p := by
  have hlt := hl.lt
  have HPI := Lib.hid (fun W : World => Pin.Pin_any T N L G th W)
  have hb3 : Below w.heap.size w (((w.alloc (.cells #[.int .i64 T, .int .i64 N, .int .i64 L, .int .u64 G] 24)).alloc (.cells #[.int .i64 kd, .int .i64 dl, .int .u64 dr, .int .u64 hh, .int .i64 cn] 26)).alloc (.cells #[.pointer none, .int .i64 0, .int .i64 0, .slice none 0 0, .int .i64 T, .int .i64 N, .int .i64 L, .int .u64 G, .int .i64 th, .int .i64 kd, .int .i64 dl, .int .u64 dr, .int .u64 hh, .int .i64 cn, .pointer (some ⟨l, 0, none⟩), .pointer none, .pointer none, .int .i64 0, .bool false, .int .u64 0, .slice none 0 0] 93)) := ((box_below w _).trans ((box_below _ _).mono (by simp))).trans ((box_below _ _).mono (by simp; omega))
  have hpc : (((w.alloc (.cells #[.int .i64 T, .int .i64 N, .int .i64 L, .int .u64 G] 24)).alloc (.cells #[.int .i64 kd, .int .i64 dl, .int .u64 dr, .int .u64 hh, .int .i64 cn] 26)).alloc (.cells #[.pointer none, .int .i64 0, .int .i64 0, .slice none 0 0, .int .i64 T, .int .i64 N, .int .i64 L, .int .u64 G, .int .i64 th, .int .i64 kd, .int .i64 dl, .int .u64 dr, .int .u64 hh, .int .i64 cn, .pointer (some ⟨l, 0, none⟩), .pointer none, .pointer none, .int .i64 0, .bool false, .int .u64 0, .slice none 0 0] 93)).heap[w.heap.size]? = some (.cells #[.int .i64 T, .int .i64 N, .int .i64 L, .int .u64 G] 24) := ((box_below _ _).block _ (by simp; omega)).trans (((box_below _ _).block _ (by simp)).trans (new_heap w _))
  have hsc : (((w.alloc (.cells #[.int .i64 T, .int .i64 N, .int .i64 L, .int .u64 G] 24)).alloc (.cells #[.int .i64 kd, .int .i64 dl, .int .u64 dr, .int .u64 hh, .int .i64 cn] 26)).alloc (.cells #[.pointer none, .int .i64 0, .int .i64 0, .slice none 0 0, .int .i64 T, .int .i64 N, .int .i64 L, .int .u64 G, .int .i64 th, .int .i64 kd, .int .i64 dl, .int .u64 dr, .int .u64 hh, .int .i64 cn, .pointer (some ⟨l, 0, none⟩), .pointer none, .pointer none, .int .i64 0, .bool false, .int .u64 0, .slice none 0 0] 93)).heap[w.heap.size + 1 + 1]? = some (.cells #[.pointer none, .int .i64 0, .int .i64 0, .slice none 0 0, .int .i64 T, .int .i64 N, .int .i64 L, .int .u64 G, .int .i64 th, .int .i64 kd, .int .i64 dl, .int .u64 dr, .int .u64 hh, .int .i64 cn, .pointer (some ⟨l, 0, none⟩), .pointer none, .pointer none, .int .i64 0, .bool false, .int .u64 0, .slice none 0 0] 93) := by
    have := new_heap ((w.alloc (.cells #[.int .i64 T, .int .i64 N, .int .i64 L, .int .u64 G] 24)).alloc (.cells #[.int .i64 kd, .int .i64 dl, .int .u64 dr, .int .u64 hh, .int .i64 cn] 26)) (.cells #[.pointer none, .int .i64 0, .int .i64 0, .slice none 0 0, .int .i64 T, .int .i64 N, .int .i64 L, .int .u64 G, .int .i64 th, .int .i64 kd, .int .i64 dl, .int .u64 dr, .int .u64 hh, .int .i64 cn, .pointer (some ⟨l, 0, none⟩), .pointer none, .pointer none, .int .i64 0, .bool false, .int .u64 0, .slice none 0 0] 93)
    simpa using this
  have HK := Lib.hid (show ∀ W, Below (((w.alloc (.cells #[.int .i64 T, .int .i64 N, .int .i64 L, .int .u64 G] 24)).alloc (.cells #[.int .i64 kd, .int .i64 dl, .int .u64 dr, .int .u64 hh, .int .i64 cn] 26)).alloc (.cells #[.pointer none, .int .i64 0, .int .i64 0, .slice none 0 0, .int .i64 T, .int .i64 N, .int .i64 L, .int .u64 G, .int .i64 th, .int .i64 kd, .int .i64 dl, .int .u64 dr, .int .u64 hh, .int .i64 cn, .pointer (some ⟨l, 0, none⟩), .pointer none, .pointer none, .int .i64 0, .bool false, .int .u64 0, .slice none 0 0] 93)).heap.size (((w.alloc (.cells #[.int .i64 T, .int .i64 N, .int .i64 L, .int .u64 G] 24)).alloc (.cells #[.int .i64 kd, .int .i64 dl, .int .u64 dr, .int .u64 hh, .int .i64 cn] 26)).alloc (.cells #[.pointer none, .int .i64 0, .int .i64 0, .slice none 0 0, .int .i64 T, .int .i64 N, .int .i64 L, .int .u64 G, .int .i64 th, .int .i64 kd, .int .i64 dl, .int .u64 dr, .int .u64 hh, .int .i64 cn, .pointer (some ⟨l, 0, none⟩), .pointer none, .pointer none, .int .i64 0, .bool false, .int .u64 0, .slice none 0 0] 93)) W → (W.cell? ⟨w.heap.size, 0, none⟩ = some (.int .i64 T) ∧ W.cell? ⟨w.heap.size, 1, none⟩ = some (.int .i64 N) ∧ W.cell? ⟨w.heap.size, 2, none⟩ = some (.int .i64 L) ∧ W.cell? ⟨w.heap.size, 3, none⟩ = some (.int .u64 G)) from fun W hb => by
    have g := (only_below (fun _ => False) hb).heap hpc id
    exact ⟨(cell_heap g 0).1, (cell_heap g 1).1, (cell_heap g 2).1, (cell_heap g 3).1⟩)
  have hz1 : (((w.alloc (.cells #[.int .i64 T, .int .i64 N, .int .i64 L, .int .u64 G] 24)).alloc (.cells #[.int .i64 kd, .int .i64 dl, .int .u64 dr, .int .u64 hh, .int .i64 cn] 26)).alloc (.cells #[.pointer none, .int .i64 0, .int .i64 0, .slice none 0 0, .int .i64 T, .int .i64 N, .int .i64 L, .int .u64 G, .int .i64 th, .int .i64 kd, .int .i64 dl, .int .u64 dr, .int .u64 hh, .int .i64 cn, .pointer (some ⟨l, 0, none⟩), .pointer none, .pointer none, .int .i64 0, .bool false, .int .u64 0, .slice none 0 0] 93)).heap.size = w.heap.size + 3 := by simp
  have HEND := Lib.hid (show ∀ w3 q, Pins w3 q T N L G th ⟨1, ofI T 0 th, 0⟩ → (((w.alloc (.cells #[.int .i64 T, .int .i64 N, .int .i64 L, .int .u64 G] 24)).alloc (.cells #[.int .i64 kd, .int .i64 dl, .int .u64 dr, .int .u64 hh, .int .i64 cn] 26)).alloc (.cells #[.pointer none, .int .i64 0, .int .i64 0, .slice none 0 0, .int .i64 T, .int .i64 N, .int .i64 L, .int .u64 G, .int .i64 th, .int .i64 kd, .int .i64 dl, .int .u64 dr, .int .u64 hh, .int .i64 cn, .pointer (some ⟨l, 0, none⟩), .pointer none, .pointer none, .int .i64 0, .bool false, .int .u64 0, .slice none 0 0] 93)).heap.size ≤ q → Below (((w.alloc (.cells #[.int .i64 T, .int .i64 N, .int .i64 L, .int .u64 G] 24)).alloc (.cells #[.int .i64 kd, .int .i64 dl, .int .u64 dr, .int .u64 hh, .int .i64 cn] 26)).alloc (.cells #[.pointer none, .int .i64 0, .int .i64 0, .slice none 0 0, .int .i64 T, .int .i64 N, .int .i64 L, .int .u64 G, .int .i64 th, .int .i64 kd, .int .i64 dl, .int .u64 dr, .int .u64 hh, .int .i64 cn, .pointer (some ⟨l, 0, none⟩), .pointer none, .pointer none, .int .i64 0, .bool false, .int .u64 0, .slice none 0 0] 93)).heap.size (((w.alloc (.cells #[.int .i64 T, .int .i64 N, .int .i64 L, .int .u64 G] 24)).alloc (.cells #[.int .i64 kd, .int .i64 dl, .int .u64 dr, .int .u64 hh, .int .i64 cn] 26)).alloc (.cells #[.pointer none, .int .i64 0, .int .i64 0, .slice none 0 0, .int .i64 T, .int .i64 N, .int .i64 L, .int .u64 G, .int .i64 th, .int .i64 kd, .int .i64 dl, .int .u64 dr, .int .u64 hh, .int .i64 cn, .pointer (some ⟨l, 0, none⟩), .pointer none, .pointer none, .int .i64 0, .bool false, .int .u64 0, .slice none 0 0] 93)) w3 →
      Calls Tryz.prog 42 #[.pointer (some ⟨w.heap.size + 1 + 1, 0, none⟩), itf 95 q, meth 44 (w.heap.size + 1 + 1)] w3 fun e w' => e = .returned (.tuple #[]) ∧ (w'.cell? ⟨w.heap.size, 0, none⟩ = some (.int .i64 T) ∧ w'.cell? ⟨w.heap.size, 1, none⟩ = some (.int .i64 N) ∧ w'.cell? ⟨w.heap.size, 2, none⟩ = some (.int .i64 L) ∧ w'.cell? ⟨w.heap.size, 3, none⟩ = some (.int .u64 G)) ∧ ∃ S, Starts w' (w.heap.size + 1 + 1) S T N L G th kd dl dr hh cn l 0 lb (SrM.new T th) ∧ Grown w w' SL S from fun w3 q g1 g2 g3 => by
    have hz := g3.size
    have hq := Pins.lt g1
    have hF : HeadAt w3 (w.heap.size + 1 + 1) none 0 [.int .i64 ((0 : Nat) : Int), .slice none 0 0, .int .i64 T, .int .i64 N, .int .i64 L, .int .u64 G, .int .i64 th, .int .i64 kd, .int .i64 dl, .int .u64 dr, .int .u64 hh, .int .i64 cn, .pointer (some ⟨l, 0, none⟩), .pointer none, .pointer none, .int .i64 0, .bool false, .int .u64 0, .slice none 0 0] 93 := (only_below (fun _ => False) g3).heap hsc id
    have hl3 := (hl.later hb3).later g3
    refine (Given.made (pin_task T N L G th).asks (fv2 := meth 44 (w.heap.size + 1 + 1)) (E2 := Ba (w.heap.size + 1 + 1) T N L G th kd dl dr hh cn l 0 [] 0 false 0 (Zp l lb)) (Ba_keeps Zp_stays) (meth_then _ _) (S := fun j => SL j ∨ j = q ∨ j = w.heap.size + 1 + 1) (s2 := ⟨1, ofI T 0 th, 0⟩) ⟨.inr (.inr rfl), fun j e => by
        rcases e with e | e | e
        · have := hlt j e; omega
        · omega
        · omega, none, _, fun j => j = q, SL, hF, ⟨g1, rfl, fun j e => by omega⟩, ⟨.slice none 0 0, w.heap.size + 1 + 1, _, _, rfl, ⟨none, 0, rfl, World.ownsRow_nil _ _ _ _, fun a e => (by cases e), by omega⟩, fun e => absurd rfl e, rfl, rfl, SL, hl3, fun j e => ⟨e, by have := hlt j e; omega⟩⟩, fun j e => ?_, fun j e z => by have := hlt j z; omega⟩ (x := (1, 0, 0, 0, 0)) (PiM.pinA_1 _ _)).mono ?_
    · rcases e with e | e
      · exact ⟨.inr (.inl e), by omega⟩
      · exact ⟨.inl e, by have := hlt j e; omega⟩
    · rintro e w' ⟨rfl, S2, k1, k2, -, -⟩
      have hz3 := k2.1.size
      have g := k2.1.heap ((only_below (fun _ => False) g3).heap hpc id) (by
        rintro (e | e | e)
        · have := hlt _ e; omega
        · omega
        · omega)
      refine ⟨rfl, ⟨(cell_heap g 0).1, (cell_heap g 1).1, (cell_heap g 2).1, (cell_heap g 3).1⟩, S2, ⟨⟨Nat.le_refl _, Nat.le_refl _⟩, ⟨hT, hL, hdr⟩, ⟨⟨⟨_, PiM.pinA_1 _ _⟩, hlb, rfl⟩, k1⟩⟩, ⟨((only_below SL hb3).more (only_below SL g3) fun j e => .inl e).more k2.1 fun j e => e.imp id fun e => by omega, fun j e => (k2.2 j e).elim (fun e => ?_) fun e => .inr (by omega)⟩⟩
      rcases e with e | e | e
      · exact .inl e
      · exact .inr (by omega)
      · exact .inr (by omega))
  obtain ⟨c_0, c_1, c_2, c_3⟩ := box4 w (.int .i64 T) (.int .i64 N) (.int .i64 L) (.int .u64 G) 24
  have hd1 : decide (dl < 0) = false := by simp; omega
  have hd2 : decide (1152921504606846976 < dl) = false := by simp; omega
  clear hl hlb hlt hT hL hdr hd hb3 hpc hsc hz1
  go_enter Tryz.func10, Tryz.ntmps10
  go_wp2_with fail
  have HZ := Lib.hid (Below.refl (((w.alloc (.cells #[.int .i64 T, .int .i64 N, .int .i64 L, .int .u64 G] 24)).alloc (.cells #[.int .i64 kd, .int .i64 dl, .int .u64 dr, .int .u64 hh, .int .i64 cn] 26)).alloc (.cells #[.pointer none, .int .i64 0, .int .i64 0, .slice none 0 0, .int .i64 T, .int .i64 N, .int .i64 L, .int .u64 G, .int .i64 th, .int .i64 kd, .int .i64 dl, .int .u64 dr, .int .u64 hh, .int .i64 cn, .pointer (some ⟨l, 0, none⟩), .pointer none, .pointer none, .int .i64 0, .bool false, .int .u64 0, .slice none 0 0] 93)).heap.size (((w.alloc (.cells #[.int .i64 T, .int .i64 N, .int .i64 L, .int .u64 G] 24)).alloc (.cells #[.int .i64 kd, .int .i64 dl, .int .u64 dr, .int .u64 hh, .int .i64 cn] 26)).alloc (.cells #[.pointer none, .int .i64 0, .int .i64 0, .slice none 0 0, .int .i64 T, .int .i64 N, .int .i64 L, .int .u64 G, .int .i64 th, .int .i64 kd, .int .i64 dl, .int .u64 dr, .int .u64 hh, .int .i64 cn, .pointer (some ⟨l, 0, none⟩), .pointer none, .pointer none, .int .i64 0, .bool false, .int .u64 0, .slice none 0 0] 93))).drew
  have HD1 := Lib.hid (HK.out _ HZ.out)
  have hf := hmf
  go_region_held3 (fun W => W.cell? ⟨w.heap.size, 0, none⟩ = some (.int .i64 T) ∧ W.cell? ⟨w.heap.size, 1, none⟩ = some (.int .i64 N) ∧ W.cell? ⟨w.heap.size, 2, none⟩ = some (.int .i64 L) ∧ W.cell? ⟨w.heap.size, 3, none⟩ = some (.int .u64 G))
    ((first | (with_reducible exact HD1.out) | (with_reducible assumption) | (with_reducible exact HE.out.1) | (with_reducible exact HK.out _ HB2.out.2.2)))
    (first
      | (go_at_call 43; refine (HPI.out _).mono ?_; rintro e w2 ⟨q, rfl, g1, g2, g3⟩; have HB2 := Lib.hid (And.intro g1 (And.intro (Nat.le_trans HZ.out.size g2) (bs_b HZ.out g3))); clear g1 g2 g3)
      | (go_at_call 42; refine (HEND.out _ _ HB2.out.1 HB2.out.2.1 HB2.out.2.2).mono ?_; rintro e w6 ⟨rfl, h8, h⟩; have HE := Lib.hid (And.intro h8 h); clear h h8))
  all_goals go_wp2
  all_goals go_ret
  all_goals (obtain ⟨S, q1, q2⟩ := HE.out.2; exact ⟨_, S, rfl, q1, q2, by omega⟩)
end Go.Proofs.YtlagghghbpbcbaaGreatDoor.Srt
