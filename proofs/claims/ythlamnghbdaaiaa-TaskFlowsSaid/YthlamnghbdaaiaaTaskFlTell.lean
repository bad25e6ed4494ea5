/- Package task's flow of two scripts: it is told a word; it is given another task. -/
import Derived.Test.YthlamnghbdaaiaaTaskFl
namespace Go.Proofs.Ythlamnghbdaaiaa.Task
open Go.ChangeShapes Go.WideShapes Go.RowKit CM DM Lay Ints Cells
set_option linter.unusedVariables false

theorem no2 {x a b : Nat} (h1 : x ≠ a) (h2 : x ≠ b) : ¬ (x = a ∨ x = b) := fun e => e.elim h1 h2
theorem no3 {x a b c : Nat} (h1 : x ≠ a) (h2 : x ≠ b) (h3 : x ≠ c) : ¬ (x = a ∨ x = b ∨ x = c) := fun e => e.elim h1 fun e => e.elim h2 h3
theorem le2 {B k a b : Nat} (e : k = a ∨ k = b) (h1 : B ≤ a) (h2 : B ≤ b) : B ≤ k := e.elim (fun e => e ▸ h1) (fun e => e ▸ h2)
theorem le3 {B k a b c : Nat} (e : k = a ∨ k = b ∨ k = c) (h1 : B ≤ a) (h2 : B ≤ b) (h3 : B ≤ c) : B ≤ k := e.elim (fun e => e ▸ h1) fun e => le2 e h2 h3
/-- A block that is old is none that was made since, nor the one that was there. -/
theorem ne_words {x g g' n : Nat} (hg : g' = g ∨ n ≤ g') (h : x ≠ g) (hx : x < n) : x ≠ g' := by omega
/-- Script 1 has been told a word. -/
theorem Two.told {w w2 : World} {f pb d b1 b2 p1 q1 g1 p2 q2 g2 g' : Nat} {a b : List D} {fs1 fs2 fs' : List Int} (h : Two w f pb d b1 b2 p1 q1 g1 p2 q2 g2 a b fs1 fs2) (hs : Sep f b1 b2 p1 q1 g1 p2 q2 g2) (hM : Mids w f pb d p1 q1 g1 (Value.func (.func 25) #[] #[.pointer (some ⟨b1, 0, none⟩), .pointer (some ⟨b2, 0, none⟩)]) a fs' g' w2) : Two w2 f pb d b1 b2 p1 q1 g' p2 q2 g2 a b fs' fs2 := by
  obtain ⟨hF, hP, hC, h1, h2, a1, ⟨a2, a3, a4⟩, ⟨a5, a6, a7⟩, a8, a9, a10, a11⟩ := h
  obtain ⟨hF', hP', hS', hg', ho⟩ := hM
  obtain ⟨_, ⟨s1, s2, s3, s4⟩, s5, s6, s7, s8, s9, s10⟩ := hs
  have hlt := (Array.getElem?_eq_some_iff.1 hP).1
  exact ⟨hF', hP', hC.only ho (no3 a9.symm s1 s2) (no3 a10.symm s3 s4), hS', h2.only ho (no3 a5.symm s5 s6) (no3 a6.symm s7 s8) (no3 a7.symm s9 s10), a1, ⟨a2, a3, ne_words hg' a4 hlt⟩, ⟨a5, a6, a7⟩, a8, a9, a10, a11⟩
theorem Lone.told {w w2 : World} {f pb d p q g g' : Nat} {ds : List D} {fs fs' : List Int} (h : Lone w f pb d p q g ds fs) (hM : Mids w f pb d p q g .nilFunc ds fs' g' w2) : Lone w2 f pb d p q g' ds fs' := by
  obtain ⟨hF, hP, h1, a1, ⟨a2, a3, a4⟩, a5, a6, a7⟩ := h
  obtain ⟨hF', hP', hS', hg', ho⟩ := hM
  have hlt := (Array.getElem?_eq_some_iff.1 hP).1
  have hlf := (Array.getElem?_eq_some_iff.1 hF).1
  exact ⟨hF', hP', hS', a1, ⟨a2, a3, ne_words hg' a4 hlt⟩, a5, a6, ne_words hg' a7 hlf⟩
theorem sep_told {w : World} {f b1 b2 p1 q1 g1 p2 q2 g2 g' : Nat} (hs : Sep f b1 b2 p1 q1 g1 p2 q2 g2) (hg : g' = g1 ∨ w.heap.size ≤ g') (hF : f < w.heap.size) (h1 : b1 < w.heap.size) (h2 : b2 < w.heap.size) (h3 : p2 < w.heap.size ∧ q2 < w.heap.size ∧ g2 < w.heap.size) : Sep f b1 b2 p1 q1 g' p2 q2 g2 := by
  obtain ⟨⟨r1, r2, r3⟩, ⟨s1, s2, s3, s4⟩, s5, s6, s7, s8, s9, s10⟩ := hs
  exact ⟨⟨r1, r2, ne_words hg r3 hF⟩, ⟨s1, ne_words hg s2 h1, s3, ne_words hg s4 h2⟩, s5, ne_words hg s6 h3.1, s7, ne_words hg s8 h3.2.1, s9, ne_words hg s10 h3.2.2⟩
theorem in_words {R : Nat → Prop} {wr w' : World} {g g' : Nat} (hg : g' = g ∨ wr.heap.size ≤ g') (h : R g) (hlt : g' < w'.heap.size) : R g' ∨ Mades wr w' g' := hg.elim (fun e => .inl (e ▸ h)) (fun e => .inr ⟨e, hlt⟩)
theorem mids_only {w w2 : World} {R : Nat → Prop} {pb p g : Nat} (h : Only (fun k => k = pb ∨ k = p ∨ k = g) w w2) (h1 : R pb) (h2 : R p) (h3 : R g) : Only R w w2 := h.wide fun k e => .inl (e.elim (fun e => e ▸ h1) fun e => e.elim (fun e => e ▸ h2) (fun e => e ▸ h3))
/-- Behind two steps that turn what they may. -/
theorem fl_told {w wr w2 w' : World} {f i : Nat} {a b : List D} {R : Nat → Prop} (h0 : Below w.heap.size w wr) (h2 : ∀ k, R k → w.heap.size ≤ k ∧ k < wr.heap.size) (h1 : R f) (ho1 : Only R wr w2) (ho2 : Only R w2 w')
    (hs : (∃ pb b1 b2 p1 q1 g1 p2 q2 g2 fs1, i < a.length ∧ fs1.length = i ∧ Two w' f pb 0 b1 b2 p1 q1 g1 p2 q2 g2 a b fs1 [] ∧ Sep f b1 b2 p1 q1 g1 p2 q2 g2 ∧ (R pb ∨ Mades wr w' pb) ∧ (R p1 ∨ Mades wr w' p1) ∧ (R g1 ∨ Mades wr w' g1) ∧ (R p2 ∨ Mades wr w' p2) ∧ (R g2 ∨ Mades wr w' g2) ∧ (R b1 ∨ Mades wr w' b1) ∧ (R b2 ∨ Mades wr w' b2) ∧ (R q1 ∨ Mades wr w' q1) ∧ (R q2 ∨ Mades wr w' q2)) ∨
      (∃ pb p q g fs, a.length ≤ i ∧ i < a.length + b.length ∧ fs.length + a.length = i ∧ Lone w' f pb 0 p q g b fs ∧ (R pb ∨ Mades wr w' pb) ∧ (R p ∨ Mades wr w' p) ∧ (R g ∨ Mades wr w' g) ∧ (R q ∨ Mades wr w' q)) ∨
      (i = a.length + b.length ∧ FlowAt w' f none 0)) :
    Ending.returned (.tuple #[]) = Ending.returned (.tuple #[]) ∧ Fl w w' f a b i (fun k => R k ∨ Mades wr w' k) ∧ Only R wr w' := by
  have ho := ho1.trans ho2
  have hsz := h0.size
  have hso := ho.size
  exact ⟨rfl, ⟨h0.trans (ho.below hsz (fun k e => (h2 k e).1)), .inl h1, fun k e => e.elim (fun e => ⟨(h2 k e).1, Nat.lt_of_lt_of_le (h2 k e).2 hso⟩) (fun e => ⟨Nat.le_trans hsz e.1, e.2⟩), hs⟩, ho⟩
theorem le_words {B g g' n : Nat} (hg : g' = g ∨ n ≤ g') (h : B ≤ g) (hn : B ≤ n) : B ≤ g' := by omega

theorem Fl_tell {w wr : World} {f i : Nat} {a b : List D} {R : Nat → Prop} (h : Fl w wr f a b i R) (hi : i < a.length + b.length) (v : Int) : Calls Try.prog 14 #[.pointer (some ⟨f, 0, none⟩), .int .u64 v] wr fun e w' => e = .returned (.tuple #[]) ∧ Fl w w' f a b (i + 1) (fun k => R k ∨ Mades wr w' k) ∧ Only R wr w' := by
  obtain ⟨h0, h1, h2, hs⟩ := h
  have hsz := h0.size
  rcases hs with ⟨pb, b1, b2, p1, q1, g1, p2, q2, g2, fs1, l1, l2, hT, hsep, hr⟩ | ⟨pb, p, q, g, fs, l1, l2, l3, hL, hr⟩ | ⟨l1, hF⟩
  · have hx := List.getElem?_eq_getElem (show fs1.length < a.length by omega)
    have ha := hT.apart
    have hf1 : f ≠ p1 ∧ f ≠ g1 := ⟨hsep.1.1, hsep.1.2.2⟩
    obtain ⟨r1, r2, r3, r4, r5, r6, r7, r8, r9⟩ := hr
    have hlen : (fs1 ++ [v]).length = i + 1 := by simp [l2]
    by_cases hlast : i + 1 < a.length
    · refine (FTell_any hT.flow hT.part hT.one hx ha.2.1 ha.1 hf1 v (fun w2 w' => Only (fun k => k = pb) w2 w' ∧ PartAt w' pb (taskV p1) (Value.func (.func 25) #[] #[.pointer (some ⟨b1, 0, none⟩), .pointer (some ⟨b2, 0, none⟩)]) false) (fun w2 g' hM => ?_)).mono ?_
      · have hT2 := hT.told hsep hM
        refine (FNext_more hT2.flow hT2.part hT2.one (List.getElem?_eq_getElem (by omega)) hT2.apart.2.1 hT2.apart.1).mono ?_
        rintro e w' ⟨rfl, ho, hP⟩
        exact ⟨⟨_, rfl⟩, ho, hP⟩
      · rintro e w' ⟨rfl, w2, g', hM, ho, hP⟩
        have hT2 := hT.told hsep hM
        have hw := hM.words
        have hmo := hM.only
        exact fl_told h0 h2 h1 (mids_only hmo r1 r2 r3) (ho.wide fun k e => .inl (e ▸ r1)) (.inl ⟨pb, b1, b2, p1, q1, g', p2, q2, g2, fs1 ++ [v], hlast, hlen, hT2.asked ho hP, sep_told hsep hw (Array.getElem?_eq_some_iff.1 hT.flow).1 hT.caps.flow.lt hT.caps.script.lt hT.two.apart, .inl r1, .inl r2, in_words hw r3 (Nat.lt_of_lt_of_le hT2.one.apart.2.2 ho.size), .inl r4, .inl r5, .inl r6, .inl r7, .inl r8, .inl r9⟩)
    · have hend : (fs1 ++ [v]).length = a.length := by omega
      by_cases hb : 0 < b.length
      · refine (FTell_any hT.flow hT.part hT.one hx ha.2.1 ha.1 hf1 v (fun w2 w' => ∃ pb2, FlowAt w' f (some pb2) 0 ∧ PartAt w' pb2 (taskV p2) .nilFunc false ∧ w2.heap.size ≤ pb2 ∧ Only (fun k => k = f ∨ k = pb) w2 w') (fun w2 g' hM => ?_)).mono ?_
        · have hT2 := hT.told hsep hM
          refine (FNext_first_more hT2 (by decide) hend (List.getElem?_eq_getElem (show ([] : List Int).length < b.length from hb))).mono ?_
          rintro e w' ⟨pb2, rfl, hF, hP, hpb, ho⟩
          exact ⟨⟨_, rfl⟩, pb2, hF, hP, hpb, ho⟩
        · rintro e w' ⟨rfl, w2, g', hM, pb2, hF, hP, hpb, ho⟩
          have hT2 := hT.told hsep hM
          have hmo := hM.only
          have hs2 := Nat.le_trans hsz hmo.size
          obtain ⟨q1', q2', q3'⟩ := hT2.two.apart
          have hsc := hT2.two
          obtain ⟨_, _, ⟨a5, a6, a7⟩, ⟨a8, a9, a10⟩, _⟩ := hT2.apart
          have hlf := (Array.getElem?_eq_some_iff.1 hT2.flow).1
          clear hT ha hsep hf1 hM hT2
          exact fl_told h0 h2 h1 (mids_only hmo r1 r2 r3) (ho.wide fun k e => .inl (e.elim (fun e => e ▸ h1) (fun e => e ▸ r1))) (.inr (.inl ⟨pb2, p2, q2, g2, [], by omega, by omega, by rw [List.length_nil]; omega, ⟨hF, hP, hsc.only ho (no2 a8.symm a5.symm) (no2 a9.symm a6.symm) (no2 a10.symm a7.symm), by omega, ⟨by omega, by omega, by omega⟩, a8, a9, a10⟩, .inr ⟨Nat.le_trans hmo.size hpb, (Array.getElem?_eq_some_iff.1 hP).1⟩, .inl r4, .inl r5, .inl r9⟩))
      · refine (FTell_any hT.flow hT.part hT.one hx ha.2.1 ha.1 hf1 v (fun w2 w' => FlowAt w' f none 0 ∧ Only (fun k => k = f ∨ k = pb) w2 w') (fun w2 g' hM => ?_)).mono ?_
        · have hT2 := hT.told hsep hM
          refine (FNext_first_done hT2 (by decide) hend (show ([] : List Int).length = b.length by rw [List.length_nil]; omega)).mono ?_
          rintro e w' ⟨rfl, hF, ho⟩
          exact ⟨⟨_, rfl⟩, hF, ho⟩
        · rintro e w' ⟨rfl, w2, g', hM, hF, ho⟩
          have hmo := hM.only
          clear hT ha hsep hf1 hM
          exact fl_told h0 h2 h1 (mids_only hmo r1 r2 r3) (ho.wide fun k e => .inl (e.elim (fun e => e ▸ h1) (fun e => e ▸ r1))) (.inr (.inr ⟨by omega, hF⟩))
  · have hx := List.getElem?_eq_getElem (show fs.length < b.length by omega)
    have ha := hL.apart
    obtain ⟨r1, r2, r3, r4⟩ := hr
    have hlen : (fs ++ [v]).length = fs.length + 1 := by simp
    by_cases hlast : fs.length + 1 < b.length
    · refine (FTell_any hL.flow hL.part hL.scr hx ha.2.1 ha.1 ⟨ha.2.2.1, ha.2.2.2.2⟩ v (fun w2 w' => Only (fun k => k = pb) w2 w' ∧ PartAt w' pb (taskV p) .nilFunc false) (fun w2 g' hM => ?_)).mono ?_
      · have hL2 := hL.told hM
        refine (FNext_more hL2.flow hL2.part hL2.scr (List.getElem?_eq_getElem (by omega)) hL2.apart.2.1 hL2.apart.1).mono ?_
        rintro e w' ⟨rfl, ho, hP⟩
        exact ⟨⟨_, rfl⟩, ho, hP⟩
      · rintro e w' ⟨rfl, w2, g', hM, ho, hP⟩
        have hL2 := hL.told hM
        have hw := hM.words
        have hmo := hM.only
        have hL3 := hL2.asked ho hP
        clear hL ha hM hL2
        exact fl_told h0 h2 h1 (mids_only hmo r1 r2 r3) (ho.wide fun k e => .inl (e ▸ r1)) (.inr (.inl ⟨pb, p, q, g', fs ++ [v], by omega, by omega, by omega, hL3, .inl r1, .inl r2, in_words hw r3 hL3.scr.apart.2.2, .inl r4⟩))
    · refine (FTell_any hL.flow hL.part hL.scr hx ha.2.1 ha.1 ⟨ha.2.2.1, ha.2.2.2.2⟩ v (fun w2 w' => FlowAt w' f none 0 ∧ Only (fun k => k = f ∨ k = pb) w2 w') (fun w2 g' hM => ?_)).mono ?_
      · have hL2 := hL.told hM
        refine (FNext_done hL2.flow (by decide) hL2.part hL2.scr (by omega) hL2.apart.2.1 hL2.apart.1).mono ?_
        rintro e w' ⟨rfl, ho, hF⟩
        exact ⟨⟨_, rfl⟩, hF, ho⟩
      · rintro e w' ⟨rfl, w2, g', hM, hF, ho⟩
        have hmo := hM.only
        clear hL ha hM
        exact fl_told h0 h2 h1 (mids_only hmo r1 r2 r3) (ho.wide fun k e => .inl (e.elim (fun e => e ▸ h1) (fun e => e ▸ r1))) (.inr (.inr ⟨by omega, hF⟩))
  · omega
theorem Fl.kept {w wr w' : World} {f i : Nat} {a b : List D} {R R' : Nat → Prop} (h : Fl w wr f a b i R) (ho : Only R' wr w') (hR : ∀ k, R k → ¬ R' k) (hB : ∀ k, R' k → w.heap.size ≤ k) : Fl w w' f a b i R := by
  obtain ⟨h0, h1, h2, hs⟩ := h
  refine ⟨h0.trans (ho.below h0.size hB), h1, fun k e => ⟨(h2 k e).1, Nat.lt_of_lt_of_le (h2 k e).2 ho.size⟩, ?_⟩
  rcases hs with ⟨pb, b1, b2, p1, q1, g1, p2, q2, g2, fs1, l1, l2, hT, hsp, r1, r2, r3, r4, r5, r6, r7, r8, r9⟩ | ⟨pb, p, q, g, fs, l1, l2, l3, hL, r1, r2, r3, r4⟩ | ⟨l1, hF⟩
  · exact .inl ⟨pb, b1, b2, p1, q1, g1, p2, q2, g2, fs1, l1, l2, ⟨ho.heap hT.flow (hR _ h1), ho.heap hT.part (hR _ r1), hT.caps.only ho (hR _ r6) (hR _ r7), hT.one.only ho (hR _ r2) (hR _ r8) (hR _ r3), hT.two.only ho (hR _ r4) (hR _ r9) (hR _ r5), hT.apart⟩, hsp, r1, r2, r3, r4, r5, r6, r7, r8, r9⟩
  · exact .inr (.inl ⟨pb, p, q, g, fs, l1, l2, l3, ⟨ho.heap hL.flow (hR _ h1), ho.heap hL.part (hR _ r1), hL.scr.only ho (hR _ r2) (hR _ r4) (hR _ r3), hL.apart⟩, r1, r2, r3, r4⟩)
  · exact .inr (.inr ⟨l1, ho.heap hF (hR _ h1)⟩)
/-- Another script is given: the flow stands at what that asks for first, or at its end. -/
def Again (w : World) (f : Nat) (ds : List D) (e : Ending) (w' : World) : Prop :=
  e = .returned (.tuple #[]) ∧ Below w.heap.size w w' ∧ ((0 < ds.length ∧ ∃ pb p q g, Lone w' f pb 0 p q g ds [] ∧ w.heap.size ≤ pb) ∨ (ds.length = 0 ∧ FlowAt w' f none 0))
theorem Fl_to {w wr : World} {f i p q : Nat} {a b ds : List D} {R : Nat → Prop} (h : Fl w wr f a b i R) (hS : Scr wr p q p ds []) (hp : f ≠ p ∧ f ≠ q) : Calls Try.prog 16 #[.pointer (some ⟨f, 0, none⟩), taskV p, .nilFunc] wr (Again w f ds) := by
  obtain ⟨h0, h1, h2, hs⟩ := h
  have hsz := h0.size
  have hfb := (h2 f h1).1
  obtain ⟨nv, hF⟩ : ∃ nv, FlowAt wr f nv 0 := by
    rcases hs with ⟨pb, _, _, _, _, _, _, _, _, _, _, _, hT, _⟩ | ⟨pb, _, _, _, _, _, _, _, hL, _⟩ | ⟨_, hF⟩
    · exact ⟨_, hT.flow⟩
    · exact ⟨_, hL.flow⟩
    · exact ⟨_, hF⟩
  have hlf := (Array.getElem?_eq_some_iff.1 hF).1
  have hap := hS.apart
  clear hs
  by_cases hd : 0 < ds.length
  · refine (To_more hF hS (List.getElem?_eq_getElem (show ([] : List Int).length < ds.length from hd)) ⟨hp.1, hp.2, hp.1⟩).mono ?_
    rintro e w' ⟨pb, rfl, hF', hP', hpb, ho⟩
    exact ⟨rfl, h0.trans (ho.below hsz (fun k e => e ▸ hfb)), .inl ⟨hd, pb, p, q, p, ⟨hF', hP', hS.only ho (by omega) (by omega) (by omega), by omega⟩, Nat.le_trans hsz hpb⟩⟩
  · refine (To_done hF (by decide) hS (show ([] : List Int).length = ds.length by rw [List.length_nil]; omega) ⟨hp.1, hp.2, hp.1⟩).mono ?_
    rintro e w' ⟨rfl, hF', ho⟩
    exact ⟨rfl, h0.trans (ho.below hsz (fun k e => e ▸ hfb)), .inr ⟨by omega, hF'⟩⟩
end Go.Proofs.Ythlamnghbdaaiaa.Task
