/- TaskSteps: for every list of words and every list of deeds, the deeds of a script of them that are ranged over come one by one, each behind being told to the script, and none behind the one at which the range is left; and the chapter's example comes out (of more than 200 words, or of more than 100 deeds, just that is asked); the arguments read as they did. Conditions: the library's listed tables hold what its own text lays in them (tied by the card). -/
import Derived.Test.YthlamnghbdaaiaaDoorTaskAwake
import Derived.Test.YthlamnghbdaaiaaDoorTaskEq
import Derived.Test.YthlamnghbdaaiaaDoorTaskIter
import Derived.Test.YthlamnghbdaaiaaDoorFrame
import Derived.Test.YthlamnghbdaaiaaDoorFrameLaid
import Derived.Test.YthlamnghbdaaiaaDoorTie
import Derived.Test.YthlamnghbdaaiaaDoorCards
import Derived.Test.YthlamnghbdaaiaaDoorHeldIn
import Derived.Lib.MinMax
namespace Go.Proofs.YthlamnghbdaaiaaDoor.TaskSteps
open Go.ChangeShapes Go.WideShapes Go.ChangeAt Go.RowKit Go.Shelf CM DM TR Lay Ints Cells Push Drives Go.Proofs.YthlamnghbdaaiaaDoor.Task
set_option linter.unusedVariables false
set_option linter.unusedSimpArgs false
attribute [local go_sem] Oper.semAt_some

theorem keep3 {w w' : World} {b1 b2 b3 : Nat} {t1 t2 t3 : TypeId} {v1 v2 v3 : Value} (h : Boxed w b1 t1 v1 ∧ Boxed w b2 t2 v2 ∧ Boxed w b3 t3 v3) (hb : Below w.heap.size w w') : Boxed w' b1 t1 v1 ∧ Boxed w' b2 t2 v2 ∧ Boxed w' b3 t3 v3 :=
  ⟨(hb.block _ h.1.lt).trans h.1, (hb.block _ h.2.1.lt).trans h.2.1, (hb.block _ h.2.2.lt).trans h.2.2⟩
theorem held {W : World} (h : laidMetH Tryd.prog Rows.taskStepsRow.laid W) : True := trivial

/-- What the range holds between two rounds: the law's own boxes. -/
structure Ext (w : World) (p h bd bm br bs bn : Nat) (ds : Value) (most : Int) (g : Nat) (pre : List Pr) (W : World) : Prop where
  deeds : Boxed W bd 23 ds
  most : Boxed W bm 3 (.int .i64 most)
  res : Boxed W br 4 (.bool false)
  script : Boxed W bs 30 (.pointer (some ⟨p, 0, none⟩))
  count : Boxed W bn 3 (.int .i64 pre.length)
  below : Below w.heap.size w W
  words : w.heap.size ≤ g ∧ g ≠ bd ∧ g ≠ bm ∧ g ≠ br ∧ g ≠ bs ∧ g ≠ bn
/-- It abides what the iterator does. -/
theorem Ext.only {w : World} {p h bd bm br bs bn g g' : Nat} {v : Value} {most : Int} {pre : List Pr} {W W' : World} {R : Nat → Prop} (he : Ext w p h bd bm br bs bn v most g pre W) (ho : Only R W W') (hg : g' = g ∨ W.heap.size ≤ g')
    (hR : ∀ k, R k → w.heap.size ≤ k ∧ k ≠ bd ∧ k ≠ bm ∧ k ≠ br ∧ k ≠ bs ∧ k ≠ bn) : Ext w p h bd bm br bs bn v most g' pre W' := by
  obtain ⟨h1, h2, h3, h4, h5, hb, ⟨g1, g2, g3, g4, g5, g6⟩⟩ := he
  have hs := hb.size
  refine ⟨ho.heap h1 (fun e => (hR _ e).2.1 rfl), ho.heap h2 (fun e => (hR _ e).2.2.1 rfl), ho.heap h3 (fun e => (hR _ e).2.2.2.1 rfl), ho.heap h4 (fun e => (hR _ e).2.2.2.2.1 rfl), ho.heap h5 (fun e => (hR _ e).2.2.2.2.2 rfl), hb.trans (ho.below hs (fun k e => (hR k e).1)), ⟨?_, ?_, ?_, ?_, ?_, ?_⟩⟩
  · exact hg.elim (fun e => e ▸ g1) (fun e => Nat.le_trans hs e)
  · exact (ne_word hg g2.symm h1.lt).symm
  · exact (ne_word hg g3.symm h2.lt).symm
  · exact (ne_word hg g4.symm h3.lt).symm
  · exact (ne_word hg g5.symm h4.lt).symm
  · exact (ne_word hg g6.symm h5.lt).symm
theorem Ext.step {w : World} {p h bd bm br bs bn g g' : Nat} {v : Value} {most : Int} {pre : List Pr} {W W' : World} (he : Ext w p h bd bm br bs bn v most g pre W) (ho : Only (fun k => k = p ∨ k = g ∨ k = h) W W') (hg : g' = g ∨ W.heap.size ≤ g')
    (hp : w.heap.size ≤ p ∧ p ≠ bd ∧ p ≠ bm ∧ p ≠ br ∧ p ≠ bs ∧ p ≠ bn) (hh : w.heap.size ≤ h ∧ h ≠ bd ∧ h ≠ bm ∧ h ≠ br ∧ h ≠ bs ∧ h ≠ bn) : Ext w p h bd bm br bs bn v most g' pre W' :=
  he.only ho hg (fun k e => e.elim (fun e => e ▸ hp) fun e => e.elim (fun e => e ▸ he.words) fun e => e ▸ hh)
/-- .. and what turns no cells of old. -/
theorem Ext.own_from {w : World} {p q pc h n bt bc bd bm br bs bn g B : Nat} {ds : List D} {l : List Int} {v : Value} {most : Int} {pre pre' : List Pr} {W W' : World} {row : Option Nat} (hr : Rig p q pc h n bt bc ds l g pre' W) (he : Ext w p h bd bm br bs bn v most g pre W) (hg : W.grownBy W' row)
    (hB : ∀ r, row = some r → B ≤ r ∧ ∃ o : Obj, W.heap[r]? = some o ∧ o.isCells = false) (hlo : p < B ∧ q < B ∧ pc < B ∧ h < B ∧ bt < B ∧ bc < B) (hw : w.heap.size ≤ B) : Rig p q pc h n bt bc ds l g pre' W' ∧ Ext w p h bd bm br bs bn v most g pre W' := by
  have ho : Only (fun k => some k = row) W W' := ⟨hg.os, hg.tape, hg.output, hg.size, fun k hk hn => hg.block k hk hn⟩
  have hlow : ∀ k, k < B → ¬ some k = row := fun k hk e => by have := (hB k e.symm).1; omega
  have hcell : ∀ k, (∃ cs t f, W.heap[k]? = some (.cells cs t f)) → ¬ some k = row := fun k ⟨cs, t, f, hk⟩ e => by
    obtain ⟨_, o, ho, hc⟩ := hB k e.symm
    rw [hk] at ho
    cases ho
    cases hc
  obtain ⟨b1, b2, b3, b4, b5, b6⟩ := hlo
  refine ⟨hr.only ho (hlow _ b1) (hlow _ b2) (hcell g hr.words) (hlow _ b3) (hlow _ b4) (hlow _ b5) (hlow _ b6), he.only ho (.inl rfl) (fun k e => ⟨Nat.le_trans hw (hB k e.symm).1, ?_, ?_, ?_, ?_, ?_⟩)⟩
  · rintro rfl; exact hcell _ ⟨_, _, _, he.deeds⟩ e
  · rintro rfl; exact hcell _ ⟨_, _, _, he.most⟩ e
  · rintro rfl; exact hcell _ ⟨_, _, _, he.res⟩ e
  · rintro rfl; exact hcell _ ⟨_, _, _, he.script⟩ e
  · rintro rfl; exact hcell _ ⟨_, _, _, he.count⟩ e
/-- One deed more is counted. -/
theorem Ext.counted {w : World} {p h bd bm br bs bn g k : Nat} {v : Value} {most : Int} {pre : List Pr} {W w5 : World} (he : Ext w p h bd bm br bs bn v most g pre W) (hb : Below W.heap.size W w5) (hk : k = pre.length) (hd : bd ≠ bn ∧ bm ≠ bn ∧ br ≠ bn ∧ bs ≠ bn) (hbn : w.heap.size ≤ bn) (x : Pr) :
    Ext w p h bd bm br bs bn v most g (pre ++ [x]) (w5.setCell ⟨bn, 0, none⟩ (.int .i64 ((k : Int) + 1))) := by
  have ho : Only (fun i => i = bn) W (w5.setCell ⟨bn, 0, none⟩ (.int .i64 ((k : Int) + 1))) := (only_below (fun i => i = bn) hb).setCell (p := ⟨bn, 0, none⟩) (.inl rfl) _
  refine ⟨ho.heap he.deeds hd.1, ho.heap he.most hd.2.1, ho.heap he.res hd.2.2.1, ho.heap he.script hd.2.2.2, ?_, he.below.trans (ho.below he.below.size (fun i e => e ▸ hbn)), he.words⟩
  rw [List.length_append, List.length_singleton, ← hk]
  exact Boxed.set _ ((only_below (fun _ => False) hb).heap he.count id)
theorem come {ds : List D} {pre : List Pr} {x : Pr} {k : Nat} (hk : k = pre.length) (h : (pre ++ [x]).map (·.1) = ds.take (pre ++ [x]).length) : ds[k]? = some x.1 := by
  have h1 := congrArg (fun l => l[k]?) h
  simp [hk, List.getElem?_append_right, List.getElem?_take] at h1
  rw [hk]
  exact h1.symm
theorem came {pre : List Pr} {x : Pr} {k : Nat} (hk : k = pre.length) : ((pre ++ [x]).map (·.2))[k]? = some x.2 := by
  simp [hk]
theorem steps_start {w w3 W0 : World} {p q pc h n b : Nat} {ds : List D} {l : List Int} {v : Value} {most : Int} (hS : Scr w3 p q p ds []) (hM : Mem w3 pc h n l) (hb : Below w.heap.size w w3)
    (hx : Boxed w3 b 23 v ∧ Boxed w3 (b + 1) 3 (.int .i64 most) ∧ Boxed w3 (b + 1 + 1) 4 (.bool false))
    (ha : (pc ≠ p ∧ pc ≠ q) ∧ h ≠ p ∧ h ≠ q) (hp : w.heap.size ≤ p ∧ p ≠ b ∧ p ≠ b + 1 ∧ p ≠ b + 1 + 1) (hW : (((w3.alloc (.cells #[.pointer (some ⟨p, 0, none⟩)] 30)).alloc (.cells #[.int .i64 0] 3)).alloc (.cells #[.pointer (some ⟨pc, 0, none⟩)] 25)).alloc (.cells #[taskV p] 51) = W0) :
    Rig p q pc h n (w3.heap.size + 1 + 1 + 1) (w3.heap.size + 1 + 1) ds l p [] W0 ∧ Ext w p h b (b + 1) (b + 1 + 1) w3.heap.size (w3.heap.size + 1) v most p [] W0 := by
  have hb1 : Below w3.heap.size w3 W0 := by
    rw [← hW]
    exact ((((Below.refl _ _).alloc (Nat.le_refl _) _).alloc (by simp) _).alloc (by simp; omega) _).alloc (by simp; omega) _
  have bS := (((Boxed.new w3 30 (.pointer (some ⟨p, 0, none⟩))).alloc (.cells #[.int .i64 0] 3)).alloc (.cells #[.pointer (some ⟨pc, 0, none⟩)] 25)).alloc (.cells #[taskV p] 51)
  have bN := ((Boxed.new (w3.alloc (.cells #[.pointer (some ⟨p, 0, none⟩)] 30)) 3 (.int .i64 0)).alloc (.cells #[.pointer (some ⟨pc, 0, none⟩)] 25)).alloc (.cells #[taskV p] 51)
  have bC := (Boxed.new ((w3.alloc (.cells #[.pointer (some ⟨p, 0, none⟩)] 30)).alloc (.cells #[.int .i64 0] 3)) 25 (.pointer (some ⟨pc, 0, none⟩))).alloc (.cells #[taskV p] 51)
  have bT := Boxed.new (((w3.alloc (.cells #[.pointer (some ⟨p, 0, none⟩)] 30)).alloc (.cells #[.int .i64 0] 3)).alloc (.cells #[.pointer (some ⟨pc, 0, none⟩)] 25)) 51 (taskV p)
  simp only [World.size_alloc] at bN bC bT
  rw [hW] at bS bN bC bT
  have hpp := hS.apart
  have hm := hM.lt
  obtain ⟨A, c, F, fc, hbx, _⟩ := (hS.later hb1).box
  have hx1 := keep3 hx hb1
  have hM0 := hM.later hb1
  refine ⟨⟨hS.later hb1, ⟨_, _, _, hbx⟩, hM0, bT, bC, rfl, rfl, ?_⟩, ⟨hx1.1, hx1.2.1, hx1.2.2, bS, bN, hb.trans (hb1.mono hb.size), ?_⟩⟩
  · exact ⟨⟨ha.1.1, ha.1.2, ha.1.1⟩, ⟨ha.2.1, ha.2.2, ha.2.1⟩, ⟨by omega, by omega, by omega⟩, by omega, by omega, by omega⟩
  · exact ⟨hp.1, hp.2.1, hp.2.2.1, hp.2.2.2, by omega, by omega⟩

set_option maxRecDepth 100000 in
set_option maxHeartbeats 2000000 in
theorem walk_within (A : Option Addr) (l : List Int) (c : Nat) (B : Option Addr) (ds : List D) (d n m : Nat) (most : Int) (w : World)
    (hR : Row w w.heap.size A (flat (encZ .u64) l)) (hn : n = l.length) (hbig : ¬ 200 < n)
    (hS : Row w w.heap.size B (flat encD ds)) (hm : m = ds.length) (hmany : ¬ 100 < m) :
    CallsIn Fence.wide 5 Tryd.prog 4 #[.slice A n c, .slice B m d, .int .i64 most] w fun e w' => e = .returned (.bool true) ∧ Below w.heap.size w w' := by
  have HN := Lib.hid hn
  have HM := Lib.hid hm
  have HR := Lib.hid hR
  have HS := Lib.hid hS
  clear hn hm hR hS
  refine callsIn_of_wp_marks Tryd.func4 rfl trivial ?_ rfl
  simp only [Tryd.ntmps4, List.size_toArray, List.length_cons, List.length_nil, Nat.reduceAdd, Nat.reduceSub, Array.replicate_succ, Array.replicate_zero, List.push_toArray, List.append_toArray, List.nil_append, List.cons_append]
  have hb0 : Below w.heap.size w (((w.alloc (.cells #[.slice B m d] 23)).alloc (.cells #[.int .i64 most] 3)).alloc (.cells #[.bool false] 4)) := (((Below.refl _ _).alloc (Nat.le_refl _) _).alloc (by simp) _).alloc (by simp; omega) _
  have bD := ((Boxed.new w 23 (.slice B m d)).alloc (.cells #[.int .i64 most] 3)).alloc (.cells #[.bool false] 4)
  have bM := (Boxed.new (w.alloc (.cells #[.slice B m d] 23)) 3 (.int .i64 most)).alloc (.cells #[.bool false] 4)
  have bR := Boxed.new ((w.alloc (.cells #[.slice B m d] 23)).alloc (.cells #[.int .i64 most] 3)) 4 (.bool false)
  simp only [World.size_alloc] at bM bR
  have HZ := Lib.hid (show (((w.alloc (.cells #[.slice B m d] 23)).alloc (.cells #[.int .i64 most] 3)).alloc (.cells #[.bool false] 4)).heap.size = w.heap.size + 1 + 1 + 1 by simp)
  have H0 := Lib.hid hb0
  have HBX := Lib.hid (And.intro bD (And.intro bM bR))
  clear hb0 bD bM bR
  gi_wp2
  refine ⟨trivial, (in_wide _ (Law11.awake_any _)).mono ?_⟩
  rintro e w1 ⟨rfl, hb1⟩
  have H1 := Lib.hid (H0.out.trans (hb1.mono H0.out.size))
  have hbx := keep3 HBX.out hb1
  have HBX1 := Lib.hid hbx
  have HZ1 := Lib.hid (show w.heap.size + 1 + 1 + 1 ≤ w1.heap.size by have := hb1.size; rw [HZ.out] at this; exact this)
  have d0 := hbx.1.cell
  have d1 := hbx.2.1.cell
  clear hb1 hbx
  gi_wp2
  refine ⟨trivial, (in_wide _ (Of_any (HR.out.later H1.out) HN.out (by omega))).mono ?_⟩
  rintro e w2 ⟨pc, h, rfl, hm2, hp2, hh2, hb2⟩
  have H2 := Lib.hid (H1.out.trans (hb2.mono H1.out.size))
  have hbx := keep3 HBX1.out hb2
  have HBX2 := Lib.hid hbx
  have HM2 := Lib.hid hm2
  have HP2 := Lib.hid (And.intro hp2 hh2)
  have HS12 := Lib.hid hb2.size
  have c0 := hbx.1.cell
  clear hm2 hp2 hh2 hb2 hbx d0 d1
  gi_wp2
  refine ⟨trivial, (in_wide _ (NewScript_any (HS.out.later H2.out) HM.out (by omega))).mono ?_⟩
  rintro e w3 ⟨p, q, rfl, hs3, hp3, hq3, hb3⟩
  have H3 := Lib.hid (H2.out.trans (hb3.mono H2.out.size))
  have HBX3 := Lib.hid (keep3 HBX2.out hb3)
  have HM3 := Lib.hid (HM2.out.later hb3)
  have HS3 := Lib.hid hs3
  have HP3 := Lib.hid (And.intro hp3 hq3)
  clear hs3 hp3 hq3 hb3 c0
  gi_wp2
  refine ⟨trivial, (Steps_in 4 pc p _).mono ?_⟩
  rintro e w' ⟨rfl, rfl⟩
  gi_wp2
  obtain ⟨W0, hW0⟩ : ∃ W0, (((w3.alloc (.cells #[.pointer (some ⟨p, 0, none⟩)] 30)).alloc (.cells #[.int .i64 0] 3)).alloc (.cells #[.pointer (some ⟨pc, 0, none⟩)] 25)).alloc (.cells #[taskV p] 51) = W0 := ⟨_, rfl⟩
  have hsz : W0.heap.size = w3.heap.size + 4 := by rw [← hW0]; simp
  have hmm := HM3.out.lt
  have hs := HS3.out.apart
  have h1z := HZ1.out
  have h2z := HS12.out
  have hpq := HP3.out
  have hph := HP2.out
  have hap : (pc ≠ p ∧ pc ≠ q) ∧ h ≠ p ∧ h ≠ q := by have := HM2.out.lt; omega
  have hst := steps_start HS3.out HM3.out H3.out HBX3.out hap (by omega) hW0
  rw [hW0]
  have HST := Lib.hid hst
  have HSZ := Lib.hid hsz
  have HLO := Lib.hid (show (p < W0.heap.size ∧ q < W0.heap.size ∧ pc < W0.heap.size ∧ h < W0.heap.size ∧ w3.heap.size + 1 + 1 + 1 < W0.heap.size ∧ w3.heap.size + 1 + 1 < W0.heap.size) by omega)
  have HWB := Lib.hid (show w.heap.size ≤ W0.heap.size by omega)
  have HPB := Lib.hid (show w.heap.size ≤ p ∧ p ≠ w.heap.size ∧ p ≠ w.heap.size + 1 ∧ p ≠ w.heap.size + 1 + 1 ∧ p ≠ w3.heap.size ∧ p ≠ w3.heap.size + 1 by omega)
  have HHB := Lib.hid (show w.heap.size ≤ h ∧ h ≠ w.heap.size ∧ h ≠ w.heap.size + 1 ∧ h ≠ w.heap.size + 1 + 1 ∧ h ≠ w3.heap.size ∧ h ≠ w3.heap.size + 1 by omega)
  clear hst hW0 hsz hmm hs h1z h2z hpq hph hap
  refine wpIn_rangeFunc_drives (by decide) (gf := 20) (lb := #[.pointer (some ⟨w3.heap.size + 1 + 1 + 1, 0, none⟩), .pointer (some ⟨w3.heap.size + 1 + 1, 0, none⟩)]) rfl (enters_of Tryd.func20 (by kernel_rfl) rfl)
    (fun pre W => ∃ g, Rig p q pc h n (w3.heap.size + 1 + 1 + 1) (w3.heap.size + 1 + 1) ds l g pre W ∧ (Ext w p h w.heap.size (w.heap.size + 1) (w.heap.size + 1 + 1) w3.heap.size (w3.heap.size + 1) (.slice B m d) most g pre W ∧ (pre = [] ∨ (pre.length : Int) < most)))
    (fun pre x W => ∃ g, Rig p q pc h n (w3.heap.size + 1 + 1 + 1) (w3.heap.size + 1 + 1) ds l g (pre ++ [x]) W ∧ (Ext w p h w.heap.size (w.heap.size + 1) (w.heap.size + 1 + 1) w3.heap.size (w3.heap.size + 1) (.slice B m d) most g pre W ∧ (pre = [] ∨ (pre.length : Int) < most)) ∧ pre.length < ds.length)
    (fun c pre W => c = .exit 0 ∧ ∃ g, Rig p q pc h n (w3.heap.size + 1 + 1 + 1) (w3.heap.size + 1 + 1) ds l g pre W ∧ Ext w p h w.heap.size (w.heap.size + 1) (w.heap.size + 1 + 1) w3.heap.size (w3.heap.size + 1) (.slice B m d) most g pre W ∧ (pre.length : Int) = max most 1)
    (Steps1_drives (5 - 1) p q pc h n _ _ ds l (fun g pre W => Ext w p h w.heap.size (w.heap.size + 1) (w.heap.size + 1 + 1) w3.heap.size (w3.heap.size + 1) (.slice B m d) most g pre W ∧ (pre = [] ∨ (pre.length : Int) < most)) W0
      (fun g g' pre W W' hr he ho hg => ⟨he.1.step ho hg HPB.out HHB.out, he.2⟩))
    (fun _ => rfl)
    (fun pre W W' row hi hg hrow => by obtain ⟨g, hr, he, hlt⟩ := hi; obtain ⟨hr', he'⟩ := he.own_from hr hg hrow HLO.out HWB.out; exact ⟨g, hr', he', hlt⟩)
    (fun s W W' row hi hg hrow => by obtain ⟨g, hr, ⟨he, hlt⟩, hl⟩ := hi; obtain ⟨hr', he'⟩ := he.own_from hr hg hrow HLO.out HWB.out; exact ⟨g, hr', ⟨he', hlt⟩, hl⟩)
    (fun c pre W W' row hi hg hrow => by obtain ⟨hc, g, hr, he, hlt⟩ := hi; obtain ⟨hr', he'⟩ := he.own_from hr hg hrow HLO.out HWB.out; exact ⟨hc, g, hr', he', hlt⟩)
    ⟨p, HST.out.1, HST.out.2, .inl rfl⟩
    (fun x a' W => ∃ bx, W.heap[bx]? = some (.cells #[.int .i64 x.1.1, .int .i64 x.1.2.1, .int .u64 x.1.2.2.1, .int .u64 x.1.2.2.2.1, .int .u64 x.1.2.2.2.2] 42 (0, 0)) ∧
      a' = { tmps := #[.slice A n c, .slice B m d, .int .i64 most, undef, .pointer (some ⟨w.heap.size, 0, none⟩), .pointer (some ⟨w.heap.size + 1, 0, none⟩), .pointer (some ⟨w.heap.size + 1 + 1, 0, none⟩), .pointer (some ⟨pc, 0, none⟩), .int .i64 0, .pointer (some ⟨w3.heap.size, 0, none⟩), .pointer (some ⟨w3.heap.size + 1, 0, none⟩),
        .pointer (some ⟨bx, 0, none⟩), .int .u64 x.2, .slice A n c, .int .i64 n, .bool (decide ((200 : Int) < n)), .bool (decide ((200 : Int) < n)), .slice B m d, .int .i64 m, .bool (decide ((100 : Int) < m)), .bool (decide ((200 : Int) < n) || decide ((100 : Int) < m)), .bool (decide ((200 : Int) < n) || decide ((100 : Int) < m)), .bool true, .bool false, .bool (decide ((200 : Int) < n) || decide ((100 : Int) < m)), undef,
        .tuple #[.pointer (some ⟨pc, 0, none⟩), .int .i64 0], .slice A n c, .tuple #[.pointer (some ⟨pc, 0, none⟩), .int .i64 0], .pointer (some ⟨pc, 0, none⟩), .int .i64 0, .slice B m d, .pointer (some ⟨p, 0, none⟩), .pointer (some ⟨pc, 0, none⟩), .pointer (some ⟨p, 0, none⟩), taskV p,
        .func (.func 20) #[] #[.pointer (some ⟨w3.heap.size + 1 + 1 + 1, 0, none⟩), .pointer (some ⟨w3.heap.size + 1 + 1, 0, none⟩)], .agg #[.int .i64 x.1.1, .int .i64 x.1.2.1, .int .u64 x.1.2.2.1, .int .u64 x.1.2.2.2.1, .int .u64 x.1.2.2.2.2], .int .u64 x.2, undef, undef, undef, undef, undef, undef, undef, undef, undef, undef, undef, undef, undef, undef, undef, undef, undef, undef, undef, undef, undef, undef, undef, undef, undef, undef, undef, undef, undef, undef, undef, undef, undef, undef, undef, undef, undef, undef, undef, undef, undef, undef, undef, undef], defers := [] })
    (fun x a' _ W W' row hi hg hrow => by
      obtain ⟨bx, hb, ha⟩ := hi
      refine ⟨bx, (hg.block _ (Array.getElem?_eq_some_iff.1 hb).1 (fun e => ?_)).trans hb, ha⟩
      obtain ⟨_, o, ho, hc⟩ := hrow _ e.symm
      rw [hb] at ho
      cases ho
      cases hc) ?assign ?body ?done ?stop
  case assign =>
    rintro lo pre x W K ⟨g, hr, ⟨he, hlt⟩, hlen⟩ hK
    have HR := Lib.hid hr
    have HE := Lib.hid he
    have HK := Lib.hid hK
    clear hr he hK
    dsimp only [encs]
    gi_wp2
    have hb := (Below.refl W.heap.size W).alloc (Nat.le_refl _) (.cells #[.int .i64 x.1.1, .int .i64 x.1.2.1, .int .u64 x.1.2.2.1, .int .u64 x.1.2.2.2.1, .int .u64 x.1.2.2.2.2] 42)
    exact HK.out _ _ ((KeepsOthers.alloc _ _).from _) ⟨g, HR.out.later hb, ⟨HE.out.only (only_below (fun _ => False) hb) (.inl rfl) (fun _ e => e.elim), hlt⟩, hlen⟩ ⟨W.heap.size, new_heap W _, rfl⟩
  case body =>
    rintro lo pre x a' W hl ⟨rc, hrc⟩ ⟨g, hr, ⟨he, hlt⟩, hlen⟩ ⟨bx, hbx, rfl⟩
    have hmx : Tryd.prog.follows .mixedOrders = true := by kernel_rfl
    obtain ⟨k, hk⟩ : ∃ k, k = pre.length := ⟨_, rfl⟩
    obtain ⟨j, hj⟩ : ∃ j, j = ((pre ++ [x]).map (·.2)).length := ⟨_, rfl⟩
    have hjk : (j : Int) = (k : Int) + 1 := by rw [hj, hk]; simp
    have HJ := Lib.hid hj
    have HK := Lib.hid hk
    have HXD := Lib.hid (come hk hr.deeds)
    have HXF := Lib.hid (show ((pre ++ [x]).map (·.2))[k]? = some x.2 from came hk)
    have hkm : k < m := by rw [HM.out, hk]; exact hlen
    have hk1000 : k ≤ 1000 := by omega
    have hkj : k < j := by omega
    have hdec : decide ((m : Int) ≤ (k : Int)) = false := by simpa using hkm
    have hdn : ¬ m ≤ k := by omega
    have hwr : IntKind.i64.wrap ((k : Int) + 1) = (k : Int) + 1 := IntWalk.i64_in _ (by omega)
    have hk0 : (0 : Int) ≤ (k : Int) := by omega
    have hk2 : (k : Int) < (k : Int) + 1 := by omega
    have hki : (k : Int) < (m : Int) := by omega
    obtain ⟨b, o, rfl, hbl, hcd⟩ := Open.five_at (HS.out.later he.below) (by rw [← HM.out]; exact hkm)
    have hd5 := hcd k x.1 HXD.out
    have HC := Lib.hid (show ∀ W', Below W.heap.size W W' → W'.cell? ⟨w3.heap.size + 1, 0, none⟩ = some (.int .i64 k) ∧ W'.cell? ⟨w.heap.size, 0, none⟩ = some (.slice (some ⟨b, o, none⟩) m d) ∧ W'.cell? ⟨w3.heap.size, 0, none⟩ = some (.pointer (some ⟨p, 0, none⟩)) ∧ W'.cell? ⟨w.heap.size + 1, 0, none⟩ = some (.int .i64 most) ∧
        (W'.cell? ⟨bx, 0, none⟩ = some (.int .i64 x.1.1) ∧ W'.cell? ⟨bx, 1, none⟩ = some (.int .i64 x.1.2.1) ∧ W'.cell? ⟨bx, 2, none⟩ = some (.int .u64 x.1.2.2.1) ∧ W'.cell? ⟨bx, 3, none⟩ = some (.int .u64 x.1.2.2.2.1) ∧ W'.cell? ⟨bx, 4, none⟩ = some (.int .u64 x.1.2.2.2.2)) ∧
        (W'.cell? ⟨b, o + k * 5, none⟩ = some (.int .i64 x.1.1) ∧ W'.cell? ⟨b, o + k * 5 + 1, none⟩ = some (.int .i64 x.1.2.1) ∧ W'.cell? ⟨b, o + k * 5 + 2, none⟩ = some (.int .u64 x.1.2.2.1) ∧ W'.cell? ⟨b, o + k * 5 + 3, none⟩ = some (.int .u64 x.1.2.2.2.1) ∧ W'.cell? ⟨b, o + k * 5 + 4, none⟩ = some (.int .u64 x.1.2.2.2.2)) from fun W' hb' => by
      have ho := only_below (fun _ => False) hb'
      have hq := ho.heap hbx id
      refine ⟨?_, (show Boxed W' _ 23 _ from ho.heap he.deeds id).cell, (show Boxed W' _ 30 _ from ho.heap he.script id).cell, (show Boxed W' _ 3 _ from ho.heap he.most id).cell, ⟨(cell_heap hq 0).1, (cell_heap hq 1).1, (cell_heap hq 2).1, (cell_heap hq 3).1, (cell_heap hq 4).1⟩, ho.cell hd5.1 id, ho.cell hd5.2.1 id, ho.cell hd5.2.2.1 id, ho.cell hd5.2.2.2.1 id, ho.cell hd5.2.2.2.2 id⟩
      rw [hk]
      exact (show Boxed W' _ 3 _ from ho.heap he.count id).cell)
    have HRG := Lib.hid hr
    have HEX := Lib.hid he
    have HLT := Lib.hid hlt
    have hnd := fun W => Task.neqD x.1 x.1 W
    simp only [decide_true, Bool.not_true] at hnd
    have hgd := Task.guardD
    have hS0 : Below W.heap.size W W.drew := (Below.refl _ _).drew
    have HLL := Lib.hid hl
    clear hr he hlt hrc hbx hcd hd5 hlen hk hj hl
    gi_wp2
    refine HeldIn.region_in_round (S := fun W' => Below W.heap.size W W') hmx (by kernel_rfl) (fun _ _ h => h) ?_
    refine wpAnyH_take (i := 0) (v := ?_) (by simp only [List.getElem?_toArray, List.getElem?_cons_succ, List.getElem?_cons_zero]; rfl) (by kernel_rfl) (by kernel_rfl) (by kernel_rfl) (fun _ _ _ h => h) (Or.inl ⟨by rfl, ?_⟩) hS0 ?_
    rotate_left
    · intro W' hW'
      obtain ⟨c1, c2, c3, c4, ⟨c5, c6, c7, c8, c9⟩, ⟨e0, e1, e2, e3, e4⟩⟩ := HC.out W' hW'
      go_simp
      all_goals (try with_reducible rfl)
    try simp only [Act.put, List.setIfInBounds_toArray, List.set_cons_zero, List.set_cons_succ]
    refine wpAnyH_take (i := 1) (v := ?_) (by simp only [List.getElem?_toArray, List.getElem?_cons_succ, List.getElem?_cons_zero]; rfl) (by kernel_rfl) (by kernel_rfl) (by kernel_rfl) (fun _ _ _ h => h) (Or.inl ⟨by rfl, ?_⟩) hS0 ?_
    rotate_left
    · intro W' hW'
      obtain ⟨c1, c2, c3, c4, ⟨c5, c6, c7, c8, c9⟩, ⟨e0, e1, e2, e3, e4⟩⟩ := HC.out W' hW'
      go_simp
      all_goals (try with_reducible rfl)
    try simp only [Act.put, List.setIfInBounds_toArray, List.set_cons_zero, List.set_cons_succ]
    refine wpAnyH_take (i := 2) (v := ?_) (by simp only [List.getElem?_toArray, List.getElem?_cons_succ, List.getElem?_cons_zero]; rfl) (by kernel_rfl) (by kernel_rfl) (by kernel_rfl) (fun _ _ _ h => h) (Or.inl ⟨by rfl, ?_⟩) hS0 ?_
    rotate_left
    · intro W' hW'
      obtain ⟨c1, c2, c3, c4, ⟨c5, c6, c7, c8, c9⟩, ⟨e0, e1, e2, e3, e4⟩⟩ := HC.out W' hW'
      go_simp
      all_goals (try with_reducible rfl)
    try simp only [Act.put, List.setIfInBounds_toArray, List.set_cons_zero, List.set_cons_succ]
    refine wpAnyH_take (i := 3) (v := ?_) (by simp only [List.getElem?_toArray, List.getElem?_cons_succ, List.getElem?_cons_zero]; rfl) (by kernel_rfl) (by kernel_rfl) (by kernel_rfl) (fun _ _ _ h => h) (Or.inl ⟨by rfl, ?_⟩) hS0 ?_
    rotate_left
    · intro W' hW'
      obtain ⟨c1, c2, c3, c4, ⟨c5, c6, c7, c8, c9⟩, ⟨e0, e1, e2, e3, e4⟩⟩ := HC.out W' hW'
      go_simp
      all_goals (try with_reducible rfl)
    try simp only [Act.put, List.setIfInBounds_toArray, List.set_cons_zero, List.set_cons_succ]
    refine wpAnyH_take (i := 4) (v := ?_) (by simp only [List.getElem?_toArray, List.getElem?_cons_succ, List.getElem?_cons_zero]; rfl) (by kernel_rfl) (by kernel_rfl) (by kernel_rfl) (fun _ _ _ h => h) (Or.inl ⟨by rfl, ?_⟩) hS0 ?_
    rotate_left
    · intro W' hW'
      obtain ⟨c1, c2, c3, c4, ⟨c5, c6, c7, c8, c9⟩, ⟨e0, e1, e2, e3, e4⟩⟩ := HC.out W' hW'
      go_simp
      all_goals (try with_reducible rfl)
    try simp only [Act.put, List.setIfInBounds_toArray, List.set_cons_zero, List.set_cons_succ]
    refine wpAnyH_take (i := 5) (v := ?_) (by simp only [List.getElem?_toArray, List.getElem?_cons_succ, List.getElem?_cons_zero]; rfl) (by kernel_rfl) (by kernel_rfl) (by kernel_rfl) (fun _ _ _ h => h) (Or.inl ⟨by rfl, ?_⟩) hS0 ?_
    rotate_left
    · intro W' hW'
      obtain ⟨c1, c2, c3, c4, ⟨c5, c6, c7, c8, c9⟩, ⟨e0, e1, e2, e3, e4⟩⟩ := HC.out W' hW'
      go_simp
      all_goals (try with_reducible rfl)
    try simp only [Act.put, List.setIfInBounds_toArray, List.set_cons_zero, List.set_cons_succ]
    refine wpAnyH_take (i := 6) (v := ?_) (by simp only [List.getElem?_toArray, List.getElem?_cons_succ, List.getElem?_cons_zero]; rfl) (by kernel_rfl) (by kernel_rfl) (by kernel_rfl) (fun _ _ _ h => h) (Or.inl ⟨by rfl, ?_⟩) hS0 ?_
    rotate_left
    · intro W' hW'
      obtain ⟨c1, c2, c3, c4, ⟨c5, c6, c7, c8, c9⟩, ⟨e0, e1, e2, e3, e4⟩⟩ := HC.out W' hW'
      go_simp
      all_goals (try with_reducible rfl)
    try simp only [Act.put, List.setIfInBounds_toArray, List.set_cons_zero, List.set_cons_succ]
    refine wpAnyH_take (i := 7) (v := ?_) (by simp only [List.getElem?_toArray, List.getElem?_cons_succ, List.getElem?_cons_zero]; rfl) (by kernel_rfl) (by kernel_rfl) (by kernel_rfl) (fun _ _ _ h => h) (Or.inl ⟨by rfl, ?_⟩) hS0 ?_
    rotate_left
    · intro W' hW'
      obtain ⟨c1, c2, c3, c4, ⟨c5, c6, c7, c8, c9⟩, ⟨e0, e1, e2, e3, e4⟩⟩ := HC.out W' hW'
      go_simp
      all_goals (try with_reducible rfl)
    try simp only [Act.put, List.setIfInBounds_toArray, List.set_cons_zero, List.set_cons_succ]
    refine wpAnyH_take (i := 8) (v := ?_) (by simp only [List.getElem?_toArray, List.getElem?_cons_succ, List.getElem?_cons_zero]; rfl) (by kernel_rfl) (by kernel_rfl) (by kernel_rfl) (fun _ _ _ h => h) (Or.inl ⟨by rfl, ?_⟩) hS0 ?_
    rotate_left
    · intro W' hW'
      obtain ⟨c1, c2, c3, c4, ⟨c5, c6, c7, c8, c9⟩, ⟨e0, e1, e2, e3, e4⟩⟩ := HC.out W' hW'
      go_simp
      all_goals (try with_reducible rfl)
    try simp only [Act.put, List.setIfInBounds_toArray, List.set_cons_zero, List.set_cons_succ]
    refine wpAnyH_take (i := 9) (v := ?_) (by simp only [List.getElem?_toArray, List.getElem?_cons_succ, List.getElem?_cons_zero]; rfl) (by kernel_rfl) (by kernel_rfl) (by kernel_rfl) (fun _ _ _ h => h) (Or.inl ⟨by rfl, ?_⟩) hS0 ?_
    rotate_left
    · intro W' hW'
      obtain ⟨c1, c2, c3, c4, ⟨c5, c6, c7, c8, c9⟩, ⟨e0, e1, e2, e3, e4⟩⟩ := HC.out W' hW'
      go_simp
      all_goals (try with_reducible rfl)
    try simp only [Act.put, List.setIfInBounds_toArray, List.set_cons_zero, List.set_cons_succ]
    refine wpAnyH_take (i := 10) (v := ?_) (by simp only [List.getElem?_toArray, List.getElem?_cons_succ, List.getElem?_cons_zero]; rfl) (by kernel_rfl) (by kernel_rfl) (by kernel_rfl) (fun _ _ _ h => h) (Or.inl ⟨by rfl, ?_⟩) hS0 ?_
    rotate_left
    · intro W' hW'
      obtain ⟨c1, c2, c3, c4, ⟨c5, c6, c7, c8, c9⟩, ⟨e0, e1, e2, e3, e4⟩⟩ := HC.out W' hW'
      go_simp
      all_goals (try with_reducible rfl)
    try simp only [Act.put, List.setIfInBounds_toArray, List.set_cons_zero, List.set_cons_succ]
    refine wpAnyH_take (i := 11) (v := ?_) (by simp only [List.getElem?_toArray, List.getElem?_cons_succ, List.getElem?_cons_zero]; rfl) (by kernel_rfl) (by kernel_rfl) (by kernel_rfl) (fun _ _ _ h => h) (Or.inl ⟨by rfl, ?_⟩) hS0 ?_
    rotate_left
    · intro W' hW'
      obtain ⟨c1, c2, c3, c4, ⟨c5, c6, c7, c8, c9⟩, ⟨e0, e1, e2, e3, e4⟩⟩ := HC.out W' hW'
      go_simp
      all_goals (try with_reducible rfl)
    try simp only [Act.put, List.setIfInBounds_toArray, List.set_cons_zero, List.set_cons_succ]
    refine wpAnyH_take (i := 12) (v := ?_) (by simp only [List.getElem?_toArray, List.getElem?_cons_succ, List.getElem?_cons_zero]; rfl) (by kernel_rfl) (by kernel_rfl) (by kernel_rfl) (fun _ _ _ h => h) (Or.inl ⟨by rfl, ?_⟩) hS0 ?_
    rotate_left
    · intro W' hW'
      obtain ⟨c1, c2, c3, c4, ⟨c5, c6, c7, c8, c9⟩, ⟨e0, e1, e2, e3, e4⟩⟩ := HC.out W' hW'
      go_simp
      all_goals (try with_reducible rfl)
    try simp only [Act.put, List.setIfInBounds_toArray, List.set_cons_zero, List.set_cons_succ]
    refine wpAnyH_take (i := 13) (v := ?_) (by simp only [List.getElem?_toArray, List.getElem?_cons_succ, List.getElem?_cons_zero]; rfl) (by kernel_rfl) (by kernel_rfl) (by kernel_rfl) (fun _ _ _ h => h) (Or.inl ⟨by rfl, ?_⟩) hS0 ?_
    rotate_left
    · intro W' hW'
      obtain ⟨c1, c2, c3, c4, ⟨c5, c6, c7, c8, c9⟩, ⟨e0, e1, e2, e3, e4⟩⟩ := HC.out W' hW'
      go_simp
      all_goals (try with_reducible rfl)
    try simp only [Act.put, List.setIfInBounds_toArray, List.set_cons_zero, List.set_cons_succ]
    refine wpAnyH_take (i := 16) (v := ?_) (by simp only [List.getElem?_toArray, List.getElem?_cons_succ, List.getElem?_cons_zero]; rfl) (by kernel_rfl) (by kernel_rfl) (by kernel_rfl) (fun _ _ _ h => h) (Or.inl ⟨by rfl, ?_⟩) hS0 ?_
    rotate_left
    · intro W' hW'
      obtain ⟨c1, c2, c3, c4, ⟨c5, c6, c7, c8, c9⟩, ⟨e0, e1, e2, e3, e4⟩⟩ := HC.out W' hW'
      go_simp
      all_goals (try with_reducible rfl)
    try simp only [Act.put, List.setIfInBounds_toArray, List.set_cons_zero, List.set_cons_succ]
    refine wpAnyH_take (i := 17) (v := ?_) (by simp only [List.getElem?_toArray, List.getElem?_cons_succ, List.getElem?_cons_zero]; rfl) (by kernel_rfl) (by kernel_rfl) (by kernel_rfl) (fun _ _ _ h => h) (Or.inl ⟨by rfl, ?_⟩) hS0 ?_
    rotate_left
    · intro W' hW'
      obtain ⟨c1, c2, c3, c4, ⟨c5, c6, c7, c8, c9⟩, ⟨e0, e1, e2, e3, e4⟩⟩ := HC.out W' hW'
      go_simp
      all_goals (try with_reducible rfl)
    try simp only [Act.put, List.setIfInBounds_toArray, List.set_cons_zero, List.set_cons_succ]
    refine HeldIn.wpAnyH_one (i := 14) (by kernel_rfl) (by simp only [List.getElem?_toArray, List.getElem?_cons_succ, List.getElem?_cons_zero]; rfl) (by rfl) ?_
    intro K' hK'
    go_simp
    refine (Found_n HJ.out (HRG.out.scr.later hS0)).mono ?_
    rintro e w4 ⟨A4, c4, rfl, hr4, ha4, hb4⟩
    have hS4 : Below W.heap.size W w4 := hS0.trans (hb4.mono hS0.size)
    clear hr4 ha4 hb4
    refine hK'.out _ _ hS4 ?_
    clear hK'
    try simp only [Act.put, List.setIfInBounds_toArray, List.set_cons_zero, List.set_cons_succ]
    refine wpAnyH_take (i := 15) (v := ?_) (by simp only [List.getElem?_toArray, List.getElem?_cons_succ, List.getElem?_cons_zero]; rfl) (by kernel_rfl) (by kernel_rfl) (by kernel_rfl) (fun _ _ _ h => h) (Or.inl ⟨by rfl, ?_⟩) hS4 ?_
    rotate_left
    · intro W' hW'
      obtain ⟨c1, c2, c3, c4, ⟨c5, c6, c7, c8, c9⟩, ⟨e0, e1, e2, e3, e4⟩⟩ := HC.out W' hW'
      go_simp
      all_goals (try with_reducible rfl)
    try simp only [Act.put, List.setIfInBounds_toArray, List.set_cons_zero, List.set_cons_succ]
    refine wpAnyH_take (i := 18) (v := ?_) (by simp only [List.getElem?_toArray, List.getElem?_cons_succ, List.getElem?_cons_zero]; rfl) (by kernel_rfl) (by kernel_rfl) (by kernel_rfl) (fun _ _ _ h => h) (Or.inl ⟨by rfl, ?_⟩) hS4 ?_
    rotate_left
    · intro W' hW'
      obtain ⟨c1, c2, c3, c4, ⟨c5, c6, c7, c8, c9⟩, ⟨e0, e1, e2, e3, e4⟩⟩ := HC.out W' hW'
      go_simp
      all_goals (try with_reducible rfl)
    try simp only [Act.put, List.setIfInBounds_toArray, List.set_cons_zero, List.set_cons_succ]
    refine wpAnyH_take (i := 19) (v := ?_) (by simp only [List.getElem?_toArray, List.getElem?_cons_succ, List.getElem?_cons_zero]; rfl) (by kernel_rfl) (by kernel_rfl) (by kernel_rfl) (fun _ _ _ h => h) (Or.inl ⟨by rfl, ?_⟩) hS4 ?_
    rotate_left
    · intro W' hW'
      obtain ⟨c1, c2, c3, c4, ⟨c5, c6, c7, c8, c9⟩, ⟨e0, e1, e2, e3, e4⟩⟩ := HC.out W' hW'
      go_simp
      all_goals (try with_reducible rfl)
    try simp only [Act.put, List.setIfInBounds_toArray, List.set_cons_zero, List.set_cons_succ]
    refine wpAnyH_take (i := 20) (v := ?_) (by simp only [List.getElem?_toArray, List.getElem?_cons_succ, List.getElem?_cons_zero]; rfl) (by kernel_rfl) (by kernel_rfl) (by kernel_rfl) (fun _ _ _ h => h) (Or.inl ⟨by rfl, ?_⟩) hS4 ?_
    rotate_left
    · intro W' hW'
      obtain ⟨c1, c2, c3, c4, ⟨c5, c6, c7, c8, c9⟩, ⟨e0, e1, e2, e3, e4⟩⟩ := HC.out W' hW'
      go_simp
      all_goals (try with_reducible rfl)
    try simp only [Act.put, List.setIfInBounds_toArray, List.set_cons_zero, List.set_cons_succ]
    refine wpAnyH_take (i := 21) (v := ?_) (by simp only [List.getElem?_toArray, List.getElem?_cons_succ, List.getElem?_cons_zero]; rfl) (by kernel_rfl) (by kernel_rfl) (by kernel_rfl) (fun _ _ _ h => h) (Or.inl ⟨by rfl, ?_⟩) hS4 ?_
    rotate_left
    · intro W' hW'
      obtain ⟨c1, c2, c3, c4, ⟨c5, c6, c7, c8, c9⟩, ⟨e0, e1, e2, e3, e4⟩⟩ := HC.out W' hW'
      go_simp
      all_goals (try with_reducible rfl)
    try simp only [Act.put, List.setIfInBounds_toArray, List.set_cons_zero, List.set_cons_succ]
    refine wpAnyH_take (i := 23) (v := ?_) (by simp only [List.getElem?_toArray, List.getElem?_cons_succ, List.getElem?_cons_zero]; rfl) (by kernel_rfl) (by kernel_rfl) (by kernel_rfl) (fun _ _ _ h => h) (Or.inl ⟨by rfl, ?_⟩) hS4 ?_
    rotate_left
    · intro W' hW'
      obtain ⟨c1, c2, c3, c4, ⟨c5, c6, c7, c8, c9⟩, ⟨e0, e1, e2, e3, e4⟩⟩ := HC.out W' hW'
      go_simp
      all_goals (try with_reducible rfl)
    try simp only [Act.put, List.setIfInBounds_toArray, List.set_cons_zero, List.set_cons_succ]
    refine wpAnyH_take (i := 26) (v := ?_) (by simp only [List.getElem?_toArray, List.getElem?_cons_succ, List.getElem?_cons_zero]; rfl) (by kernel_rfl) (by kernel_rfl) (by kernel_rfl) (fun _ _ _ h => h) (Or.inl ⟨by rfl, ?_⟩) hS4 ?_
    rotate_left
    · intro W' hW'
      obtain ⟨c1, c2, c3, c4, ⟨c5, c6, c7, c8, c9⟩, ⟨e0, e1, e2, e3, e4⟩⟩ := HC.out W' hW'
      go_simp
      all_goals (try with_reducible rfl)
    try simp only [Act.put, List.setIfInBounds_toArray, List.set_cons_zero, List.set_cons_succ]
    refine HeldIn.wpAnyH_one (i := 22) (by kernel_rfl) (by simp only [List.getElem?_toArray, List.getElem?_cons_succ, List.getElem?_cons_zero]; rfl) (by rfl) ?_
    intro K' hK'
    go_simp
    refine (Found_n HJ.out (HRG.out.scr.later hS4)).mono ?_
    rintro e w5 ⟨A5, c5, rfl, hr5, ha5, hb5⟩
    have hS5 : Below W.heap.size W w5 := hS4.trans (hb5.mono hS4.size)
    obtain ⟨b5, o5, rfl, hlt5, hc5⟩ := int_at hr5 (i := k) (by rw [← HJ.out]; exact hkj)
    have d5 := hc5 k x.2 HXF.out
    clear hr5 ha5 hb5 hc5 hlt5
    refine hK'.out _ _ hS5 ?_
    clear hK'
    try simp only [Act.put, List.setIfInBounds_toArray, List.set_cons_zero, List.set_cons_succ]
    refine wpAnyH_take (i := 24) (v := ?_) (by simp only [List.getElem?_toArray, List.getElem?_cons_succ, List.getElem?_cons_zero]; rfl) (by kernel_rfl) (by kernel_rfl) (by kernel_rfl) (fun _ _ _ h => h) (Or.inl ⟨by rfl, ?_⟩) hS5 ?_
    rotate_left
    · intro W' hW'
      obtain ⟨c1, c2, c3, c4, ⟨c5, c6, c7, c8, c9⟩, ⟨e0, e1, e2, e3, e4⟩⟩ := HC.out W' hW'
      go_simp
      all_goals (try with_reducible rfl)
    try simp only [Act.put, List.setIfInBounds_toArray, List.set_cons_zero, List.set_cons_succ]
    refine HeldIn.wpAnyH_one (i := 25) (by kernel_rfl) (by simp only [List.getElem?_toArray, List.getElem?_cons_succ, List.getElem?_cons_zero]; rfl) (by rfl) ?_
    intro K' hK'
    go_simp
    refine hK'.out _ _ hS5 ?_
    clear hK'
    try simp only [Act.put, List.setIfInBounds_toArray, List.set_cons_zero, List.set_cons_succ]
    refine wpAnyH_take (i := 27) (v := ?_) (by simp only [List.getElem?_toArray, List.getElem?_cons_succ, List.getElem?_cons_zero]; rfl) (by kernel_rfl) (by kernel_rfl) (by kernel_rfl) (fun _ _ _ h => h) (Or.inl ⟨by rfl, ?_⟩) hS5 ?_
    rotate_left
    · intro W' hW'
      obtain ⟨c1, c2, c3, c4, ⟨c5, c6, c7, c8, c9⟩, ⟨e0, e1, e2, e3, e4⟩⟩ := HC.out W' hW'
      go_simp
      all_goals (try with_reducible rfl)
    try simp only [Act.put, List.setIfInBounds_toArray, List.set_cons_zero, List.set_cons_succ]
    refine wpAnyH_take (i := 28) (v := ?_) (by simp only [List.getElem?_toArray, List.getElem?_cons_succ, List.getElem?_cons_zero]; rfl) (by kernel_rfl) (by kernel_rfl) (by kernel_rfl) (fun _ _ _ h => h) (Or.inl ⟨by rfl, ?_⟩) hS5 ?_
    rotate_left
    · intro W' hW'
      obtain ⟨c1, c2, c3, c4, ⟨c5, c6, c7, c8, c9⟩, ⟨e0, e1, e2, e3, e4⟩⟩ := HC.out W' hW'
      go_simp
      all_goals (try with_reducible rfl)
    try simp only [Act.put, List.setIfInBounds_toArray, List.set_cons_zero, List.set_cons_succ]
    refine wpAnyH_done (by kernel_rfl) ?_ _
    obtain ⟨c1, c2, c3, c4, _, _⟩ := HC.out w5 hS5
    have d1 : w5.frozen? ⟨w3.heap.size + 1, 0, none⟩ = false := (cell_heap ((only_below (fun _ => False) hS5).heap HEX.out.count id) 0).2
    have HS5 := Lib.hid hS5
    clear hS0 hS4 hS5 d5
    have a1 := HS3.out.apart
    have a2 := HM3.out.lt
    have a3 := HEX.out.words
    have a4 := HPB.out
    have hww := HWB.out
    have HRX := Lib.hid (HRG.out.only ((only_below (fun i => i = w3.heap.size + 1) HS5.out).setCell (p := ⟨w3.heap.size + 1, 0, none⟩) (.inl rfl) (.int .i64 ((k : Int) + 1))) (fun e => a4.2.2.2.2.2 e) (fun e => by have e' : q = w3.heap.size + 1 := e; omega) (fun e => a3.2.2.2.2.2 e) (fun e => by have e' : pc = w3.heap.size + 1 := e; omega) (fun e => by have e' : h = w3.heap.size + 1 := e; omega) (fun e => by have e' : w3.heap.size + 1 + 1 + 1 = w3.heap.size + 1 := e; omega) (fun e => by have e' : w3.heap.size + 1 + 1 = w3.heap.size + 1 := e; omega))
    have hz3 := HZ1.out
    have hz4 := HS12.out
    have hz5 := HP3.out
    have HEXX := Lib.hid (HEX.out.counted HS5.out HK.out ⟨by omega, by omega, by omega, by omega⟩ (by omega) x)
    have d2 := HEXX.out.most.cell
    have HKO := Lib.hid (((keeps_below HS5.out).trans (KeepsOthers.setCell _ ⟨w3.heap.size + 1, 0, none⟩ (.int .i64 ((k : Int) + 1)))).from W0.heap.size)
    have HLEN := Lib.hid (show ((pre ++ [x]).length : Int) = (k : Int) + 1 by rw [HK.out]; simp)
    have hlt := HLT.out
    have hk' := HK.out
    have HLT2 := Lib.hid (show k = 0 ∨ (k : Int) < most from hlt.imp (fun e => by rw [hk', e]; rfl) (fun e => by rw [hk']; exact e))
    clear a1 a2 a3 a4 hww hz3 hz4 hz5 hlt hk'
    by_cases hmk : most ≤ (k : Int) + 1
    · gi_wp2
      exact ⟨HKO.out, rfl, g, HRX.out, HEXX.out, by rw [HLEN.out]; have := HLT2.out; omega⟩
    · gi_wp2
      exact ⟨HKO.out, trivial, g, HRX.out, HEXX.out, .inr (by rw [HLEN.out]; omega)⟩
  case done =>
    rintro D xs W hD hlen ⟨g, hr, he, hlt⟩ hK
    have HE := Lib.hid he
    have HKD := Lib.hid hK
    have c0 := he.count.cell
    have c1 := he.deeds.cell
    have c2 := he.most.cell
    obtain ⟨k, hk⟩ : ∃ k, k = xs.length := ⟨_, rfl⟩
    rw [← hk] at c0
    have hkm : (k : Int) = (m : Int) := by rw [hk, HM.out, hlen]
    have hlt2 : k = 0 ∨ (k : Int) < most := hlt.imp (fun e => by rw [hk, e]; rfl) (fun e => by rw [hk]; exact e)
    have HKK := Lib.hid (show (k : Int) = min (m : Int) (max most 1) by omega)
    have heq : ((k : Int) == min (m : Int) (max most 1)) = true := by rw [← HKK.out]; simp
    clear hr he hK hk hlt hlt2 hkm hlen
    gi_wp2
    refine ⟨trivial, (in_wide _ (Law11.awake_any _)).mono ?_⟩
    rintro e w8 ⟨rfl, hb8⟩
    have HB8 := Lib.hid hb8
    have c3 := (show Boxed w8 (w.heap.size + 1 + 1) 4 (.bool false) from (only_below (fun _ => False) hb8).heap HE.out.res id).cell
    have c4 := (show Boxed w8 (w.heap.size + 1 + 1) 4 (.bool false) from (only_below (fun _ => False) hb8).heap HE.out.res id).frozen
    have HK8 := Lib.hid ((only_below (fun _ => False) hb8).heap HKD.out id)
    clear hb8
    gi_wp2
    have hK9 := (KeepsOthers.setCell w8 ⟨w.heap.size + 1 + 1, 0, none⟩ (.bool true)).same D _ HK8.out rfl
    have hc9 : (w8.setCell ⟨w.heap.size + 1 + 1, 0, none⟩ (.bool true)).cell? ⟨w.heap.size + 1 + 1, 0, none⟩ = some (.bool true) := World.cell?_setCell_same' _ _ _ (by rw [c3]; rfl)
    have hc10 := cell_kept hc9 (grownBy_putObj' _ D (.deferred none)) (fun r e => by cases e; exact ⟨_, hK9, rfl⟩)
    refine ⟨by simp, .inl ⟨_, _, rfl, run_takeDeferred hK9, ?_⟩⟩
    refine ⟨.bool true, by simp [results, Tryd.f4, go_sem, hc10], rfl, ?_⟩
    exact (HE.out.below.trans (HB8.out.mono HE.out.below.size)).trans (((Below.refl w.heap.size w8).setCell (p := ⟨w.heap.size + 1 + 1, 0, none⟩) (by show w.heap.size ≤ w.heap.size + 1 + 1; omega) _).trans (belowK_b (w := w) (Nat.le_refl _) _ D _ _ (Nat.le_trans HWB.out hD) hK9 rfl rfl))
  case stop =>
    rintro D c xs W hD hlen ⟨rfl, g, hr, he, hlt⟩ hK
    have HE := Lib.hid he
    have HKD := Lib.hid hK
    have c0 := he.count.cell
    have c1 := he.deeds.cell
    have c2 := he.most.cell
    obtain ⟨k, hk⟩ : ∃ k, k = xs.length := ⟨_, rfl⟩
    rw [← hk] at c0
    have hkm : (k : Int) ≤ (m : Int) := by rw [hk, HM.out]; omega
    have HKK := Lib.hid (show (k : Int) = min (m : Int) (max most 1) by rw [← hlt, ← hk]; omega)
    have heq : ((k : Int) == min (m : Int) (max most 1)) = true := by rw [← HKK.out]; simp
    clear hr he hK hk hlt hkm hlen
    gi_wp2
    refine ⟨trivial, (in_wide _ (Law11.awake_any _)).mono ?_⟩
    rintro e w8 ⟨rfl, hb8⟩
    have HB8 := Lib.hid hb8
    have c3 := (show Boxed w8 (w.heap.size + 1 + 1) 4 (.bool false) from (only_below (fun _ => False) hb8).heap HE.out.res id).cell
    have c4 := (show Boxed w8 (w.heap.size + 1 + 1) 4 (.bool false) from (only_below (fun _ => False) hb8).heap HE.out.res id).frozen
    have HK8 := Lib.hid ((only_below (fun _ => False) hb8).heap HKD.out id)
    clear hb8
    gi_wp2
    have hK9 := (KeepsOthers.setCell w8 ⟨w.heap.size + 1 + 1, 0, none⟩ (.bool true)).same D _ HK8.out rfl
    have hc9 : (w8.setCell ⟨w.heap.size + 1 + 1, 0, none⟩ (.bool true)).cell? ⟨w.heap.size + 1 + 1, 0, none⟩ = some (.bool true) := World.cell?_setCell_same' _ _ _ (by rw [c3]; rfl)
    have hc10 := cell_kept hc9 (grownBy_putObj' _ D (.deferred none)) (fun r e => by cases e; exact ⟨_, hK9, rfl⟩)
    refine ⟨by simp, .inl ⟨_, _, rfl, run_takeDeferred hK9, ?_⟩⟩
    refine ⟨.bool true, by simp [results, Tryd.f4, go_sem, hc10], rfl, ?_⟩
    exact (HE.out.below.trans (HB8.out.mono HE.out.below.size)).trans (((Below.refl w.heap.size w8).setCell (p := ⟨w.heap.size + 1 + 1, 0, none⟩) (by show w.heap.size ≤ w.heap.size + 1 + 1; omega) _).trans (belowK_b (w := w) (Nat.le_refl _) _ D _ _ (Nat.le_trans HWB.out hD) hK9 rfl rfl))

set_option maxRecDepth 100000 in
set_option maxHeartbeats 1000000 in
theorem walk_big (A : Option Addr) (c : Nat) (B : Option Addr) (d n m : Nat) (most : Int) (w : World) (hbig : 200 < n) :
    CallsIn Fence.wide 5 Tryd.prog 4 #[.slice A n c, .slice B m d, .int .i64 most] w fun e w' => e = .returned (.bool true) ∧ Below w.heap.size w w' := by
  refine callsIn_of_wp_marks Tryd.func4 rfl trivial ?_ rfl
  simp only [Tryd.ntmps4, List.size_toArray, List.length_cons, List.length_nil, Nat.reduceAdd, Nat.reduceSub, Array.replicate_succ, Array.replicate_zero, List.push_toArray, List.append_toArray, List.nil_append, List.cons_append]
  have hb0 : Below w.heap.size w (((w.alloc (.cells #[.slice B m d] 23)).alloc (.cells #[.int .i64 most] 3)).alloc (.cells #[.bool false] 4)) := (((Below.refl _ _).alloc (Nat.le_refl _) _).alloc (by simp) _).alloc (by simp; omega) _
  have bR := Boxed.new ((w.alloc (.cells #[.slice B m d] 23)).alloc (.cells #[.int .i64 most] 3)) 4 (.bool false)
  simp only [World.size_alloc] at bR
  have H0 := Lib.hid hb0
  have HBX := Lib.hid bR
  clear hb0 bR
  gi_wp2
  refine ⟨trivial, ?_⟩
  gi_wp2
  refine ⟨trivial, (in_wide _ (Law11.awake_any _)).mono ?_⟩
  rintro e w8 ⟨rfl, hb8⟩
  have HB8 := Lib.hid hb8
  have c3 := (show Boxed w8 (w.heap.size + 1 + 1) 4 (.bool false) from (only_below (fun _ => False) hb8).heap HBX.out id).cell
  have c4 := (show Boxed w8 (w.heap.size + 1 + 1) 4 (.bool false) from (only_below (fun _ => False) hb8).heap HBX.out id).frozen
  clear hb8
  gi_wp2
  have hc9 : (w8.setCell ⟨w.heap.size + 1 + 1, 0, none⟩ (.bool true)).cell? ⟨w.heap.size + 1 + 1, 0, none⟩ = some (.bool true) := World.cell?_setCell_same' _ _ _ (by rw [c3]; rfl)
  refine ⟨.bool true, by simp [results, Tryd.f4, go_sem, hc9], rfl, ?_⟩
  exact (H0.out.trans (HB8.out.mono H0.out.size)).setCell (p := ⟨w.heap.size + 1 + 1, 0, none⟩) (by show w.heap.size ≤ w.heap.size + 1 + 1; omega) _
set_option maxRecDepth 100000 in
set_option maxHeartbeats 1000000 in
theorem walk_many (A : Option Addr) (c : Nat) (B : Option Addr) (d n m : Nat) (most : Int) (w : World) (hbig : ¬ 200 < n) (hmany : 100 < m) :
    CallsIn Fence.wide 5 Tryd.prog 4 #[.slice A n c, .slice B m d, .int .i64 most] w fun e w' => e = .returned (.bool true) ∧ Below w.heap.size w w' := by
  refine callsIn_of_wp_marks Tryd.func4 rfl trivial ?_ rfl
  simp only [Tryd.ntmps4, List.size_toArray, List.length_cons, List.length_nil, Nat.reduceAdd, Nat.reduceSub, Array.replicate_succ, Array.replicate_zero, List.push_toArray, List.append_toArray, List.nil_append, List.cons_append]
  have hb0 : Below w.heap.size w (((w.alloc (.cells #[.slice B m d] 23)).alloc (.cells #[.int .i64 most] 3)).alloc (.cells #[.bool false] 4)) := (((Below.refl _ _).alloc (Nat.le_refl _) _).alloc (by simp) _).alloc (by simp; omega) _
  have bR := Boxed.new ((w.alloc (.cells #[.slice B m d] 23)).alloc (.cells #[.int .i64 most] 3)) 4 (.bool false)
  simp only [World.size_alloc] at bR
  have H0 := Lib.hid hb0
  have HBX := Lib.hid bR
  clear hb0 bR
  gi_wp2
  refine ⟨trivial, ?_⟩
  gi_wp2
  refine ⟨trivial, (in_wide _ (Law11.awake_any _)).mono ?_⟩
  rintro e w8 ⟨rfl, hb8⟩
  have HB8 := Lib.hid hb8
  have c3 := (show Boxed w8 (w.heap.size + 1 + 1) 4 (.bool false) from (only_below (fun _ => False) hb8).heap HBX.out id).cell
  have c4 := (show Boxed w8 (w.heap.size + 1 + 1) 4 (.bool false) from (only_below (fun _ => False) hb8).heap HBX.out id).frozen
  clear hb8
  gi_wp2
  have hc9 : (w8.setCell ⟨w.heap.size + 1 + 1, 0, none⟩ (.bool true)).cell? ⟨w.heap.size + 1 + 1, 0, none⟩ = some (.bool true) := World.cell?_setCell_same' _ _ _ (by rw [c3]; rfl)
  refine ⟨.bool true, by simp [results, Tryd.f4, go_sem, hc9], rfl, ?_⟩
  exact (H0.out.trans (HB8.out.mono H0.out.size)).setCell (p := ⟨w.heap.size + 1 + 1, 0, none⟩) (by show w.heap.size ≤ w.heap.size + 1 + 1; omega) _
set_option maxHeartbeats 1000000 in
theorem walk (A : Option Addr) (l : List Int) (c : Nat) (B : Option Addr) (ds : List D) (d : Nat) (most : Int) (_ : (Lit.int .i64 most).wf = true) (w : World)
    (hR : Row w w.heap.size A (flat (encZ .u64) l)) (hl : l.length ≤ maxLen) (_ : ∀ x ∈ l, (Lit.int .u64 x).wf = true)
    (hS : Row w w.heap.size B (flat encD ds)) (hs : ds.length ≤ maxLen) (_ : ∀ x ∈ ds, (Lit.int .i64 x.1).wf = true ∧ (Lit.int .i64 x.2.1).wf = true ∧ (Lit.int .u64 x.2.2.1).wf = true ∧ (Lit.int .u64 x.2.2.2.1).wf = true ∧ (Lit.int .u64 x.2.2.2.2).wf = true) (_ : True) :
    Calls Tryd.prog 4 #[.slice A l.length c, .slice B ds.length d, .int .i64 most] w fun e w' => e = .returned (.bool true) ∧ Below w.heap.size w w' := by
  obtain ⟨n, hn⟩ : ∃ n, n = l.length := ⟨_, rfl⟩
  obtain ⟨m, hm⟩ : ∃ m, m = ds.length := ⟨_, rfl⟩
  unfold maxLen at hl hs
  rw [← hn] at hl ⊢
  rw [← hm] at hs ⊢
  by_cases hbig : 200 < n
  · exact callsIn_wide.1 (walk_big A c B d n m most w hbig)
  by_cases hmany : 100 < m
  · exact callsIn_wide.1 (walk_many A c B d n m most w hbig hmany)
  exact callsIn_wide.1 (walk_within A l c B ds d n m most w hR hn hbig hS hm hmany)
theorem laidOut : laidOutB Tryd.prog = true := by kernel_rfl
theorem own : ownKnob Tryd.prog.godebug = none := by kernel_rfl
theorem door_met (os : Os) (args : Array Value) : laidMetH Tryd.prog Rows.taskStepsRow.laid ((World.doorLaid Tryd.prog 400 os).forCall (fun _ _ => 0) ⟨#[], args, []⟩).memory :=
  laidMetH_of_parts3 (fuel := 8) (laidMet_of_run' 8 (by kernel_rfl) (by kernel_rfl)) (by kernel_rfl) (by kernel_rfl)
set_option maxRecDepth 100000 in
theorem lifted (os : Os) (started : os.Started) (H : Type) (enc : TypeId × Value → H) :
    ReturnsInHanded {} Tryd.checked os 4 .any (fun w args => (Rows.taskStepsSpec.pre enc Tryd.prog Tryd.f4 [] false w args ∧ laidMetH Tryd.prog Rows.taskStepsRow.laid w) ∧ sizedMet enc Tryd.prog Tryd.f4 (OpenSpec.ofChange Rows.taskStepsSpec) false w args) (Rows.taskStepsSpec.post enc Tryd.prog Tryd.f4 false true false false) := by
  refine Frame.liftedLaid (C := Tryd.checked) (fn := Tryd.f4) (tb := 4) own started (by kernel_rfl) Tryd.func4
    (ChangeSpec.witness_shaped (enc := enc) (C := Tryd.checked) (os := os) (X := fun w _ => laidMetH Tryd.prog Rows.taskStepsRow.laid w) false (World.doorLaid Tryd.prog 400 os) #[.slice none 0 0, .slice none 0 0, .int .i64 0] 8 rfl (World.shaped_of_RefB (by kernel_rfl) (by kernel_rfl)) (by kernel_rfl) (by kernel_rfl) (by kernel_rfl) (door_met os _))
    rfl rfl Tryd.underlying4 laidOut (by kernel_rfl) (fun ds h => by match ds, h with | [_, _, _], _ => rfl) ?_
  intro W base args ds ps hval0 hA0 hlt hL
  have hval : ∀ (j : Nat) t v, Tryd.f4.params[j]? = some t → args[j]? = some v → Value.okWide Tryd.prog W .any base t v := hval0
  have hA : DataW.TrodAll enc Tryd.prog W 0 (fun _ => true) true Tryd.f4.params.toList args.toList ds ps := hA0
  rw [Tryd.params4] at hA hval
  obtain ⟨v0, vs0, d0, ds0, p0, q0, hargs, rfl, rfl, h0, r0⟩ := trodAll_cons hA
  obtain ⟨v1, vs1, d1, ds1, p1, q1, rfl, rfl, rfl, h1, r1⟩ := trodAll_cons r0
  obtain ⟨v2, vs2, d2, ds2, p2, q2, rfl, rfl, rfl, h2, r2⟩ := trodAll_cons r1
  obtain ⟨rfl, rfl, rfl⟩ := trodAll_nil r2
  obtain rfl : args = #[v0, v1, v2] := by cases args; simp_all
  obtain ⟨A0, x0, c0, rfl, b0, m0, R0, g0⟩ := Open.open_rows (k := 1) (Ints.encZ .u64) (fun x => (Lit.int .u64 x).wf = true) Tryd.underlying22 (by kernel_rfl) (by decide) (Ints.encZ_length _) (fun n cs y h hl => Ints.one_int Tryd.underlying40 n cs y h hl) (hval 0 22 v0 rfl rfl) h0
  obtain ⟨A1, x1, c1, rfl, b1, m1, R1, g1⟩ := Open.open_rows (k := 5) (Open.enc5 .i64 .i64 .u64 .u64 .u64) (fun x => (Lit.int .i64 x.1).wf = true ∧ (Lit.int .i64 x.2.1).wf = true ∧ (Lit.int .u64 x.2.2.1).wf = true ∧ (Lit.int .u64 x.2.2.2.1).wf = true ∧ (Lit.int .u64 x.2.2.2.2).wf = true) Tryd.underlying23 (by kernel_rfl) (by decide) (Open.enc5_length .i64 .i64 .u64 .u64 .u64) (fun n cs y h hl => Open.five_ints Tryd.underlying42 (by kernel_rfl) Tryd.underlying3 Tryd.underlying3 Tryd.underlying40 Tryd.underlying40 Tryd.underlying40 n cs y h hl) (hval 1 23 v1 rfl rfl) h1
  obtain ⟨a2, rfl, _, _, w2⟩ := open_int Tryd.underlying3 (hval 2 3 v2 rfl rfl) h2
  refine (walk A0 x0 c0 A1 x1 c1 a2 w2 W R0 (Nat.le_trans b0 m0) g0 R1 (Nat.le_trans b1 m1) g1 (held hL)).mono fun e W' h => ?_
  exact h

theorem over : Rows.taskStepsRow.holds Tryd.pinned (OpenSpec.ofChange Rows.taskStepsSpec) :=
  OpenClaim.holds_of_wide 4 Tryd.f4 rfl rfl rfl rfl rfl rfl rfl ⟨rfl, rfl, rfl, rfl, rfl⟩ rfl rfl rfl rfl rfl (by kernel_rfl) Tryd.func4 (by kernel_rfl)
    (of_decide_eq_true (by kernel_rfl)) (by unfold Func.isWrapper; first | (rw [if_pos (by decide +kernel)]; kernel_rfl) | (rw [if_neg (by decide +kernel)]; exact ⟨rfl, rfl⟩))
    (fun os started H enc _ => lifted os started H enc)

theorem proved : Rows.TaskStepsCardSaid :=
  Claim7.holds_tied_plain_at .later [] Rows.taskStepsCard.laidKinds true Rows.taskStepsCard.stood.harness Rows.taskStepsCard.stood.looks
    over (fun _ h => by cases h) (by kernel_rfl) (fun _ h => by cases h) taskSteps_row_tie rfl ⟨rfl, rfl⟩ (by kernel_rfl) rfl
    (fun f fn hf hfn => by
      obtain rfl : f = 4 := Option.some.inj ((show Tryd.prog.funcNamed Rows.taskStepsRow.func = some 4 by kernel_rfl).symm.trans hf) |>.symm
      obtain rfl : fn = Tryd.f4 := (Option.some.inj (Tryd.func4.symm.trans hfn)).symm
      exact ⟨by kernel_rfl, fun j t ht => by
        rw [Tryd.params4] at ht
        have hm : t ∈ [22, 23, 3] := by simpa using Array.mem_of_getElem? ht
        have hall : ([22, 23, 3].all fun u => !Tryd.prog.wantsStandIn u) = true := by kernel_rfl
        exact (show Tryd.prog.wantsStandIn t = false by simpa using List.all_eq_true.1 hall t hm)⟩)
    (by kernel_rfl)
#print axioms proved
end Go.Proofs.YthlamnghbdaaiaaDoor.TaskSteps
