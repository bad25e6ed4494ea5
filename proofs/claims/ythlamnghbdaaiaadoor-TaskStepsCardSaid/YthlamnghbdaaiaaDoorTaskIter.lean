/- Package task's Steps (layer 11): the iterator over the deeds of a script, each done to a memory and told to the script ahead of being handed on. -/
import Derived.Test.YthlamnghbdaaiaaDoorTaskTell
import Derived.Test.YthlamnghbdaaiaaDoorTaskRun
import Derived.Test.YthlamnghbdaaiaaDoorDeedDo
import Derived.Test.YthlamnghbdaaiaaDoorDrives
import Derived.RangeFuncBox
namespace Go.Proofs.YthlamnghbdaaiaaDoor.Task
open Go.ChangeShapes Go.WideShapes Go.RowKit Go.Shelf CM DM TR Lay Ints Cells Push Drives
set_option linter.unusedVariables false
attribute [local go_sem] Oper.semAt_some

abbrev taskV (p : Nat) : Value := .iface 30 (.pointer (some ⟨p, 0, none⟩))
theorem methods_task : Tryd.prog.underlying 51 = some (.interface (Tryd.prog.methodsAt 51)) := by kernel_rfl
theorem task_held (p : Nat) (w : World) : (binOp .eql 51 (taskV p) .nilIface).run Tryd.prog w = .ok (.bool false) w := run_eql_held_nil w _ _ _ methods_task
theorem method_next (p : Nat) (n : Nat) (w : World) : (method (n + 1) 30 (.pointer (some ⟨p, 0, none⟩)) "Next").run Tryd.prog w = .ok (14, .pointer (some ⟨p, 0, none⟩)) w := by kernel_rfl
theorem method_tell (p : Nat) (n : Nat) (w : World) : (method (n + 1) 30 (.pointer (some ⟨p, 0, none⟩)) "Tell").run Tryd.prog w = .ok (15, .pointer (some ⟨p, 0, none⟩)) w := by kernel_rfl
theorem hmf : ∀ (fn : Fn) (first cap : Array Value) (w : World), (Instr.makeFunc fn first cap).run Tryd.prog w = .ok (.func fn first cap) w := fun _ _ _ _ => rfl

/-- What is handed on: a deed, and what was found by it. -/
abbrev Pr := D × Int
def encs (x : Pr) : Array Value := #[.agg #[.int .i64 x.1.1, .int .i64 x.1.2.1, .int .u64 x.1.2.2.1, .int .u64 x.1.2.2.2.1, .int .u64 x.1.2.2.2.2], .int .u64 x.2]
theorem mem_cells {w : World} {p h n : Nat} {l : List Int} (hM : Mem w p h n l) : ∃ cs t f, w.heap[h]? = some (.cells cs t f) := by
  rcases hM.own.2 with ⟨e, _⟩ | ⟨g, cap, cur, e, _, hg, _⟩
  · cases e
  · cases e
    exact ⟨_, _, _, hg⟩
/-- A script that was told something: its words lie in block g. -/
theorem scr_g {w : World} {p q g : Nat} {ds : List D} {fs : List Int} {v : Int} (hS : Scr w p q g ds (fs ++ [v])) : ∃ cs t f, w.heap[g]? = some (.cells cs t f) := by
  obtain ⟨A, c, F, fc, hb, hr, ha, ho, hf⟩ := hS.box
  rcases ho.2 with ⟨_, e⟩ | ⟨g', cap, cur, e, _, hg, _⟩
  · simp at e
  · have hF : F = some ⟨g', 0, none⟩ := by
      injection e
    have h1 := (hf _ hF).1
    simp only at h1
    exact ⟨_, _, _, h1 ▸ hg⟩
/-- Between two rounds: the script in blocks p, q, g, the memory in blocks pc, h, what the iterator has captured in blocks bt, bc. -/
structure Rig (p q pc h n bt bc : Nat) (ds : List D) (l : List Int) (g : Nat) (pre : List Pr) (W : World) : Prop where
  scr : Scr W p q g ds (pre.map (·.2))
  words : ∃ cs t f, W.heap[g]? = some (.cells cs t f)
  mem : Mem W pc h n (runW l (ds.take pre.length))
  task : Boxed W bt 51 (taskV p)
  cells : Boxed W bc 25 (.pointer (some ⟨pc, 0, none⟩))
  deeds : pre.map (·.1) = ds.take pre.length
  found : pre.map (·.2) = runF l (ds.take pre.length)
  apart : (pc ≠ p ∧ pc ≠ q ∧ pc ≠ g) ∧ (h ≠ p ∧ h ≠ q ∧ h ≠ g) ∧ (bt ≠ p ∧ bt ≠ g ∧ bt ≠ h) ∧ (bc ≠ p ∧ bc ≠ g ∧ bc ≠ h)
theorem Rig.only {p q pc h n bt bc g : Nat} {ds : List D} {l : List Int} {pre : List Pr} {W W' : World} {R : Nat → Prop} (hr : Rig p q pc h n bt bc ds l g pre W) (ho : Only R W W') (h1 : ¬ R p) (h2 : ¬ R q) (h3 : ¬ R g) (h4 : ¬ R pc) (h5 : ¬ R h) (h6 : ¬ R bt) (h7 : ¬ R bc) : Rig p q pc h n bt bc ds l g pre W' := by
  obtain ⟨hs, ⟨cs, t, fr, hw⟩, hm, ht, hc, hd, hf, ha⟩ := hr
  exact ⟨hs.only ho h1 h2 h3, ⟨cs, t, fr, ho.heap hw h3⟩, ⟨hm.1, hm.len, hm.most, ho.cell hm.box h4, ho.own hm.own (fun k e => by obtain rfl : h = k := (by simpa [Value.ownBlock] using e); exact h5)⟩, ho.heap ht h6, ho.heap hc h7, hd, hf, ha⟩
theorem Rig.later {p q pc h n bt bc g : Nat} {ds : List D} {l : List Int} {pre : List Pr} {W W' : World} (hr : Rig p q pc h n bt bc ds l g pre W) (hb : Below W.heap.size W W') : Rig p q pc h n bt bc ds l g pre W' :=
  hr.only (only_below (fun _ => False) hb) id id id id id id id
theorem keeps_only {R : Nat → Prop} {A B : World} (h : Only R A B) (hR : ∀ k, R k → ∃ cs t f, A.heap[k]? = some (.cells cs t f)) : KeepsOthers A B :=
  ⟨h.size, fun k o hk hc => h.heap hk (fun e => by
    obtain ⟨cs, t, f, h2⟩ := hR k e
    rw [hk] at h2
    cases h2
    cases hc)⟩
theorem keeps_below {A B : World} (h : Below A.heap.size A B) : KeepsOthers A B := keeps_only (only_below (fun _ => False) h) (fun _ e => e.elim)
theorem ne_word {x g g' n : Nat} (hg : g' = g ∨ n ≤ g') (h : x ≠ g) (hx : x < n) : x ≠ g' := by omega
/-- The deed is done, and its finding told. -/
theorem Rig.step {p q pc h n bt bc g g' : Nat} {ds : List D} {l : List Int} {pre : List Pr} {W W1 W2 : World} {x : D} (hr : Rig p q pc h n bt bc ds l g pre W) (hx : ds[pre.length]? = some x) (hg : W.grownBy W1 (some h)) (hm : Mem W1 pc h n (nextD (runW l (ds.take pre.length)) x))
    (hs : Scr W2 p q g' ds (pre.map (·.2) ++ [foundD (runW l (ds.take pre.length)) x])) (hg' : g' = g ∨ W1.heap.size ≤ g') (ho : Only (fun k => k = p ∨ k = g) W1 W2) :
    Rig p q pc h n bt bc ds l g' (pre ++ [(x, foundD (runW l (ds.take pre.length)) x)]) W2 ∧ Only (fun k => k = p ∨ k = g ∨ k = h) W W2 ∧ (g' = g ∨ W.heap.size ≤ g') := by
  obtain ⟨hs0, _, hm0, ht, hc, hd, hf, ⟨a1, a2, a3⟩, ⟨a4, a5, a6⟩, ⟨a7, a8, a9⟩, a10, a11, a12⟩ := hr
  have hsz := hg.size
  have h1 : Only (fun k => k = h) W W1 := only_grown hg (fun k e => by cases e; rfl)
  have h2 : Only (fun k => k = p ∨ k = g ∨ k = h) W W2 := (h1.wide (fun k e => .inl (.inr (.inr e)))).more ho (fun k e => .inl (e.elim .inl (fun e => .inr (.inl e))))
  have hlt := (List.getElem?_eq_some_iff.1 hx).1
  have hlp := hm0.lt
  have htk := take_snoc hx
  have hgw : g' = g ∨ W.heap.size ≤ g' := hg'.imp id (fun h => Nat.le_trans hsz h)
  refine ⟨⟨?_, scr_g hs, ?_, h2.heap ht (fun e => e.elim a7 fun e => e.elim a8 a9), h2.heap hc (fun e => e.elim a10 fun e => e.elim a11 a12), ?_, ?_, ⟨a1, a2, ne_word hgw a3 hlp.1⟩, ⟨a4, a5, ne_word hgw a6 hlp.2⟩, ⟨a7, ne_word hgw a8 ht.lt, a9⟩, a10, ne_word hgw a11 hc.lt, a12⟩, h2, hgw⟩
  · simpa using hs
  · rw [List.length_append, List.length_singleton, htk, runW_snoc]
    exact ⟨hm.1, hm.len, hm.most, ho.cell hm.box (fun e => e.elim a1 a3), ho.own hm.own (fun k e => by obtain rfl : h = k := (by simpa [Value.ownBlock] using e); exact fun e => e.elim a4 a6)⟩
  · rw [List.length_append, List.length_singleton, htk, ← hd]
    simp
  · rw [List.length_append, List.length_singleton, htk, runF_snoc, ← hf]
    simp

theorem Steps_in (m : Nat) (pc p : Nat) (w : World) : CallsIn Fence.wide m Tryd.prog 12 #[.pointer (some ⟨pc, 0, none⟩), taskV p] w fun e w' =>
    e = .returned (.func (.func 20) #[] #[.pointer (some ⟨w.heap.size + 1, 0, none⟩), .pointer (some ⟨w.heap.size, 0, none⟩)]) ∧ w' = (w.alloc (.cells #[.pointer (some ⟨pc, 0, none⟩)] 25)).alloc (.cells #[taskV p] 51) := by
  have hf := hmf
  refine callsIn_of_wp Tryd.func12 rfl trivial ?_ rfl
  simp only [Tryd.ntmps12, List.size_toArray, List.length_cons, List.length_nil, Nat.reduceAdd, Nat.reduceSub, Array.replicate_succ, Array.replicate_zero, List.push_toArray, List.append_toArray, List.nil_append, List.cons_append]
  gi_wp2
  go_ret
  exact ⟨rfl, rfl⟩
/-- How many words the script was told. -/
def toldN (w : World) (p : Nat) : Nat := match w.cell? ⟨p, 1, none⟩ with | some (.slice _ n _) => n | _ => 0
theorem Scr.toldN {w : World} {p q g : Nat} {ds : List D} {fs : List Int} (h : Scr w p q g ds fs) : toldN w p = fs.length := by
  obtain ⟨A, c, F, fc, hb, _⟩ := h.box
  have h1 := (cell_heap hb 1).1
  simp at h1
  unfold Task.toldN
  rw [h1]
set_option maxHeartbeats 1000000 in
theorem Steps1_drives (m : Nat) (p q pc h n bt bc : Nat) (ds : List D) (l : List Int) (Ext : Nat → List Pr → World → Prop) (w : World)
    (hExt : ∀ g g' pre W W', Rig p q pc h n bt bc ds l g pre W → Ext g pre W → Only (fun k => k = p ∨ k = g ∨ k = h) W W' → (g' = g ∨ W.heap.size ≤ g') → Ext g' pre W') :
    Drives m Tryd.prog 20 #[.pointer (some ⟨bt, 0, none⟩), .pointer (some ⟨bc, 0, none⟩)] encs (fun pre W => ∃ g, Rig p q pc h n bt bc ds l g pre W ∧ Ext g pre W)
      (fun pre x W => ∃ g, Rig p q pc h n bt bc ds l g (pre ++ [x]) W ∧ Ext g pre W ∧ pre.length < ds.length) (fun xs => xs.length = ds.length) (fun pre => pre.length ≤ ds.length) w := by
  intro lo G Jx W hW hG hY hI hG0
  have HY := Lib.hid hY
  have HE := Lib.hid hExt
  have HGG := Lib.hid hG
  have HI := Lib.hid hI
  have HG0 := Lib.hid hG0
  have c0 : W.cell? ⟨bt, 0, none⟩ = some (taskV p) := hI.choose_spec.1.task.cell
  have hh := fun W => task_held p W
  have hn1 := method_next p
  have hn2 := method_tell p
  clear hY hExt hG hI hG0
  refine callsIn_of_wp Tryd.func20 rfl trivial ?_ rfl
  simp only [Tryd.ntmps20, List.size_toArray, List.length_cons, List.length_nil, Nat.reduceAdd, Nat.reduceSub, Array.replicate_succ, Array.replicate_zero, List.push_toArray, List.append_toArray, List.nil_append, List.cons_append]
  gi_wp2
  gi_loopw [5] (fun _ wr => ∃ (pre : List Pr) (g : Nat), pre.length ≤ ds.length ∧ Rig p q pc h n bt bc ds l g pre wr ∧ Ext g pre wr ∧ G wr) (fun _ wr => ds.length - toldN wr p)
  case atStart => exact ⟨[], HI.out.choose, Nat.zero_le _, HI.out.choose_spec.1, HI.out.choose_spec.2, HG0.out⟩
  case round =>
    obtain ⟨pre, g, hle, hr, he, hg⟩ := hrel
    have HR := Lib.hid hr
    have HX := Lib.hid he
    have HG := Lib.hid hg
    have t0 := hr.task.cell
    clear hr he hg c0
    by_cases hlt : pre.length < ds.length
    · obtain ⟨x, hx⟩ : ∃ x, ds[pre.length]? = some x := ⟨_, List.getElem?_eq_getElem hlt⟩
      have HD := Lib.hid hx
      have HDF := Lib.hid (show ds[(pre.map (·.2)).length]? = some x by rw [List.length_map]; exact hx)
      clear hx
      gi_wp2
      refine ⟨trivial, wide_room, (in_wide _ (Next_more HR.out.scr HDF.out)).mono ?_⟩
      rintro e w1 ⟨rfl, hb1⟩
      have hb2 := hb1.alloc hb1.size (.cells #[.int .i64 x.1, .int .i64 x.2.1, .int .u64 x.2.2.1, .int .u64 x.2.2.2.1, .int .u64 x.2.2.2.2] 42)
      have HB2 := Lib.hid hb2
      have hr2 := HR.out.later hb2
      have HR2 := Lib.hid hr2
      have HX2 := Lib.hid (HE.out g g pre _ _ HR.out HX.out (only_below _ hb2) (.inl rfl))
      have HG2 := Lib.hid (HGG.out _ _ (keeps_below hb2) HG.out)
      have HBX := Lib.hid (new_heap w1 (.cells #[.int .i64 x.1, .int .i64 x.2.1, .int .u64 x.2.2.1, .int .u64 x.2.2.2.1, .int .u64 x.2.2.2.2] 42))
      have t1 := hr2.cells.cell
      have HS1 := Lib.hid hb1.size
      have HDO := Lib.hid (DeedDo.Do_any HR2.out.mem x)
      generalize hv : foundD (runW l (ds.take pre.length)) x = v at HDO
      have HV := Lib.hid hv
      clear hb1 hb2 hr2 t0 hv
      gi_wp2
      refine ⟨trivial, wide_room, (in_wide _ HDO.out).mono ?_⟩
      rintro e w2 ⟨rfl, hg2, hm2⟩
      have ha := HR2.out.apart
      have hoh : Only (fun k => k = h) _ w2 := only_grown hg2 (fun k e => by cases e; rfl)
      have HS2 := Lib.hid (HR2.out.scr.only hoh ha.2.1.1.symm ha.2.1.2.1.symm ha.2.1.2.2.symm)
      have HG2' := Lib.hid (HGG.out _ _ (keeps_only hoh (fun k e => by subst e; exact mem_cells HR2.out.mem)) HG2.out)
      have HGC := Lib.hid (show ∃ cs t f, w2.heap[g]? = some (.cells cs t f) from HR2.out.words.imp fun _ e => e.imp fun _ e => e.imp fun _ e => hoh.heap e ha.2.1.2.2.symm)
      have HPC := Lib.hid (show ∃ cs t f, w2.heap[p]? = some (.cells cs t f) from by obtain ⟨A, c, F, fc, hb, _⟩ := HS2.out.box; exact ⟨_, _, _, hb⟩)
      have HGR := Lib.hid hg2
      have HMM := Lib.hid hm2
      have HBW := Lib.hid (hoh.heap HBX.out (by have h1 := HR.out.mem.lt.2; have h2 := HS1.out; omega))
      have t2 := hoh.cell HR2.out.task.cell ha.2.2.1.2.2
      clear hg2 hm2 hoh ha t1
      gi_wp2
      refine ⟨trivial, wide_room, (in_wide _ (Tell_more HS2.out (by rw [List.length_map]; exact hlt) v)).mono ?_⟩
      rintro e w3 ⟨g', rfl, hs3, hg3, ho3⟩
      have hst := HR2.out.step HD.out HGR.out HMM.out (by rw [HV.out]; exact hs3) hg3 ho3
      rw [HV.out] at hst
      obtain ⟨hr3, hoo, hgw⟩ := hst
      have hx3 := HE.out g g' pre _ _ HR2.out HX2.out hoo hgw
      have hg4 := HGG.out _ _ (keeps_only ho3 (fun k e => e.elim (fun e => e ▸ HPC.out) (fun e => e ▸ HGC.out))) HG2'.out
      obtain ⟨fn, tmps, assign, body, hy, hround⟩ := HY.out (m - 1) pre (x, v) w3 ⟨g', hr3, hx3, hlt⟩ hg4
      dsimp only [encs] at hy
      have hq := hr3.scr.apart
      have hbox := ho3.heap HBW.out (by have h1 := HR.out.scr.apart; have h2 := HS1.out; omega)
      have q0 := (cell_heap hbox 0).1
      have q1 := (cell_heap hbox 1).1
      have q2 := (cell_heap hbox 2).1
      have q3 := (cell_heap hbox 3).1
      have q4 := (cell_heap hbox 4).1
      simp at q0 q1 q2 q3 q4
      have HRND := Lib.hid hround
      clear hs3 hg3 ho3 hr3 hoo hgw hx3 hg4 hbox hq t2 hround
      gi_wp2
      refine ⟨wide_room, HRND.out.mono ?_⟩
      rintro e w4 (⟨rfl, ⟨g4, hr4, hx4⟩, hg4⟩ | ⟨rfl, hj⟩)
      · have HR4 := Lib.hid hr4
        have HX4 := Lib.hid hx4
        have HG4 := Lib.hid hg4
        have h4 := hr4.scr.toldN
        have h0 := HR.out.scr.toldN
        rw [List.length_map] at h4 h0
        rw [List.length_append, List.length_singleton] at h4
        have H4 := Lib.hid h4
        have H0 := Lib.hid h0
        clear hr4 hx4 hg4 h4 h0
        gi_wp2
        go_roundw
        case rel => exact ⟨pre ++ [(x, v)], g4, by rw [List.length_append, List.length_singleton]; exact hlt, HR4.out, HX4.out, HG4.out⟩
        case measure => rw [H4.out, H0.out]; omega
      · have HJ := Lib.hid hj
        clear hj
        gi_wp2
        refine bodyPost_ret (results_none rfl _ _ _) rfl ?_
        exact ⟨⟨_, rfl⟩, .inr ⟨pre ++ [(x, v)], by rw [List.length_append, List.length_singleton]; exact hlt, HJ.out⟩⟩
    · have HN := Lib.hid (show (pre.map (·.2)).length = ds.length by rw [List.length_map]; omega)
      gi_wp2
      refine ⟨trivial, wide_room, (in_wide _ (Next_done HR.out.scr HN.out)).mono ?_⟩
      rintro e w1 ⟨rfl, hb1⟩
      have hb2 := hb1.alloc hb1.size (.cells #[.int .i64 0, .int .i64 0, .int .u64 0, .int .u64 0, .int .u64 0] 42)
      have HB2 := Lib.hid hb2
      clear hb1 hb2
      gi_wp2
      refine bodyPost_ret (results_none rfl _ _ _) rfl ?_
      exact ⟨⟨_, rfl⟩, .inl ⟨pre, by omega, ⟨g, HR.out.later HB2.out, HE.out g g pre _ _ HR.out HX.out (only_below _ HB2.out) (.inl rfl)⟩, HGG.out _ _ (keeps_below HB2.out) HG.out⟩⟩
end Go.Proofs.YthlamnghbdaaiaaDoor.Task
