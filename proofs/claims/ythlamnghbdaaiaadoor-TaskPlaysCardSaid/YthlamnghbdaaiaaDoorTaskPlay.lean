/- Package task's Play (layer 11): the deeds of a script, at most so many, done to a memory. -/
import Derived.Test.YthlamnghbdaaiaaDoorTaskIter
import Derived.Maps.AppendAt
namespace Go.Proofs.YthlamnghbdaaiaaDoor.Task
open Go.ChangeShapes Go.WideShapes Go.RowKit Go.Shelf CM DM TR Lay Ints Cells Push Drives
set_option linter.unusedVariables false
attribute [local go_sem] Oper.semAt_some

/-- 'x = append(x, ..)' on a row of the call's own, within a fence. -/
theorem wpListIn_append_only {F : Fence} {m' : Nat} {P : Program} (w : World) {ops : Array Oper} {rest : List Oper} {o : Oper} {a : Act} {Q : Exit → Act → World → Prop} (hgd : o.guard = none) (s x : Operand) (t : TypeId)
    (hop : o.op = Op.call { callee := Callee.builtin Builtin.append, args := #[s, x], argTypes := #[t, t] })
    (base : Nat) (e : TypeId) (i : TypeInfo) (z : Value) (size bytes : Nat) (ht : P.underlying t = some (.slice e)) (hi : P.info? e = some i) (hz : i.zero = some z)
    (hsize : i.size = size) (hby : i.bytes = bytes) (hzs : z.cells.size = size) (hsz : 0 < size)
    (v : Value) (n : Nat) (xs : List Value) (hs : a.eval s = v) (hown : w.ownsRow base e size v n xs)
    (ad : Addr) (m c : Nat) (news : List Value) (hx : a.eval x = .slice (some ad) m c) (hm : 0 < m) (hl : news.length = m * size) (hnews : ∀ j u, news[j]? = some u → w.cell? (ad.add j) = some u) (h1 : ∀ u ∈ news, u.oneCell' = true)
    (h63 : n + m ≤ maxLen) (hbytes : (n + m) * bytes ≤ 140737488355328) (hbase : base ≤ w.heap.size)
    (h : ∀ (g cap : Nat) (w' : World), w'.ownsRow base e size (.slice (some ⟨g, 0, none⟩) (n + m) cap) (n + m) (xs ++ news) → base ≤ g → g < w'.heap.size → (v.ownBlock = some g ∨ g = w.heap.size) → Only (fun k => v.ownBlock = some k) w w' → wpListIn F m' P ops Q rest (a.put o.dst (.slice (some ⟨g, 0, none⟩) (n + m) cap)) w') :
    wpListIn F m' P ops Q (o :: rest) a w := by
  refine wpListIn_plain hgd fun K hK' => ?_
  obtain ⟨g, cap, w', hrun, h2, hg, hlt, hor, hgr⟩ := run_append_only (P := P) w base t o.type e i z size bytes ht hi hz hsize hby hzs hsz v n xs hown ad m c news hm hl hnews h1 h63 hbytes hbase
  unfold Oper.wpIn
  refine ⟨?_, ?_⟩
  · simp [Oper.about, hop, resolve, Target.leads, Sem.run_pure]
  · rw [Oper.semAt_plain F _ _ (by rw [hop]; intro c hc'; cases hc')]
    simp [execOp, hop, resolve, invoke, builtin, hs, hx, hrun, Result.andThen]
    exact hK' _ _ (h g cap w' h2 hg hlt hor (only_grown hgr fun k e => e))
/-- What Play holds between two rounds: its list in block bl, how many in block bm. -/
structure Ext (w : World) (p q pc h bt bc bl bm : Nat) (most : Int) (g : Nat) (pre : List Pr) (W : World) : Prop where
  list : ∃ F fc, Boxed W bl 22 (.slice F pre.length fc) ∧ W.ownsRow w.heap.size 40 1 (.slice F pre.length fc) pre.length (flat (encZ .u64) (pre.map (·.2))) ∧
    (∀ x, F = some x → (x.block ≠ p ∧ x.block ≠ q ∧ x.block ≠ g ∧ x.block ≠ pc ∧ x.block ≠ h) ∧ (x.block ≠ bt ∧ x.block ≠ bc ∧ x.block ≠ bl ∧ x.block ≠ bm))
  most : Boxed W bm 3 (.int .i64 most)
  only : Only (fun k => k = p ∨ k = h) w W
  words : (g = p ∨ w.heap.size ≤ g) ∧ g ≠ bl ∧ g ≠ bm
theorem list_block {F : Option Addr} {a fc k : Nat} (h : (Value.slice F a fc).ownBlock = some k) : ∃ x, F = some x ∧ x.block = k := by
  cases F with
  | none => cases h
  | some x => exact ⟨x, rfl, by simpa [Value.ownBlock] using h⟩
/-- It abides what the iterator does. -/
theorem Ext.step {w : World} {p q pc h bt bc bl bm g g' : Nat} {most : Int} {pre : List Pr} {W W' : World} (he : Ext w p q pc h bt bc bl bm most g pre W) (ho : Only (fun k => k = p ∨ k = g ∨ k = h) W W') (hg : g' = g ∨ W.heap.size ≤ g')
    (hl : bl ≠ p ∧ bl ≠ h) (hm : bm ≠ p ∧ bm ≠ h) : Ext w p q pc h bt bc bl bm most g' pre W' := by
  obtain ⟨⟨F, fc, hb, hw, hf⟩, hmo, hon, ⟨hg1, hg2, hg3⟩⟩ := he
  have hs := hon.size
  refine ⟨⟨F, fc, ho.heap hb (fun e => e.elim hl.1 fun e => e.elim hg2.symm hl.2), ho.own hw (fun k e => ?_), fun x hx => ?_⟩, ho.heap hmo (fun e => e.elim hm.1 fun e => e.elim hg3.symm hm.2), hon.more ho (fun k e => e.elim (fun e => .inl (.inl e)) fun e => e.elim (fun e => hg1.elim (fun e2 => .inl (.inl (e.trans e2))) (fun e2 => .inr (e ▸ e2))) (fun e => .inl (.inr e))), ⟨?_, ?_, ?_⟩⟩
  · obtain ⟨x, hx, rfl⟩ := list_block e
    obtain ⟨⟨f1, f2, f3, f4, f5⟩, _⟩ := hf x hx
    exact fun e => e.elim f1 fun e => e.elim f3 f5
  · obtain ⟨⟨f1, f2, f3, f4, f5⟩, f6⟩ := hf x hx
    exact ⟨⟨f1, f2, ne_word hg f3 (hw.lt x.block (by subst hx; rfl)).2, f4, f5⟩, f6⟩
  · exact hg.elim (fun e => e ▸ hg1) (fun e => .inr (Nat.le_trans hs e))
  · exact (ne_word hg hg2.symm hb.lt).symm
  · exact (ne_word hg hg3.symm hmo.lt).symm
/-- .. and what turns no cells of old. -/
theorem Ext.own_from {w : World} {p q pc h n bt bc bl bm g B : Nat} {ds : List D} {l : List Int} {most : Int} {pre pre' : List Pr} {W W' : World} {row : Option Nat} (hr : Rig p q pc h n bt bc ds l g pre' W) (he : Ext w p q pc h bt bc bl bm most g pre W) (hg : W.grownBy W' row)
    (hB : ∀ r, row = some r → B ≤ r ∧ ∃ o : Obj, W.heap[r]? = some o ∧ o.isCells = false) (hlo : p < B ∧ q < B ∧ pc < B ∧ h < B ∧ bt < B ∧ bc < B ∧ bl < B ∧ bm < B) (hw : w.heap.size ≤ B) : Rig p q pc h n bt bc ds l g pre' W' ∧ Ext w p q pc h bt bc bl bm most g pre W' := by
  have ho : Only (fun k => some k = row) W W' := ⟨hg.os, hg.tape, hg.output, hg.size, fun k hk hn => hg.block k hk hn⟩
  have hlow : ∀ k, k < B → ¬ some k = row := fun k hk e => by have := (hB k e.symm).1; omega
  have hcell : ∀ k, (∃ cs t f, W.heap[k]? = some (.cells cs t f)) → ¬ some k = row := fun k ⟨cs, t, f, hk⟩ e => by
    obtain ⟨_, o, ho, hc⟩ := hB k e.symm
    rw [hk] at ho
    cases ho
    cases hc
  have hgr := hcell g hr.words
  obtain ⟨b1, b2, b3, b4, b5, b6, b7, b8⟩ := hlo
  refine ⟨hr.only ho (hlow _ b1) (hlow _ b2) hgr (hlow _ b3) (hlow _ b4) (hlow _ b5) (hlow _ b6), ?_⟩
  obtain ⟨⟨F, fc, hb, hw2, hf⟩, hmo, hon, hwd⟩ := he
  refine ⟨⟨F, fc, ho.heap hb (hlow _ b7), ho.own hw2 (fun k e => ?_), hf⟩, ho.heap hmo (hlow _ b8), hon.more ho (fun k e => .inr (Nat.le_trans hw (hB k e.symm).1)), hwd⟩
  obtain ⟨x, hx, rfl⟩ := list_block e
  subst hx
  rcases hw2.2 with ⟨e2, _⟩ | ⟨g2, cap, cur, e2, _, hg2, _⟩
  · cases e2
  · injection e2 with e3
    injection e3 with e4
    subst e4
    exact hcell _ ⟨_, _, _, hg2⟩

/-- One finding more in the list. -/
theorem Ext.append {w : World} {p q pc h n bt bc bl bm g g2 cap k fc : Nat} {ds : List D} {l : List Int} {most : Int} {pre pre' : List Pr} {x : Pr} {W w1 : World} {F : Option Addr} {o : Obj} (hr : Rig p q pc h n bt bc ds l g pre' W) (he : Ext w p q pc h bt bc bl bm most g pre W) (hk : k = pre.length)
    (hb : Boxed W bl 22 (.slice F k fc)) (hw : W.ownsRow w.heap.size 40 1 (.slice F k fc) k (flat (encZ .u64) (pre.map (·.2))))
    (hf : ∀ y, F = some y → (y.block ≠ p ∧ y.block ≠ q ∧ y.block ≠ g ∧ y.block ≠ pc ∧ y.block ≠ h) ∧ (y.block ≠ bt ∧ y.block ≠ bc ∧ y.block ≠ bl ∧ y.block ≠ bm))
    (ho : w1.ownsRow w.heap.size 40 1 (.slice (some ⟨g2, 0, none⟩) (k + 1) cap) (k + 1) (flat (encZ .u64) (pre.map (·.2)) ++ encZ .u64 x.2)) (hor : (Value.slice F k fc).ownBlock = some g2 ∨ g2 = (W.alloc o).heap.size) (hon : Only (fun i => (Value.slice F k fc).ownBlock = some i) (W.alloc o) w1)
    (hbl : (bl ≠ p ∧ bl ≠ q ∧ bl ≠ pc ∧ bl ≠ h) ∧ bl ≠ bt ∧ bl ≠ bc ∧ bl ≠ bm) (hlw : w.heap.size ≤ bl) :
    Boxed w1 bl 22 (.slice F k fc) ∧ Boxed w1 bm 3 (.int .i64 most) ∧ Rig p q pc h n bt bc ds l g pre' (w1.setCell ⟨bl, 0, none⟩ (.slice (some ⟨g2, 0, none⟩) (k + 1) cap)) ∧ Ext w p q pc h bt bc bl bm most g (pre ++ [x]) (w1.setCell ⟨bl, 0, none⟩ (.slice (some ⟨g2, 0, none⟩) (k + 1) cap)) ∧
      KeepsOthers W (w1.setCell ⟨bl, 0, none⟩ (.slice (some ⟨g2, 0, none⟩) (k + 1) cap)) := by
  obtain ⟨_, hmo, hon0, ⟨hg1, hg2, hg3⟩⟩ := he
  obtain ⟨⟨l1, l2, l3, l4⟩, l5, l6, l7⟩ := hbl
  have hfar : ∀ i, (Value.slice F k fc).ownBlock = some i → ((i ≠ p ∧ i ≠ q ∧ i ≠ g ∧ i ≠ pc ∧ i ≠ h) ∧ (i ≠ bt ∧ i ≠ bc ∧ i ≠ bl ∧ i ≠ bm)) ∧ w.heap.size ≤ i := fun i hi => by
    refine ⟨?_, (hw.lt i hi).1⟩
    obtain ⟨y, hy, rfl⟩ := list_block hi
    exact hf y hy
  have h1 : Only (fun i => (Value.slice F k fc).ownBlock = some i) W w1 := (only_alloc W _ o).trans hon
  have h2 : Only (fun i => i = bl ∨ (Value.slice F k fc).ownBlock = some i) W (w1.setCell ⟨bl, 0, none⟩ (.slice (some ⟨g2, 0, none⟩) (k + 1) cap)) := (h1.wide fun i e => .inl (.inr e)).setCell (.inl (.inl rfl)) _
  have hn : ∀ {i}, i ≠ bl → ((Value.slice F k fc).ownBlock = some i → False) → ¬ (i = bl ∨ (Value.slice F k fc).ownBlock = some i) := fun a b e => e.elim a b
  have hs := hon0.size
  have hsa := hr.scr.apart
  have hm := hr.mem.lt
  have ht := hr.task.lt
  have hc := hr.cells.lt
  have hbo := h1.heap hb (fun e => (hfar _ e).1.2.2.2.1 rfl)
  have hg2f : ((g2 ≠ p ∧ g2 ≠ q ∧ g2 ≠ g ∧ g2 ≠ pc ∧ g2 ≠ h) ∧ (g2 ≠ bt ∧ g2 ≠ bc ∧ g2 ≠ bl ∧ g2 ≠ bm)) := by
    rcases hor with e | e
    · exact (hfar _ e).1
    · rw [World.size_alloc] at e
      have := hb.lt
      have := hmo.lt
      clear hfar hn hf hg1 hg2 hg3 l1 l2 l3 l4 l5 l6 l7
      exact ⟨⟨by omega, by omega, by omega, by omega, by omega⟩, by omega, by omega, by omega, by omega⟩
  refine ⟨hbo, h1.heap hmo (fun e => (hfar _ e).1.2.2.2.2 rfl), hr.only h2 (hn l1.symm fun e => (hfar _ e).1.1.1 rfl) (hn l2.symm fun e => (hfar _ e).1.1.2.1 rfl) (hn hg2 fun e => (hfar _ e).1.1.2.2.1 rfl) (hn l3.symm fun e => (hfar _ e).1.1.2.2.2.1 rfl) (hn l4.symm fun e => (hfar _ e).1.1.2.2.2.2 rfl) (hn l5.symm fun e => (hfar _ e).1.2.1 rfl) (hn l6.symm fun e => (hfar _ e).1.2.2.1 rfl),
    ⟨⟨some ⟨g2, 0, none⟩, cap, ?_, ?_, fun y hy => by cases hy; exact hg2f⟩, h2.heap hmo (hn l7.symm fun e => (hfar _ e).1.2.2.2.2 rfl), hon0.more h2 (fun i e => .inr (e.elim (fun e => e ▸ hlw) (fun e => (hfar _ e).2))), ⟨hg1, hg2, hg3⟩⟩, ?_⟩
  · rw [List.length_append, List.length_singleton, ← hk]
    exact Boxed.set _ hbo
  · rw [List.length_append, List.length_singleton, ← hk, List.map_append, List.map_singleton, flat_append, flat_one]
    exact (only_setCell (R := fun i => i = bl) w1 (p := ⟨bl, 0, none⟩) rfl _).own ho (fun i e => by have : g2 = i := (by simpa [Value.ownBlock] using e); subst this; exact hg2f.2.2.2.1)
  · refine keeps_only h2 (fun i e => e.elim (fun e => e ▸ ⟨_, _, _, hb⟩) (fun e => ?_))
    obtain ⟨y, hy, rfl⟩ := list_block e
    subst hy
    rcases hw.2 with ⟨e2, _⟩ | ⟨g3, cap3, cur, e2, _, hg4, _⟩
    · cases e2
    · injection e2 with e3
      injection e3 with e4
      subst e4
      exact ⟨_, _, _, hg4⟩
/-- What Play comes to behind k deeds. -/
def Played (w : World) (p pc h n : Nat) (ds : List D) (l : List Int) (k : Nat) (e : Ending) (w' : World) : Prop :=
  ∃ F fc, e = .returned (.slice F k fc) ∧ Row w' w'.heap.size F (flat (encZ .u64) (runF l (ds.take k))) ∧ Mem w' pc h n (runW l (ds.take k)) ∧ Only (fun i => i = p ∨ i = h) w w'

theorem play_end {w W : World} {p q pc h n bt bc bl bm g D : Nat} {ds : List DM.D} {l : List Int} {most : Int} {xs : List Pr} (hr : Rig p q pc h n bt bc ds l g xs W) (he : Ext w p q pc h bt bc bl bm most g xs W) (hK : W.heap[D]? = some (.deferred (some []))) (hD : w.heap.size ≤ D) (F : Option Addr) (fc : Nat) (hb : Boxed W bl 22 (.slice F xs.length fc)) :
    Played w p pc h n ds l xs.length (.returned (.slice F xs.length fc)) (W.putObj D (.deferred none)) := by
  have ho : Only (fun k => k = D) W (W.putObj D (.deferred none)) := only_grown (grownBy_putObj' W D (.deferred none)) (fun k e => by cases e; rfl)
  have hne : ∀ k, (∃ cs t f, W.heap[k]? = some (.cells cs t f)) → ¬ k = D := fun k ⟨cs, t, f, hk⟩ e => by
    subst e
    rw [hk] at hK
    cases hK
  obtain ⟨F2, fc2, hb2, hw, _⟩ := he.list
  have hb' : W.heap[bl]? = _ := hb
  have hb2' : W.heap[bl]? = _ := hb2
  rw [hb'] at hb2'
  simp at hb2'
  obtain ⟨rfl, rfl⟩ := hb2'
  have hw' := ho.own hw (fun k e => hne k (by
    obtain ⟨y, hy, rfl⟩ := list_block e
    subst hy
    rcases hw.2 with ⟨e2, _⟩ | ⟨g3, cap3, cur, e2, _, hg4, _⟩
    · cases e2
    · injection e2 with e3
      injection e3 with e4
      subst e4
      exact ⟨_, _, _, hg4⟩))
  have hm := hr.mem
  obtain ⟨cs, hcs, hb0⟩ := cells_of_cell hm.box
  refine ⟨F, fc, rfl, ?_, ⟨hm.1, hm.len, hm.most, ho.cell hm.box (hne pc (by cases cs <;> first | exact ⟨_, _, _, hcs⟩ | cases hb0)), ho.own hm.own (fun k e => hne k (by obtain rfl : h = k := (by simpa [Value.ownBlock] using e); exact mem_cells hm))⟩, he.only.more ho (fun k e => .inr (e ▸ hD))⟩
  rw [← hr.found]
  exact Row.of_own hw'
theorem play_start {w W0 : World} {p q pc h n : Nat} {ds : List D} {l : List Int} (hS : Scr w p q p ds []) (hM : Mem w pc h n l) (ha : (pc ≠ p ∧ pc ≠ q) ∧ h ≠ p ∧ h ≠ q) (most : Int) (hW : (((w.alloc (.cells #[.int .i64 most] 3)).alloc (.cells #[.slice none 0 0] 22)).alloc (.cells #[.pointer (some ⟨pc, 0, none⟩)] 25)).alloc (.cells #[taskV p] 51) = W0) :
    Rig p q pc h n (w.heap.size + 1 + 1 + 1) (w.heap.size + 1 + 1) ds l p [] W0 ∧ Ext w p q pc h (w.heap.size + 1 + 1 + 1) (w.heap.size + 1 + 1) (w.heap.size + 1) w.heap.size most p [] W0 := by
  have hb : Below w.heap.size w W0 := by
    rw [← hW]
    exact ((((Below.refl _ _).alloc (Nat.le_refl _) _).alloc (by simp) _).alloc (by simp; omega) _).alloc (by simp; omega) _
  have bM := (((Boxed.new w 3 (.int .i64 most)).alloc (.cells #[.slice none 0 0] 22)).alloc (.cells #[.pointer (some ⟨pc, 0, none⟩)] 25)).alloc (.cells #[taskV p] 51)
  have bL := ((Boxed.new (w.alloc (.cells #[.int .i64 most] 3)) 22 (.slice none 0 0)).alloc (.cells #[.pointer (some ⟨pc, 0, none⟩)] 25)).alloc (.cells #[taskV p] 51)
  have bC := (Boxed.new ((w.alloc (.cells #[.int .i64 most] 3)).alloc (.cells #[.slice none 0 0] 22)) 25 (.pointer (some ⟨pc, 0, none⟩))).alloc (.cells #[taskV p] 51)
  have bT := Boxed.new (((w.alloc (.cells #[.int .i64 most] 3)).alloc (.cells #[.slice none 0 0] 22)).alloc (.cells #[.pointer (some ⟨pc, 0, none⟩)] 25)) 51 (taskV p)
  simp only [World.size_alloc] at bL bC bT
  rw [hW] at bM bL bC bT
  have hp := hS.apart
  have hm := hM.lt
  obtain ⟨A, c, F, fc, hbx, _⟩ := (hS.later hb).box
  have hM0 := hM.later hb
  refine ⟨⟨hS.later hb, ⟨_, _, _, hbx⟩, hM0, bT, bC, rfl, rfl, ?_⟩, ⟨⟨none, 0, bL, World.ownsRow_nil _ _ _ _, fun x e => (by cases e)⟩, bM, only_below _ hb, ?_⟩⟩
  · exact ⟨⟨ha.1.1, ha.1.2, ha.1.1⟩, ⟨ha.2.1, ha.2.2, ha.2.1⟩, ⟨by omega, by omega, by omega⟩, by omega, by omega, by omega⟩
  · exact ⟨.inl rfl, by omega, by omega⟩
set_option maxRecDepth 100000 in
set_option maxHeartbeats 2000000 in
theorem Play_in (m : Nat) (hm : 3 ≤ m) {p q pc h n : Nat} {ds : List D} {l : List Int} {most : Int} {w : World} (hS : Scr w p q p ds []) (hM : Mem w pc h n l) (ha : (pc ≠ p ∧ pc ≠ q) ∧ h ≠ p ∧ h ≠ q) (h0 : 0 < most) (hds : ds.length ≤ 1000) :
    CallsIn Fence.wide m Tryd.prog 7 #[.pointer (some ⟨pc, 0, none⟩), taskV p, .int .i64 most] w fun e w' => ∃ k : Nat, k = min most.toNat ds.length ∧ Played w p pc h n ds l k e w' := by
  have h1 : 1 ≤ m := by omega
  have HS := Lib.hid hS
  have HM := Lib.hid hM
  have HA := Lib.hid ha
  clear hS hM ha
  refine callsIn_of_wp_marks Tryd.func7 rfl trivial ?_ rfl
  simp only [Tryd.ntmps7, List.size_toArray, List.length_cons, List.length_nil, Nat.reduceAdd, Nat.reduceSub, Array.replicate_succ, Array.replicate_zero, List.push_toArray, List.append_toArray, List.nil_append, List.cons_append]
  gi_wp2
  refine ⟨trivial, (Steps_in (m - 1) pc p _).mono ?_⟩
  rintro e w' ⟨rfl, rfl⟩
  gi_wp2
  obtain ⟨W0, hW0⟩ : ∃ W0, (((w.alloc (.cells #[.int .i64 most] 3)).alloc (.cells #[.slice none 0 0] 22)).alloc (.cells #[.pointer (some ⟨pc, 0, none⟩)] 25)).alloc (.cells #[taskV p] 51) = W0 := ⟨_, rfl⟩
  have hsz : W0.heap.size = w.heap.size + 4 := by rw [← hW0]; simp
  have hst := play_start HS.out HM.out HA.out most hW0
  rw [hW0]
  have HST := Lib.hid hst
  have HSZ := Lib.hid hsz
  have hlp := HS.out.apart
  have hlm := HM.out.lt
  have HLO := Lib.hid (show (p < W0.heap.size ∧ q < W0.heap.size ∧ pc < W0.heap.size ∧ h < W0.heap.size ∧ w.heap.size + 1 + 1 + 1 < W0.heap.size ∧ w.heap.size + 1 + 1 < W0.heap.size ∧ w.heap.size + 1 < W0.heap.size ∧ w.heap.size < W0.heap.size) by omega)
  have HBL := Lib.hid (show (w.heap.size + 1 ≠ p ∧ w.heap.size + 1 ≠ h) ∧ (w.heap.size ≠ p ∧ w.heap.size ≠ h) by omega)
  have HWB := Lib.hid (show w.heap.size ≤ W0.heap.size by omega)
  clear hst hW0 hsz hlp hlm
  refine wpIn_rangeFunc_drives h1 (gf := 20) (lb := #[.pointer (some ⟨w.heap.size + 1 + 1 + 1, 0, none⟩), .pointer (some ⟨w.heap.size + 1 + 1, 0, none⟩)]) rfl (enters_of Tryd.func20 (by kernel_rfl) rfl)
    (fun pre W => ∃ g, Rig p q pc h n (w.heap.size + 1 + 1 + 1) (w.heap.size + 1 + 1) ds l g pre W ∧ (Ext w p q pc h (w.heap.size + 1 + 1 + 1) (w.heap.size + 1 + 1) (w.heap.size + 1) w.heap.size most g pre W ∧ (pre.length : Int) < most))
    (fun pre x W => ∃ g, Rig p q pc h n (w.heap.size + 1 + 1 + 1) (w.heap.size + 1 + 1) ds l g (pre ++ [x]) W ∧ (Ext w p q pc h (w.heap.size + 1 + 1 + 1) (w.heap.size + 1 + 1) (w.heap.size + 1) w.heap.size most g pre W ∧ (pre.length : Int) < most) ∧ pre.length < ds.length)
    (fun c pre W => c = .exit 0 ∧ ∃ g, Rig p q pc h n (w.heap.size + 1 + 1 + 1) (w.heap.size + 1 + 1) ds l g pre W ∧ Ext w p q pc h (w.heap.size + 1 + 1 + 1) (w.heap.size + 1 + 1) (w.heap.size + 1) w.heap.size most g pre W ∧ (pre.length : Int) = most)
    (Steps1_drives (m - 1) p q pc h n _ _ ds l (fun g pre W => Ext w p q pc h (w.heap.size + 1 + 1 + 1) (w.heap.size + 1 + 1) (w.heap.size + 1) w.heap.size most g pre W ∧ (pre.length : Int) < most) W0
      (fun g g' pre W W' hr he ho hg => ⟨he.1.step ho hg HBL.out.1 HBL.out.2, he.2⟩))
    (fun _ => rfl)
    (fun pre W W' row hi hg hrow => by obtain ⟨g, hr, he, hlt⟩ := hi; obtain ⟨hr', he'⟩ := he.own_from hr hg hrow HLO.out HWB.out; exact ⟨g, hr', he', hlt⟩)
    (fun s W W' row hi hg hrow => by obtain ⟨g, hr, ⟨he, hlt⟩, hl⟩ := hi; obtain ⟨hr', he'⟩ := he.own_from hr hg hrow HLO.out HWB.out; exact ⟨g, hr', ⟨he', hlt⟩, hl⟩)
    (fun c pre W W' row hi hg hrow => by obtain ⟨hc, g, hr, he, hlt⟩ := hi; obtain ⟨hr', he'⟩ := he.own_from hr hg hrow HLO.out HWB.out; exact ⟨hc, g, hr', he', hlt⟩)
    ⟨p, HST.out.1, HST.out.2, h0⟩
    (fun x a' _ => a' = { tmps := #[.pointer (some ⟨pc, 0, none⟩), taskV p, .int .i64 most, undef, undef, .pointer (some ⟨w.heap.size, 0, none⟩), .slice none 0 0, .pointer (some ⟨w.heap.size + 1, 0, none⟩), undef, .int .u64 x.2, .int .i64 most, .bool (decide (most ≤ 0)), .pointer (some ⟨pc, 0, none⟩), taskV p,
      .func (.func 20) #[] #[.pointer (some ⟨w.heap.size + 1 + 1 + 1, 0, none⟩), .pointer (some ⟨w.heap.size + 1 + 1, 0, none⟩)], .agg #[.int .i64 x.1.1, .int .i64 x.1.2.1, .int .u64 x.1.2.2.1, .int .u64 x.1.2.2.2.1, .int .u64 x.1.2.2.2.2], .int .u64 x.2, undef, undef, undef, undef, undef, undef, undef, undef, undef], defers := [] })
    (fun _ _ _ _ _ _ hs _ _ => hs) ?assign ?body ?done ?stop
  case assign =>
    rintro lo pre x W K hi hK
    dsimp only [encs] at hK ⊢
    gi_wp2
    exact hK _ _ (KeepsFrom.refl _ _) hi rfl
  case body =>
    rintro lo pre x a' W hl ⟨rc, hrc⟩ ⟨g, hr, ⟨he, hlt⟩, hlen⟩ rfl
    obtain ⟨F, fc, hb, hw, hf⟩ := he.list
    have hmo := he.most
    obtain ⟨k, hk⟩ : ∃ k, k = pre.length := ⟨_, rfl⟩
    rw [← hk] at hb hw
    have c0 := hb.cell
    have c1 := hb.frozen
    have hk1000 : k ≤ 1000 := by omega
    have HK := Lib.hid hk
    have HW := Lib.hid hw
    have HAP := Lib.hid fun w1 g2 cap => Ext.append (w1 := w1) (g2 := g2) (cap := cap) (x := x) (o := .cells #[.int .u64 x.2] 40) hr he hk hb hw hf
    have HBB := Lib.hid (show ((w.heap.size + 1 ≠ p ∧ w.heap.size + 1 ≠ q ∧ w.heap.size + 1 ≠ pc ∧ w.heap.size + 1 ≠ h) ∧ w.heap.size + 1 ≠ w.heap.size + 1 + 1 + 1 ∧ w.heap.size + 1 ≠ w.heap.size + 1 + 1 ∧ w.heap.size + 1 ≠ w.heap.size) by have h1 := HS.out.apart; have h2 := HM.out.lt; exact ⟨⟨by omega, by omega, by omega, by omega⟩, by omega, by omega, by omega⟩)
    have hws := Nat.le_trans HWB.out (show W0.heap.size ≤ W.heap.size from Nat.le_of_lt (Nat.lt_of_le_of_lt hl (Array.getElem?_eq_some_iff.1 hrc).1))
    have HWS := Lib.hid hws
    have hlk : (k : Int) < most := by rw [hk]; exact hlt
    obtain ⟨i0, hi, hz0, hz1, hz2⟩ := info_parts info_words
    clear hr he hb hw hf hmo hrc hlen hk hlt hws
    by_cases hlast : (k : Int) + 1 = most
    · have hlb : ((k : Int) + 1 == most) = true := by simpa using hlast
      gi_wp2_with (gi_at_builtin; refine wpListIn_append_only _ rfl (.tmp 17) (.tmp 19) 22 rfl w.heap.size 40 i0 _ 1 8 Tryd.underlying22 hi hz0 hz1 hz2 rfl (by decide) _ k _ rfl (HW.out.alloc _) ⟨W.heap.size, 0, none⟩ 1 1 (encZ .u64 x.2) rfl (by decide) rfl (cells_new _ _ _) (encZ_one _ _) (by simp only [maxLen]; omega) (by omega) (by have := HWS.out; simp; omega) ?_; intro g2 cap w1 ho2 hg2 hlt2 hor2 hon2; obtain ⟨hb1, hm1, hr1, he1, hk1⟩ := HAP.out _ _ _ ho2 hor2 hon2 HBB.out (by omega); have d0 := hb1.cell; have d1 := hb1.frozen; have d2 := hm1.cell; have HR1 := Lib.hid hr1; have HE1 := Lib.hid he1; have HK1 := Lib.hid hk1; clear ho2 hg2 hor2 hon2 hb1 hm1 hr1 he1 hk1)
      exact ⟨HK1.out.from _, rfl, g, HR1.out, HE1.out, by rw [List.length_append, List.length_singleton, ← HK.out]; push_cast; exact hlast⟩
    · have hlb : ((k : Int) + 1 == most) = false := by simpa using hlast
      gi_wp2_with (gi_at_builtin; refine wpListIn_append_only _ rfl (.tmp 17) (.tmp 19) 22 rfl w.heap.size 40 i0 _ 1 8 Tryd.underlying22 hi hz0 hz1 hz2 rfl (by decide) _ k _ rfl (HW.out.alloc _) ⟨W.heap.size, 0, none⟩ 1 1 (encZ .u64 x.2) rfl (by decide) rfl (cells_new _ _ _) (encZ_one _ _) (by simp only [maxLen]; omega) (by omega) (by have := HWS.out; simp; omega) ?_; intro g2 cap w1 ho2 hg2 hlt2 hor2 hon2; obtain ⟨hb1, hm1, hr1, he1, hk1⟩ := HAP.out _ _ _ ho2 hor2 hon2 HBB.out (by omega); have d0 := hb1.cell; have d1 := hb1.frozen; have d2 := hm1.cell; have HR1 := Lib.hid hr1; have HE1 := Lib.hid he1; have HK1 := Lib.hid hk1; clear ho2 hg2 hor2 hon2 hb1 hm1 hr1 he1 hk1)
      exact ⟨HK1.out.from _, trivial, g, HR1.out, HE1.out, by rw [List.length_append, List.length_singleton, ← HK.out]; push_cast; omega⟩
  case done =>
    rintro D xs W hD hlen ⟨g, hr, he, hlt⟩ hK
    have HE := Lib.hid (play_end hr he hK (Nat.le_trans HWB.out hD))
    have HKD := Lib.hid hK
    have hlen2 := hlen
    obtain ⟨F, fc, hb, _⟩ := he.list
    have c0 := hb.cell
    obtain ⟨k, hk⟩ : ∃ k, k = xs.length := ⟨_, rfl⟩
    rw [← hk] at c0
    have HEE := Lib.hid (HE.out F fc hb)
    have HKK := Lib.hid (show k = min most.toNat ds.length by omega)
    have HKE := Lib.hid hk
    clear HE hlen hlen2 hr he hb hK hk hlt
    gi_wp2
    refine ⟨by simp, .inl ⟨_, _, rfl, run_takeDeferred HKD.out, ?_⟩⟩
    refine ⟨_, results_tmp rfl _ _ _, k, HKK.out, ?_⟩
    rw [HKE.out]
    exact HEE.out
  case stop =>
    rintro D c xs W hD hlen ⟨rfl, g, hr, he, hlt⟩ hK
    have HE := Lib.hid (play_end hr he hK (Nat.le_trans HWB.out hD))
    have HKD := Lib.hid hK
    obtain ⟨F, fc, hb, _⟩ := he.list
    have c0 := hb.cell
    obtain ⟨k, hk⟩ : ∃ k, k = xs.length := ⟨_, rfl⟩
    rw [← hk] at c0
    have HEE := Lib.hid (HE.out F fc hb)
    have HKK := Lib.hid (show k = min most.toNat ds.length by omega)
    have HKE := Lib.hid hk
    clear HE hlen hr he hb hK hk hlt
    gi_wp2
    refine ⟨by simp, .inl ⟨_, _, rfl, run_takeDeferred HKD.out, ?_⟩⟩
    refine ⟨_, results_tmp rfl _ _ _, k, HKK.out, ?_⟩
    rw [HKE.out]
    exact HEE.out
theorem Play_none {p pc : Nat} {most : Int} {w : World} (h0 : most ≤ 0) : CallsIn Fence.wide 3 Tryd.prog 7 #[.pointer (some ⟨pc, 0, none⟩), taskV p, .int .i64 most] w fun e w' => e = .returned (.slice none 0 0) ∧ Below w.heap.size w w' := by
  refine callsIn_of_wp_marks Tryd.func7 rfl trivial ?_ rfl
  simp only [Tryd.ntmps7, List.size_toArray, List.length_cons, List.length_nil, Nat.reduceAdd, Nat.reduceSub, Array.replicate_succ, Array.replicate_zero, List.push_toArray, List.append_toArray, List.nil_append, List.cons_append]
  gi_wp2
  refine ⟨_, results_tmp rfl _ _ _, rfl, (Below.refl _ _).alloc (Nat.le_refl _) _⟩
theorem Play_any {p q pc h n : Nat} {ds : List D} {l : List Int} {w : World} (most : Int) (hS : Scr w p q p ds []) (hM : Mem w pc h n l) (ha : (pc ≠ p ∧ pc ≠ q) ∧ h ≠ p ∧ h ≠ q) (hds : ds.length ≤ 1000) :
    Calls Tryd.prog 7 #[.pointer (some ⟨pc, 0, none⟩), taskV p, .int .i64 most] w (Played w p pc h n ds l (kOf most ds.length)) := by
  by_cases h0 : 0 < most
  · refine (callsIn_wide.1 (Play_in 3 (Nat.le_refl _) hS hM ha h0 hds)).mono ?_
    rintro e w' ⟨k, rfl, hp⟩
    exact hp
  · refine (callsIn_wide.1 (Play_none (by omega))).mono ?_
    rintro e w' ⟨rfl, hb⟩
    have hk : kOf most ds.length = 0 := by unfold kOf; omega
    rw [hk]
    exact ⟨none, 0, rfl, Row.none_, by simpa [runW] using hM.later hb, only_below _ hb⟩
end Go.Proofs.YthlamnghbdaaiaaDoor.Task
