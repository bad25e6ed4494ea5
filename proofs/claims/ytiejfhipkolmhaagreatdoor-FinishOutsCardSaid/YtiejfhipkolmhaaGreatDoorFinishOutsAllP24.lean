import Derived.Test.YtiejfhipkolmhaaGreatDoorFinishOutsAllP1
import Derived.Test.YtiejfhipkolmhaaGreatDoorFinishOutsAllP12
import Derived.Test.YtiejfhipkolmhaaGreatDoorFinishOutsAllP18
import Derived.Test.YtiejfhipkolmhaaGreatDoorFinishOutsAllP23
import Derived.Deep.RegionWith
import Derived.Test.YtiejfhipkolmhaaGreatDoorFinishOutsAllP5
import Derived.Deep.RegionHeld3
import Derived.Deep.DeepCutAuto
/- Package finish (layer 25): where a finisher stands, what it asks for, what it tells at its end; all else in memory stays as it was. -/
namespace Go.Proofs.YtiejfhipkolmhaaGreatDoor.Fin
set_option maxRecDepth 20000
open Go.ChangeShapes Go.WideShapes Go.RowKit CM DM PM KM FiM Lay Ints Plan Go.Proofs.YtiejfhipkolmhaaGreatDoor.Flows
open Go.Proofs.YtiejfhipkolmhaaGreatDoor.Task (Scr encD res5 set5)
open Go.Proofs.YtiejfhipkolmhaaGreatDoor.Mk (Marks Mark_any Mark_next Mark_tell)
open Go.Proofs.YtiejfhipkolmhaaGreatDoor.Stl (Settles Settle_any Settle_next Settle_tell Retired_any)
open MkM (markA markT leftI)
open StM (settleA settleT)
set_option linter.unusedVariables false
set_option linter.unusedSimpArgs false

/-- A marker, and a settler told k words at most, as tasks. -/
def MarkI (T N L G r : Int) (q : Nat) (w : World) (S : Nat → Prop) (s : MkM.St) : Prop := Marks w q T N L G r s ∧ S q ∧ ∀ j, S j → j < w.heap.size
def SettI (T N L G r dl sq : Int) (k : Nat) (q : Nat) (w : World) (S : Nat → Prop) (s : StM.St) : Prop := Settles w q S T N L G r dl sq k s
theorem mark_next (q n : Nat) (w : World) : (method (n + 1) 84 (.pointer (some ⟨q, 0, none⟩)) "Next").run Tryz.prog w = .ok (145, .pointer (some ⟨q, 0, none⟩)) w := by kernel_rfl
theorem mark_tell (q n : Nat) (w : World) : (method (n + 1) 84 (.pointer (some ⟨q, 0, none⟩)) "Tell").run Tryz.prog w = .ok (146, .pointer (some ⟨q, 0, none⟩)) w := by kernel_rfl
theorem mark_nextE (args : Array Value) (w : World) : (callFunc 145 args).run Tryz.prog w = .ok (.enter 145 args) w := by kernel_rfl
theorem mark_tellE (args : Array Value) (w : World) : (callFunc 146 args).run Tryz.prog w = .ok (.enter 146 args) w := by kernel_rfl
theorem sett_next (q n : Nat) (w : World) : (method (n + 1) 73 (.pointer (some ⟨q, 0, none⟩)) "Next").run Tryz.prog w = .ok (126, .pointer (some ⟨q, 0, none⟩)) w := by kernel_rfl
theorem sett_tell (q n : Nat) (w : World) : (method (n + 1) 73 (.pointer (some ⟨q, 0, none⟩)) "Tell").run Tryz.prog w = .ok (127, .pointer (some ⟨q, 0, none⟩)) w := by kernel_rfl
theorem sett_nextE (args : Array Value) (w : World) : (callFunc 126 args).run Tryz.prog w = .ok (.enter 126 args) w := by kernel_rfl
theorem sett_tellE (args : Array Value) (w : World) : (callFunc 127 args).run Tryz.prog w = .ok (.enter 127 args) w := by kernel_rfl
theorem letGo_enter (args : Array Value) (w : World) : (callFunc 41 args).run Tryz.prog w = .ok (.enter 41 args) w := by kernel_rfl
theorem marks_enter (args : Array Value) (w : World) : (callFunc 43 args).run Tryz.prog w = .ok (.enter 43 args) w := by kernel_rfl
theorem mark_task (T N L G r : Int) : IsTask 84 145 146 (MarkI T N L G r) (markA T L r) markT where
  mnext := mark_next
  mtell := mark_tell
  enext := mark_nextE
  etell := mark_tellE
  only := fun h ho hn => ⟨h.1.only ho (hn _ h.2.1), h.2.1, fun k e => Nat.lt_of_lt_of_le (h.2.2 k e) ho.size⟩
  lt := fun h => h.2.2
  next := fun {q w S s} h => by
    refine (Mark_next h.1).mono ?_
    rintro e w' ⟨rfl, hb⟩
    exact ⟨rfl, ⟨h.1.later hb, h.2.1, fun k e => Nat.lt_of_lt_of_le (h.2.2 k e) hb.size⟩, hb⟩
  tell := fun {q w S s v} h hv => by
    refine (Mark_tell h.1 hv).mono ?_
    rintro e w' ⟨rfl, h1, ho⟩
    exact ⟨rfl, S, ⟨h1, h.2.1, fun k e => Nat.lt_of_lt_of_le (h.2.2 k e) ho.size⟩, ho.wide fun k e => .inl (e ▸ h.2.1), fun k e => .inl e⟩
theorem sett_ask (T N L G r dl sq : Int) (k : Nat) : IsAsk 73 126 127 (SettI T N L G r dl sq k) (settleA T L r) where
  mnext := sett_next
  mtell := sett_tell
  enext := sett_nextE
  etell := sett_tellE
  only := fun h ho hn => h.only ho hn
  lt := fun h => h.2.2.2.1
  next := fun {q w S s} h => by
    refine (Settle_next h).mono ?_
    rintro e w' ⟨rfl, hb⟩
    exact ⟨rfl, h.later hb, hb⟩
theorem sett_none {L : Int} {k : Nat} {T r : Int} {s : StM.St} (h : StM.Ok L k s) : settleA T L r s = none ↔ s.st = 0 := by
  obtain ⟨st, sk, ep, wt⟩ := s
  have h0 := h.st
  have h1 := h.look
  simp only at h0 h1
  rcases h0 with rfl | rfl | rfl | rfl
  · simp [StM.settleA_0]
  · simp [StM.settleA_1]
  · rw [StM.settleA_2, seekA_none (h1 rfl).2]
    exact ⟨fun e => absurd e (h1 rfl).1, fun e => absurd e (show ¬ (2 : Int) = 0 by decide)⟩
  · simp [StM.settleA_3]
/-- What the functions of Finish capture. -/
structure Caps (w : World) (p kk : Nat) (T N L G r : Int) (bl bt bp br bg : Nat) : Prop where
  look : Boxed w bl 80 (.pointer (some ⟨kk, 0, none⟩))
  self : Boxed w bt 38 (.pointer (some ⟨p, 0, none⟩))
  plan : w.heap[bp]? = some (.cells #[.int .i64 T, .int .i64 N, .int .i64 L, .int .u64 G] 24 (0, 0))
  ref : Boxed w br 22 (.int .u64 r)
  letGo : Boxed w bg 1 (.func (.func 41) #[] #[.pointer (some ⟨bt, 0, none⟩)])
abbrev CapB (bl bt bp br bg j : Nat) : Prop := j = bl ∨ j = bt ∨ j = bp ∨ j = br ∨ j = bg
theorem Caps.only {w w' : World} {p kk : Nat} {T N L G r : Int} {bl bt bp br bg : Nat} {R : Nat → Prop} (h : Caps w p kk T N L G r bl bt bp br bg) (ho : Only R w w') (hn : ∀ j, CapB bl bt bp br bg j → ¬ R j) : Caps w' p kk T N L G r bl bt bp br bg :=
  ⟨ho.heap h.look (hn _ (.inl rfl)), ho.heap h.self (hn _ (.inr (.inl rfl))), ho.heap h.plan (hn _ (.inr (.inr (.inl rfl)))), ho.heap h.ref (hn _ (.inr (.inr (.inr (.inl rfl))))), ho.heap h.letGo (hn _ (.inr (.inr (.inr (.inr rfl)))))⟩
/-- Where the flow of the finisher in block p stands; qs is its settler, nv its part. -/
def Place (w : World) (p : Nat) (S : Nat → Prop) (T N L G r dl sq : Int) (k qs : Nat) : FiM.St → Option Nat → Prop
  | .look, nv => ∃ pb kk SS SB bl bt bp br bg, nv = some pb ∧ PartAt w pb (itf 80 kk) (.func (.func 43) #[] #[.pointer (some ⟨bl, 0, none⟩), .pointer (some ⟨bt, 0, none⟩), .pointer (some ⟨bp, 0, none⟩), .pointer (some ⟨br, 0, none⟩), .pointer (some ⟨bg, 0, none⟩)]) false ∧ ScrI [((1 : Int), atI T L (idx r) 3, (0 : Int), (0 : Int), r)] kk w SS [] ∧ Settles w qs SB T N L G r dl sq k StM.new ∧ Caps w p kk T N L G r bl bt bp br bg ∧
      (∀ j, SS j ∨ SB j ∨ j = pb ∨ CapB bl bt bp br bg j → S j ∧ j ≠ p) ∧ ¬ SS pb ∧ ¬ SB pb ∧ (∀ j, SS j → ¬ SB j) ∧ ∀ j, CapB bl bt bp br bg j → ¬ SS j ∧ ¬ SB j ∧ j ≠ pb
  | .mark s, nv => ∃ pb q SM SB bt, nv = some pb ∧ PartAt w pb (itf 84 q) (.func (.func 41) #[] #[.pointer (some ⟨bt, 0, none⟩)]) false ∧ MarkI T N L G r q w SM s ∧ Settles w qs SB T N L G r dl sq k StM.new ∧ Boxed w bt 38 (.pointer (some ⟨p, 0, none⟩)) ∧
      (∀ j, SM j ∨ SB j ∨ j = pb ∨ j = bt → S j ∧ j ≠ p) ∧ ¬ SM pb ∧ ¬ SB pb ∧ (∀ j, SM j → ¬ SB j) ∧ ¬ SM bt ∧ ¬ SB bt ∧ bt ≠ pb
  | .settle s, nv => ∃ SB, Settles w qs SB T N L G r dl sq k s ∧ (∀ j, SB j → S j ∧ j ≠ p) ∧ (s.st = 0 → nv = none) ∧ (¬ s.st = 0 → ∃ pb, nv = some pb ∧ PartAt w pb (itf 73 qs) .nilFunc false ∧ S pb ∧ pb ≠ p ∧ ¬ SB pb)
/-- A finisher in block p, all of whose own blocks are of S, told k words at most. -/
def Fins (w : World) (p : Nat) (S : Nat → Prop) (T N L G r dl sq : Int) (k : Nat) (s : FiM.St) : Prop :=
  FiM.Ok L k s ∧ ((-9223372036854775808 ≤ L ∧ L ≤ 9223372036854775807) ∧ Word r) ∧ S p ∧ (∀ j, S j → j < w.heap.size) ∧ ∃ nv qs, HeadAt w p nv 0 [.pointer (some ⟨qs, 0, none⟩)] 79 ∧ Place w p S T N L G r dl sq k qs s nv
section
variable {w w' : World} {p k : Nat} {S R : Nat → Prop} {T N L G r dl sq : Int} {s : FiM.St}
theorem Place.only {qs : Nat} {nv : Option Nat} (h : Place w p S T N L G r dl sq k qs s nv) (ho : Only R w w') (hR : ∀ j, S j → ¬ R j) : Place w' p S T N L G r dl sq k qs s nv := by
  cases s with
  | look =>
    obtain ⟨pb, kk, SS, SB, bl, bt, bp, br, bg, h1, h2, h3, h4, h5, h6, h7, h8, h9, h10⟩ := h
    have hn := fun j e => hR j (h6 j e).1
    exact ⟨pb, kk, SS, SB, bl, bt, bp, br, bg, h1, h2.only ho (hn _ (.inr (.inr (.inl rfl)))), scr_only h3 ho fun j e => hn j (.inl e), h4.only ho fun j e => hn j (.inr (.inl e)), h5.only ho fun j e => hn j (.inr (.inr (.inr e))), h6, h7, h8, h9, h10⟩
  | mark s =>
    obtain ⟨pb, q, SM, SB, bt, h1, h2, h3, h4, h5, h6, h7⟩ := h
    have hn := fun j e => hR j (h6 j e).1
    exact ⟨pb, q, SM, SB, bt, h1, h2.only ho (hn _ (.inr (.inr (.inl rfl)))), (mark_task T N L G r).only h3 ho fun j e => hn j (.inl e), h4.only ho fun j e => hn j (.inr (.inl e)), ho.heap h5 (hn _ (.inr (.inr (.inr rfl)))), h6, h7⟩
  | settle s =>
    obtain ⟨SB, h1, h2, h3, h4⟩ := h
    exact ⟨SB, h1.only ho fun j e => hR j (h2 j e).1, h2, h3, fun e => by
      obtain ⟨pb, k1, k2, k3, k4⟩ := h4 e
      exact ⟨pb, k1, k2.only ho (hR _ k3), k3, k4⟩⟩
theorem Fins.only (h : Fins w p S T N L G r dl sq k s) (ho : Only R w w') (hR : ∀ j, S j → ¬ R j) : Fins w' p S T N L G r dl sq k s := by
  obtain ⟨h1, h2, h3, h4, nv, qs, h5, h6⟩ := h
  exact ⟨h1, h2, h3, fun j e => Nat.lt_of_lt_of_le (h4 j e) ho.size, nv, qs, h5.only ho (hR p h3), h6.only ho hR⟩
theorem Fins.later (h : Fins w p S T N L G r dl sq k s) (hb : Below w.heap.size w w') : Fins w' p S T N L G r dl sq k s := h.only (only_below (fun _ => False) hb) (fun _ _ => id)
theorem Fins.lt (h : Fins w p S T N L G r dl sq k s) : ∀ j, S j → j < w.heap.size := h.2.2.2.1
theorem Fins.base (h : Fins w p S T N L G r dl sq k s) : S p := h.2.2.1
end
theorem Flow_next {w : World} {p k : Nat} {S : Nat → Prop} {T N L G r dl sq : Int} {s : FiM.St} (h : Fins w p S T N L G r dl sq k s) : Calls Tryz.prog 48 #[.pointer (some ⟨p, 0, none⟩)] w (Mk.Told w (finA T L r s)) := by
  obtain ⟨hok, ⟨hL, hr⟩, hp, hlt, nv, qs, hF, hpl⟩ := h
  cases s with
  | look =>
    obtain ⟨pb, kk, SS, SB, bl, bt, bp, br, bg, rfl, h2, h3, h4, h5, h6, h7, h8, h9, h10⟩ := hpl
    refine (FNext_of (scr_task [((1 : Int), atI T L (idx r) 3, (0 : Int), (0 : Int), r)]).asks hF h2 h3 (x := (1, atI T L (idx r) 3, 0, 0, r)) rfl ⟨fun e => (h6 pb (.inr (.inr (.inl rfl)))).2 e.symm, fun e => (h6 p (.inl e)).2 rfl, h7⟩).mono ?_
    rintro e w' ⟨rfl, -, -, -, hb⟩
    exact ⟨rfl, hb⟩
  | mark s =>
    obtain ⟨pb, q, SM, SB, bt, rfl, h2, h3, h4, h5, h6, h7, -⟩ := hpl
    obtain ⟨x, hx⟩ := Option.isSome_iff_exists.1 (mark_isSome (T := T) (L := L) (r := r).2 hok.2)
    refine (FNext_of (mark_task T N L G r).asks hF h2 h3 hx ⟨fun e => (h6 pb (.inr (.inr (.inl rfl)))).2 e.symm, fun e => (h6 p (.inl e)).2 rfl, h7⟩).mono ?_
    rintro e w' ⟨rfl, -, -, -, hb⟩
    rw [finA_mark, hx]
    exact ⟨rfl, hb⟩
  | settle s =>
    obtain ⟨SB, h1, h2, h3, h4⟩ := hpl
    by_cases h0 : s.st = 0
    · obtain rfl := h3 h0
      rw [finA_settle, (sett_none h1.1).2 h0]
      refine (FNext_none hF).mono ?_
      rintro e w' ⟨rfl, hb⟩
      exact ⟨rfl, hb⟩
    · obtain ⟨pb, rfl, k2, k3, k4, k5⟩ := h4 h0
      obtain ⟨x, hx⟩ := Option.ne_none_iff_exists'.1 (fun e => h0 ((sett_none (T := T) (r := r) h1.1).1 e))
      refine (FNext_of (sett_ask T N L G r dl sq k) hF k2 h1 hx ⟨fun e => k4 e.symm, fun e => (h2 p e).2 rfl, k5⟩).mono ?_
      rintro e w' ⟨rfl, -, -, -, hb⟩
      rw [finA_settle, hx]
      exact ⟨rfl, hb⟩
theorem Fin_next {w : World} {p k : Nat} {S : Nat → Prop} {T N L G r dl sq : Int} {s : FiM.St} (h : Fins w p S T N L G r dl sq k s) : Calls Tryz.prog 15 #[.pointer (some ⟨p, 0, none⟩)] w (Mk.Told w (finA T L r s)) := by
  have HN := Lib.hid (Flow_next (h.later (box_below w (.cells #[.int .i64 0, .int .i64 0, .int .u64 0, .int .u64 0, .int .u64 0] 44))))
  unfold Mk.Told Mk.ToldD at HN ⊢
  generalize (finA T L r s).isSome = bo at HN ⊢
  generalize (finA T L r s).getD (0, 0, 0, 0, 0) = d at HN ⊢
  clear h
  go_enter Tryz.func15, Tryz.ntmps15
  go_wp2_with fail
  refine HN.out.mono ?_
  rintro e w1 ⟨rfl, hb⟩
  obtain ⟨⟨r0, r1, r2, r3, r4⟩, g0, g1, g2, g3, g4⟩ := res5 hb
  obtain ⟨⟨s0, s1, s2, s3, s4⟩, hB⟩ := set5 hb (.int .i64 d.1) (.int .i64 d.2.1) (.int .u64 d.2.2.1) (.int .u64 d.2.2.2.1) (.int .u64 d.2.2.2.2)
  have HB := Lib.hid hB
  clear hB hb
  go_wp2
  exact bodyPost_ret (v := .tuple #[.agg #[.int .i64 d.1, .int .i64 d.2.1, .int .u64 d.2.2.1, .int .u64 d.2.2.2.1, .int .u64 d.2.2.2.2], .bool bo]) (by simp [results, Tryz.results15, go_sem, s0, s1, s2, s3, s4]) rfl ⟨rfl, HB.out⟩
theorem res2 {w w' : World} {t : TypeId} (hb : Below (w.alloc (.cells #[.int .u64 0, .int .u64 0] t)).heap.size (w.alloc (.cells #[.int .u64 0, .int .u64 0] t)) w') (u0 u1 : Value) :
    (w'.cell? ⟨w.heap.size, 0, none⟩ = some (.int .u64 0) ∧ w'.cell? ⟨w.heap.size, 1, none⟩ = some (.int .u64 0)) ∧ (w'.frozen? ⟨w.heap.size, 0, none⟩ = false ∧ (w'.setCell ⟨w.heap.size, 0, none⟩ u0).frozen? ⟨w.heap.size, 1, none⟩ = false ∧ w'.frozen? ⟨w.heap.size, 1, none⟩ = false) ∧
    (((w'.setCell ⟨w.heap.size, 0, none⟩ u0).setCell ⟨w.heap.size, 1, none⟩ u1).cell? ⟨w.heap.size, 0, none⟩ = some u0 ∧ ((w'.setCell ⟨w.heap.size, 0, none⟩ u0).setCell ⟨w.heap.size, 1, none⟩ u1).cell? ⟨w.heap.size, 1, none⟩ = some u1) ∧
    Below w.heap.size w ((w'.setCell ⟨w.heap.size, 0, none⟩ u0).setCell ⟨w.heap.size, 1, none⟩ u1) := by
  have h0 := (hb.block _ (by simp)).trans (new_heap w (.cells #[.int .u64 0, .int .u64 0] t))
  have h1 := set_heap (j := 0) h0 u0
  have h2 := set_heap (j := 1) h1 u1
  refine ⟨⟨(cell_heap h0 0).1, (cell_heap h0 1).1⟩, ⟨(cell_heap h0 0).2, (cell_heap h1 1).2, (cell_heap h0 1).2⟩, ⟨(cell_heap h2 0).1, (cell_heap h2 1).1⟩, ?_⟩
  exact (((box_below w _).trans (hb.mono (by simp))).setCell (p := ⟨w.heap.size, 0, none⟩) (Nat.le_refl _) _).setCell (p := ⟨w.heap.size, 1, none⟩) (Nat.le_refl _) _
/-- What waits, and since when. -/
theorem Fin_retired {w : World} {p k : Nat} {S : Nat → Prop} {T N L G r dl sq : Int} {s : FiM.St} (h : Fins w p S T N L G r dl sq k s) : Calls Tryz.prog 18 #[.pointer (some ⟨p, 0, none⟩)] w fun e w' => e = .returned (.tuple #[.agg #[.int .u64 (if wtB s = true then r else 0), .int .u64 (if wtB s = true then epI s else 0)], .bool (wtB s)]) ∧ Below w.heap.size w w' := by
  have h' := h.later (box_below w (.cells #[.int .u64 0, .int .u64 0] 50))
  obtain ⟨-, -, -, -, nv, qs, hF, hpl⟩ := h'
  have HS : ∃ SB s', Settles (w.alloc (.cells #[.int .u64 0, .int .u64 0] 50)) qs SB T N L G r dl sq k s' ∧ s'.wt = wtB s ∧ (wtB s = true → s'.ep = epI s) := by
    cases s with
    | look =>
      obtain ⟨pb, kk, SS, SB, bl, bt, bp, br, bg, h1, h2, h3, h4, -⟩ := hpl
      exact ⟨SB, _, h4, rfl, fun e => by cases e⟩
    | mark s =>
      obtain ⟨pb, q, SM, SB, bt, h1, h2, h3, h4, -⟩ := hpl
      exact ⟨SB, _, h4, rfl, fun e => by cases e⟩
    | settle s =>
      obtain ⟨SB, h1, -⟩ := hpl
      exact ⟨SB, s, h1, rfl, fun _ => rfl⟩
  obtain ⟨SB, s', h1, h2, h3⟩ := HS
  have HR := Lib.hid (Retired_any h1)
  rw [h2, show (if wtB s = true then s'.ep else 0) = if wtB s = true then epI s else 0 from by split <;> simp_all] at HR
  have c2 := (cell_heap hF 2).1
  replace c2 : _ = some (Value.pointer (some ⟨qs, 0, none⟩)) := c2
  generalize wtB s = wt at HR ⊢
  generalize (if wt = true then r else 0) = r1 at HR ⊢
  generalize (if wt = true then epI s else 0) = e1 at HR ⊢
  clear h h1 h2 h3 hF hpl
  go_enter Tryz.func18, Tryz.ntmps18
  go_wp2_with fail
  refine HR.out.mono ?_
  rintro e w1 ⟨rfl, hb⟩
  obtain ⟨⟨r0, r1'⟩, ⟨g0, g01, g1⟩, ⟨s0, s1⟩, hB⟩ := res2 hb (.int .u64 r1) (.int .u64 e1)
  have HB := Lib.hid hB
  clear hB hb
  go_wp2
  exact bodyPost_ret (v := .tuple #[.agg #[.int .u64 r1, .int .u64 e1], .bool wt]) (by simp [results, Tryz.results18, go_sem, s0, s1]) rfl ⟨rfl, HB.out⟩
end Go.Proofs.YtiejfhipkolmhaaGreatDoor.Fin

/- Package finish (layer 25): what a finisher becomes when it is told a word. -/
namespace Go.Proofs.YtiejfhipkolmhaaGreatDoor.Fin
set_option maxRecDepth 20000
open Go.ChangeShapes Go.WideShapes Go.RowKit CM DM PM KM FiM Lay Ints Plan Go.Proofs.YtiejfhipkolmhaaGreatDoor.Flows
open Go.Proofs.YtiejfhipkolmhaaGreatDoor.Task (Scr encD res5 set5)
open Go.Proofs.YtiejfhipkolmhaaGreatDoor.Mk (Marks Mark_any Mark_next Mark_tell)
open Go.Proofs.YtiejfhipkolmhaaGreatDoor.Stl (Settles Settle_any Settle_next Settle_tell Retired_any)
open MkM (markA markT leftI)
open StM (settleA settleT)
set_option linter.unusedVariables false
set_option linter.unusedSimpArgs false

theorem new_asks (T L r : Int) : settleA T L r StM.new = some (4, atI T L (idx r) 4, 18446744073709551615, 0, r) := by unfold StM.new; exact StM.settleA_1
/-- The timer is let go of: the flow is given the settler. -/
theorem letGo_any {w : World} {p d qs bt k : Nat} {SB : Nat → Prop} {T N L G r dl sq : Int} (hF : HeadAt w p none d [.pointer (some ⟨qs, 0, none⟩)] 79) (hB : Boxed w bt 38 (.pointer (some ⟨p, 0, none⟩))) (hS : Settles w qs SB T N L G r dl sq k StM.new) (hp : ¬ SB p) :
    Calls Tryz.prog 41 #[.pointer (some ⟨bt, 0, none⟩)] w fun e w' => e = .returned (.tuple #[]) ∧ HeadAt w' p (some w.heap.size) d [.pointer (some ⟨qs, 0, none⟩)] 79 ∧ PartAt w' w.heap.size (itf 73 qs) .nilFunc false ∧ Settles w' qs SB T N L G r dl sq k StM.new ∧ Only (fun j => j = p ∨ SB j) w w' := by
  have HTO := Lib.hid (To_of (sett_ask T N L G r dl sq k) (.inl rfl) (hF.later (Below.refl _ _).drew) (hS.later (Below.refl _ _).drew) (new_asks T L r) hp)
  have c0 := hB.cell
  have c2 := (cell_heap hF 2).1
  replace c2 : _ = some (Value.pointer (some ⟨qs, 0, none⟩)) := c2
  clear hF hB hS hp
  go_enter Tryz.func41, Tryz.ntmps41
  go_region_with (go_at_call 42; refine HTO.out.mono ?_; rintro e w1 ⟨rfl, h1, h2, h3, h4⟩; have HE := Lib.hid (And.intro h1 (And.intro h2 (And.intro h3 h4))); clear h1 h2 h3 h4)
  all_goals go_wp2
  all_goals exact bodyPost_end (results_none rfl _ _ _) rfl ⟨rfl, HE.out.1, HE.out.2.1, HE.out.2.2.1, (only_below _ (Below.refl _ _).drew).trans HE.out.2.2.2⟩
theorem Caps.cells {w : World} {p kk : Nat} {T N L G r : Int} {bl bt bp br bg : Nat} (h : Caps w p kk T N L G r bl bt bp br bg) : (w.cell? ⟨bt, 0, none⟩ = some (.pointer (some ⟨p, 0, none⟩)) ∧ w.cell? ⟨br, 0, none⟩ = some (.int .u64 r) ∧ w.cell? ⟨bg, 0, none⟩ = some (.func (.func 41) #[] #[.pointer (some ⟨bt, 0, none⟩)])) ∧ w.cell? ⟨bp, 0, none⟩ = some (.int .i64 T) ∧ w.cell? ⟨bp, 1, none⟩ = some (.int .i64 N) ∧ w.cell? ⟨bp, 2, none⟩ = some (.int .i64 L) ∧ w.cell? ⟨bp, 3, none⟩ = some (.int .u64 G) :=
  ⟨⟨h.self.cell, h.ref.cell, h.letGo.cell⟩, (cell_heap h.plan 0).1, (cell_heap h.plan 1).1, (cell_heap h.plan 2).1, (cell_heap h.plan 3).1⟩
/-- The height is known: the flow is given the marker. -/
theorem marks_any {w : World} {p d qs kk qd g bl bt bp br bg : Nat} {ds : List D} {T N L G r f : Int} {Q : World → Prop} (hF : HeadAt w p none d [.pointer (some ⟨qs, 0, none⟩)] 79) (hS : Scr w kk qd g ds [f]) (hC : Caps w p kk T N L G r bl bt bp br bg) (hL : -9223372036854775808 ≤ L ∧ L ≤ 9223372036854775807) (hr : Word r) (hf : Word f)
    (HTO : ∀ w2 q, Below w.heap.size w w2 → MarkI T N L G r q w2 (fun j => j = q) ⟨leftI (wrap64 f) L, 0, 0⟩ → w.heap.size ≤ q → Calls Tryz.prog 42 #[.pointer (some ⟨p, 0, none⟩), itf 84 q, .func (.func 41) #[] #[.pointer (some ⟨bt, 0, none⟩)]] w2 fun e w' => e = .returned (.tuple #[]) ∧ Caps w' p kk T N L G r bl bt bp br bg ∧ Q w') :
    Calls Tryz.prog 43 #[.pointer (some ⟨bl, 0, none⟩), .pointer (some ⟨bt, 0, none⟩), .pointer (some ⟨bp, 0, none⟩), .pointer (some ⟨br, 0, none⟩), .pointer (some ⟨bg, 0, none⟩)] w fun e w' => e = .returned (.tuple #[]) ∧ Q w' := by
  have HFD := Lib.hid (Task.Found_n (m := 1) rfl hS)
  have HCX := Lib.hid (show ∀ W, Below w.heap.size w W → (W.cell? ⟨bt, 0, none⟩ = some (.pointer (some ⟨p, 0, none⟩)) ∧ W.cell? ⟨br, 0, none⟩ = some (.int .u64 r) ∧ W.cell? ⟨bg, 0, none⟩ = some (.func (.func 41) #[] #[.pointer (some ⟨bt, 0, none⟩)])) ∧ W.cell? ⟨bp, 0, none⟩ = some (.int .i64 T) ∧ W.cell? ⟨bp, 1, none⟩ = some (.int .i64 N) ∧ W.cell? ⟨bp, 2, none⟩ = some (.int .i64 L) ∧ W.cell? ⟨bp, 3, none⟩ = some (.int .u64 G) from fun W hb => (hC.only (only_below (fun _ => False) hb) (fun _ _ => id)).cells)
  have HMK := Lib.hid (fun W : World => Mark_any T N L G r (wrap64 f) hL hr W)
  have HT := Lib.hid HTO
  have c0 := hC.look.cell
  clear hF hS hC hL hr HTO
  go_enter Tryz.func43, Tryz.ntmps43
  go_wp2_with fail
  refine HFD.out.mono ?_
  rintro e w1 ⟨A1, c1, rfl, hr1, hn1, hb1⟩
  obtain ⟨b, o, rfl, hbl, hc⟩ := hr1 (by simp [flat, Ints.encZ])
  have hcf := hc 0 (.int .u64 f) rfl
  simp at hcf
  have HB1 := Lib.hid hb1
  have HD1 := Lib.hid hb1.drew
  clear hr1 hn1 hb1 hc c0 hbl
  go_upto_region 1 with fail
  go_region_held3 (fun W => (W.cell? ⟨bt, 0, none⟩ = some (.pointer (some ⟨p, 0, none⟩)) ∧ W.cell? ⟨br, 0, none⟩ = some (.int .u64 r) ∧ W.cell? ⟨bg, 0, none⟩ = some (.func (.func 41) #[] #[.pointer (some ⟨bt, 0, none⟩)])) ∧ W.cell? ⟨bp, 0, none⟩ = some (.int .i64 T) ∧ W.cell? ⟨bp, 1, none⟩ = some (.int .i64 N) ∧ W.cell? ⟨bp, 2, none⟩ = some (.int .i64 L) ∧ W.cell? ⟨bp, 3, none⟩ = some (.int .u64 G))
    ((first | (with_reducible exact HCX.out _ HD1.out) | (with_reducible assumption) | (with_reducible exact HCX.out _ HB3.out) | (with_reducible exact HCP.out.cells)))
    (first
      | (go_at_call 45; refine (HMK.out _).mono ?_; rintro e w3 ⟨q, rfl, hm, hq, hb⟩; have HB3 := Lib.hid (HB1.out.trans (((Below.refl w1.heap.size w1).drew.trans hb).mono HB1.out.size)); have HM3 := Lib.hid (show MarkI T N L G r q w3 (fun j => j = q) ⟨leftI (wrap64 f) L, 0, 0⟩ ∧ w.heap.size ≤ q from ⟨⟨hm, rfl, fun j e => e ▸ hm.lt⟩, Nat.le_trans HB1.out.size hq⟩); clear hm hq hb)
      | (go_at_call 42; refine (HT.out _ q HB3.out HM3.out.1 HM3.out.2).mono ?_; rintro e w4 ⟨rfl, hC, hQ⟩; have HE := Lib.hid hQ; have HCP := Lib.hid hC; clear hQ hC))
  go_wp2
  exact bodyPost_end (results_none rfl _ _ _) rfl ⟨rfl, HE.out⟩
section
variable {w : World} {p pb d q qs bt k : Nat} {SM SB : Nat → Prop} {T N L G r dl sq : Int} {s : MkM.St}
/-- The flow is asked, its marker being done: it goes on with the settler. -/
theorem next_marked (hF : HeadAt w p (some pb) d [.pointer (some ⟨qs, 0, none⟩)] 79) (hd : d < 65535) (hP : PartAt w pb (itf 84 q) (.func (.func 41) #[] #[.pointer (some ⟨bt, 0, none⟩)]) false) (hI : MarkI T N L G r q w SM s) (h0 : s.lf = 0) (hB : Boxed w bt 38 (.pointer (some ⟨p, 0, none⟩))) (hS : Settles w qs SB T N L G r dl sq k StM.new)
    (hp : p ≠ pb ∧ ¬ SM p ∧ ¬ SM pb) (hb : bt ≠ p) (hSB : ¬ SB p) :
    Calls Tryz.prog 48 #[.pointer (some ⟨p, 0, none⟩)] w fun e w' => (∃ o, e = .returned (ansV o)) ∧ ∃ pb', HeadAt w' p (some pb') d [.pointer (some ⟨qs, 0, none⟩)] 79 ∧ PartAt w' pb' (itf 73 qs) .nilFunc false ∧ Settles w' qs SB T N L G r dl sq k StM.new ∧ (w.heap.size ≤ pb' ∧ ¬ SB pb') ∧ Only (fun j => j = p ∨ SB j) w w' := by
  have hlp := hF.lt
  have hlB := hS.2.2.2.1
  have hms : markA T L r s = none := by
    cases e : markA T L r s with
    | none => rfl
    | some x => exact absurd h0 (mark_isSome.1 (by rw [e]; rfl))
  refine (FNext_goes (mark_task T N L G r).asks (sett_ask T N L G r dl sq k) (R := fun j => j = p ∨ SB j) (fv2 := .nilFunc) (s2 := StM.new)
    (G := fun w1 w2 rest' pb' q' S' => rest' = [.pointer (some ⟨qs, 0, none⟩)] ∧ q' = qs ∧ SB = S' ∧ HeadAt w2 p (some pb') (d + 1) [.pointer (some ⟨qs, 0, none⟩)] 79 ∧ PartAt w2 pb' (itf 73 qs) .nilFunc false ∧ Settles w2 qs SB T N L G r dl sq k StM.new ∧ Only (fun j => j = p ∨ SB j) w1 w2 ∧ w1.heap.size ≤ pb' ∧ w.heap.size < w1.heap.size)
    hF hd hP hI hms hp letGo_enter (fun j e => e.elim (fun e => e ▸ hlp) (hlB j)) ?_ (new_asks T L r) ?_).mono ?_
  · rintro w1 w2 rest' pb' q' S' ⟨rfl, rfl, rfl, k1, k2, k3, k4, k5, k6⟩
    exact ⟨k1, k4, k2, k3, k5, fun j e => ⟨.inl (.inr e), fun z => hSB (z ▸ e)⟩, fun e => by have := hlB _ e; omega⟩
  · intro w1 h1 h2 h3
    refine (letGo_any h1 (h2.heap hB hb) (hS.only h2 fun j e z => hSB (z ▸ e)) hSB).mono ?_
    rintro e w2 ⟨rfl, k1, k2, k3, k4⟩
    exact ⟨rfl, _, w1.heap.size, qs, SB, rfl, rfl, rfl, k1, k2, k3, k4, Nat.le_refl _, h3⟩
  · rintro e w' ⟨rfl, w1, w2, rest', pb', q', S', k1, k2, k3, ⟨rfl, rfl, rfl, -, -, -, k4, k5, -⟩, k6, k7, k8, k9⟩
    refine ⟨⟨_, rfl⟩, pb', k6, k7, k8, ⟨by omega, fun e => by have := hlB _ e; omega⟩, ((k2.wide (R' := fun j => j = p ∨ SB j) fun j e => .inl (.inl e)).more k4 fun j e => .inl e).more k9 fun j e => ?_⟩
    rcases e with e | e | e | e
    · exact .inl (.inl e)
    · exact .inr (by omega)
    · exact .inl (.inr e)
    · exact .inr e.1
/-- .. its look being done: it goes on with the marker. -/
theorem next_looked {kk bl bp br bg : Nat} {SS : Nat → Prop} {f : Int} (hF : HeadAt w p (some pb) 0 [.pointer (some ⟨qs, 0, none⟩)] 79) (hP : PartAt w pb (itf 80 kk) (.func (.func 43) #[] #[.pointer (some ⟨bl, 0, none⟩), .pointer (some ⟨bt, 0, none⟩), .pointer (some ⟨bp, 0, none⟩), .pointer (some ⟨br, 0, none⟩), .pointer (some ⟨bg, 0, none⟩)]) false) (hI : ScrI [((1 : Int), atI T L (idx r) 3, (0 : Int), (0 : Int), r)] kk w SS [f]) (hC : Caps w p kk T N L G r bl bt bp br bg) (hS : Settles w qs SB T N L G r dl sq k StM.new)
    (hL : -9223372036854775808 ≤ L ∧ L ≤ 9223372036854775807) (hr : Word r) (hf : Word f) (hp : p ≠ pb ∧ ¬ SS p ∧ ¬ SS pb) (hb : ∀ j, CapB bl bt bp br bg j → j ≠ p) (hcS : ∀ j, CapB bl bt bp br bg j → ¬ SB j) (hSB : ¬ SB p) :
    Calls Tryz.prog 48 #[.pointer (some ⟨p, 0, none⟩)] w fun e w' => (∃ o, e = .returned (ansV o)) ∧ Only (fun j => j = p ∨ SB j) w w' ∧ Settles w' qs SB T N L G r dl sq k StM.new ∧
      (leftI (wrap64 f) L = 0 → ∃ pb', HeadAt w' p (some pb') 0 [.pointer (some ⟨qs, 0, none⟩)] 79 ∧ PartAt w' pb' (itf 73 qs) .nilFunc false ∧ (w.heap.size ≤ pb' ∧ ¬ SB pb')) ∧
      (¬ leftI (wrap64 f) L = 0 → ∃ pb' q' SM, HeadAt w' p (some pb') 0 [.pointer (some ⟨qs, 0, none⟩)] 79 ∧ PartAt w' pb' (itf 84 q') (.func (.func 41) #[] #[.pointer (some ⟨bt, 0, none⟩)]) false ∧ MarkI T N L G r q' w' SM ⟨leftI (wrap64 f) L, 0, 0⟩ ∧ (∀ j, j = pb' ∨ SM j → w.heap.size ≤ j) ∧ ¬ SM pb') := by
  have hlp := hF.lt
  have hlB := hS.2.2.2.1
  have hcap : ∀ {w1 : World}, Only (fun j => j = p) w w1 → Caps w1 p kk T N L G r bl bt bp br bg ∧ Settles w1 qs SB T N L G r dl sq k StM.new ∧ ∃ qd g, Scr w1 kk qd g [((1 : Int), atI T L (idx r) 3, (0 : Int), (0 : Int), r)] [f] := fun {w1} ho => by
    obtain ⟨qd, g, k1, k2, k3, k4, -⟩ := hI
    exact ⟨hC.only ho hb, hS.only ho fun j e z => hSB (z ▸ e), qd, g, k1.only ho (fun e => hp.2.1 (e ▸ k2)) (fun e => hp.2.1 (e ▸ k3)) (fun e => hp.2.1 (e ▸ k4))⟩
  have hbt : bt ≠ p := hb bt (.inr (.inl rfl))
  by_cases h0 : leftI (wrap64 f) L = 0
  · refine (FNext_goes (scr_task [((1 : Int), atI T L (idx r) 3, (0 : Int), (0 : Int), r)]).asks (sett_ask T N L G r dl sq k) (R := fun j => j = p ∨ SB j) (fv2 := .nilFunc) (s2 := StM.new)
      (G := fun w1 w2 rest' pb' q' S' => rest' = [.pointer (some ⟨qs, 0, none⟩)] ∧ q' = qs ∧ SB = S' ∧ HeadAt w2 p (some pb') (0 + 1) [.pointer (some ⟨qs, 0, none⟩)] 79 ∧ PartAt w2 pb' (itf 73 qs) .nilFunc false ∧ Settles w2 qs SB T N L G r dl sq k StM.new ∧ Only (fun j => j = p ∨ SB j) w1 w2 ∧ (w1.heap.size ≤ pb' ∧ ¬ SB pb') ∧ w.heap.size < w1.heap.size)
      hF (by decide) hP hI rfl hp marks_enter (fun j e => e.elim (fun e => e ▸ hlp) (hlB j)) ?_ (new_asks T L r) ?_).mono ?_
    · rintro w1 w2 rest' pb' q' S' ⟨rfl, rfl, rfl, k1, k2, k3, k4, k5, k6⟩
      exact ⟨k1, k4, k2, k3, k5.1, fun j e => ⟨.inl (.inr e), fun z => hSB (z ▸ e)⟩, k5.2⟩
    · intro w1 h1 h2 h3
      obtain ⟨c1, s1, qd, g, g1⟩ := hcap h2
      refine (marks_any (Q := fun w2 => ∃ pb', HeadAt w2 p (some pb') (0 + 1) [.pointer (some ⟨qs, 0, none⟩)] 79 ∧ PartAt w2 pb' (itf 73 qs) .nilFunc false ∧ Settles w2 qs SB T N L G r dl sq k StM.new ∧ Only (fun j => j = p ∨ SB j) w1 w2 ∧ (w1.heap.size ≤ pb' ∧ ¬ SB pb')) h1 g1 c1 hL hr hf fun w2 q' hb2 hm hq => ?_).mono ?_
      · have hb3 := hb2.size
        refine (To_any (.inr ⟨_, _, _, rfl⟩) (h1.later hb2) fun w3 hF3 hP3 ho3 hz => ?_).mono fun e w' h => h
        have hs2 : Settles w3 qs SB T N L G r dl sq k StM.new := (s1.later hb2).only ho3 fun j e z => hSB (z ▸ e)
        have hm3 : MarkI T N L G r q' w3 (fun j => j = q') ⟨leftI (wrap64 f) L, 0, 0⟩ := (mark_task T N L G r).only hm ho3 fun j e z => by have := h1.lt; omega
        have hbx : Boxed w3 bt 38 (.pointer (some ⟨p, 0, none⟩)) := ho3.heap ((c1.only (only_below (fun _ => False) hb2) (fun _ _ => id)).self) hbt
        have hql := hm.2.2 q' rfl
        refine (next_marked (d := 0 + 1) hF3 (by decide) hP3 hm3 h0 hbx hs2 ⟨by have := h1.lt; omega, fun e => by have := h1.lt; omega, fun e => by omega⟩ hbt hSB).mono ?_
        rintro e w' ⟨ho, pb', k1, k2, k3, k4, k5⟩
        have hz3 := ho3.size
        have hoo := ((only_below (fun j => j = p ∨ SB j) hb2).more ho3 fun j e => .inl (.inl e)).more k5 fun j e => .inl e
        exact ⟨ho, c1.only hoo (fun j e z => z.elim (hb j e) (hcS j e)), pb', k1, k2, k3, hoo, by omega, k4.2⟩
      · rintro e w2 ⟨rfl, pb', k1, k2, k3, k4, k5⟩
        exact ⟨rfl, _, pb', qs, SB, rfl, rfl, rfl, k1, k2, k3, k4, k5, h3⟩
    · rintro e w' ⟨rfl, w1, w2, rest', pb', q', S', k1, k2, k3, ⟨rfl, rfl, rfl, -, -, -, k4, k5, -⟩, k6, k7, k8, k9⟩
      refine ⟨⟨_, rfl⟩, ((k2.wide (R' := fun j => j = p ∨ SB j) fun j e => .inl (.inl e)).more k4 fun j e => .inl e).more k9 fun j e => ?_, k8, fun _ => ⟨pb', k6, k7, by omega, k5.2⟩, fun e => absurd h0 e⟩
      rcases e with e | e | e | e
      · exact .inl (.inl e)
      · exact .inr (by omega)
      · exact .inl (.inr e)
      · exact .inr e.1
  · obtain ⟨x, hx⟩ := Option.isSome_iff_exists.1 (mark_isSome (T := T) (L := L) (r := r) (s := ⟨leftI (wrap64 f) L, 0, 0⟩).2 h0)
    refine (FNext_goes (scr_task [((1 : Int), atI T L (idx r) 3, (0 : Int), (0 : Int), r)]).asks (mark_task T N L G r).asks (R := fun j => j = p) (fv2 := .func (.func 41) #[] #[.pointer (some ⟨bt, 0, none⟩)]) (s2 := ⟨leftI (wrap64 f) L, 0, 0⟩)
      (G := fun w1 w2 rest' pb' q' S' => rest' = [.pointer (some ⟨qs, 0, none⟩)] ∧ HeadAt w2 p (some pb') (0 + 1) [.pointer (some ⟨qs, 0, none⟩)] 79 ∧ PartAt w2 pb' (itf 84 q') (.func (.func 41) #[] #[.pointer (some ⟨bt, 0, none⟩)]) false ∧ MarkI T N L G r q' w2 S' ⟨leftI (wrap64 f) L, 0, 0⟩ ∧ Only (fun j => j = p) w1 w2 ∧ (∀ j, j = pb' ∨ S' j → w1.heap.size ≤ j) ∧ ¬ S' pb' ∧ w.heap.size < w1.heap.size)
      hF (by decide) hP hI rfl hp marks_enter (fun j e => e ▸ hlp) ?_ hx ?_).mono ?_
    · rintro w1 w2 rest' pb' q' S' ⟨rfl, k1, k2, k3, k4, k5, k6, k7⟩
      exact ⟨k1, k4, k2, k3, k5 _ (.inl rfl), fun j e => ⟨.inr (k5 j (.inr e)), fun z => by have := k5 j (.inr e); omega⟩, k6⟩
    · intro w1 h1 h2 h3
      obtain ⟨c1, s1, qd, g, g1⟩ := hcap h2
      refine (marks_any (Q := fun w2 => ∃ pb' q', HeadAt w2 p (some pb') (0 + 1) [.pointer (some ⟨qs, 0, none⟩)] 79 ∧ PartAt w2 pb' (itf 84 q') (.func (.func 41) #[] #[.pointer (some ⟨bt, 0, none⟩)]) false ∧ MarkI T N L G r q' w2 (fun j => j = q') ⟨leftI (wrap64 f) L, 0, 0⟩ ∧ Only (fun j => j = p) w1 w2 ∧ w1.heap.size ≤ pb' ∧ w1.heap.size ≤ q' ∧ pb' ≠ q') h1 g1 c1 hL hr hf fun w2 q' hb2 hm hq => ?_).mono ?_
      · have hb3 := hb2.size
        have hql := hm.2.2 q' rfl
        refine (To_of (mark_task T N L G r).asks (.inr ⟨_, _, _, rfl⟩) (h1.later hb2) hm hx (fun e => by have := h1.lt; omega)).mono ?_
        rintro e w' ⟨rfl, k1, k2, k3, k4⟩
        have hoo := (only_below (fun j => j = p) hb2).more k4 fun j e => e.elim .inl fun e => .inr (by omega)
        exact ⟨rfl, c1.only hoo hb, w2.heap.size, q', k1, k2, k3, hoo, hb3, hq, by omega⟩
      · rintro e w2 ⟨rfl, pb', q', k1, k2, k3, k4, k5, k6, k7⟩
        exact ⟨rfl, _, pb', q', _, rfl, k1, k2, k3, k4, fun j e => e.elim (fun e => e ▸ k5) (fun e => e ▸ k6), k7, h3⟩
    · rintro e w' ⟨rfl, w1, w2, rest', pb', q', S', k1, k2, k3, ⟨rfl, -, -, -, k4, k5, k5', -⟩, k6, k7, k8, k9⟩
      have ho : Only (fun j => j = p) w w' := (k2.more k4 fun j e => .inl e).more k9 fun j e => by
        rcases e with e | e | e | e
        · exact .inl e
        · exact .inr (by have := k5 _ (.inl e); omega)
        · exact .inr (by have := k5 _ (.inr e); omega)
        · exact .inr e.1
      exact ⟨⟨_, rfl⟩, ho.wide fun j e => .inl (.inl e), hS.only ho fun j e z => hSB (z ▸ e), fun e => absurd e h0, fun _ => ⟨pb', q', S', k6, k7, k8, fun j e => by have := k5 j e; omega, k5'⟩⟩
end
/-- What it has become. -/
def Became (w : World) (S : Nat → Prop) (p : Nat) (T N L G r dl sq : Int) (k : Nat) (s : FiM.St) (w' : World) : Prop :=
  ∃ S', Fins w' p S' T N L G r dl sq k s ∧ Only S w w' ∧ ∀ j, S' j → S j ∨ (w.heap.size ≤ j ∧ j < w'.heap.size)
theorem Flow_tell {w : World} {p k : Nat} {S : Nat → Prop} {T N L G r dl sq f : Int} {s : FiM.St} (h : Fins w p S T N L G r dl sq k s) (hk : k + 1 ≤ 1000000) (hf : Word f) : Calls Tryz.prog 49 #[.pointer (some ⟨p, 0, none⟩), .int .u64 f] w fun e w' => e = .returned (.tuple #[]) ∧ Became w S p T N L G r dl sq (k + 1) (finT L dl sq s f) w' := by
  have hall := h
  obtain ⟨hok, ⟨hL, hr⟩, hp, hlt, nv, qs, hF, hpl⟩ := h
  have hok' := FiM.finT_ok (dl := dl) (sq := sq) hok hL hf
  have hlp := hF.lt
  -- a new finisher's blocks
  have hnew : ∀ {w' : World} {s' : FiM.St}, FiM.Ok L (k + 1) s' → Only S w w' → (∃ nv', HeadAt w' p nv' 0 [.pointer (some ⟨qs, 0, none⟩)] 79 ∧ Place w' p (fun j => S j ∨ (w.heap.size ≤ j ∧ j < w'.heap.size)) T N L G r dl sq (k + 1) qs s' nv') → Became w S p T N L G r dl sq (k + 1) s' w' := fun {w' s'} ho' ho ⟨nv', k1, k2⟩ =>
    ⟨fun j => S j ∨ (w.heap.size ≤ j ∧ j < w'.heap.size), ⟨ho', ⟨hL, hr⟩, .inl hp, fun j e => e.elim (fun e => Nat.lt_of_lt_of_le (hlt j e) ho.size) And.right, nv', qs, k1, k2⟩, ho, fun j e => e⟩
  cases s with
  | look =>
    obtain ⟨pb, kk, SS, SB, bl, bt, bp, br, bg, rfl, h2, h3, h4, h5, h6, h7, h8, h9, h10⟩ := hpl
    have hpb := h6 pb (.inr (.inr (.inl rfl)))
    have hbt := h6 bt (.inr (.inr (.inr (.inr (.inl rfl)))))
    have hSB : ¬ SB p := fun e => (h6 p (.inr (.inl e))).2 rfl
    refine (FTell_any (scr_task [((1 : Int), atI T L (idx r) 3, (0 : Int), (0 : Int), r)]) hF h2 h3 (x := (1, atI T L (idx r) 3, 0, 0, r)) rfl ⟨fun e => hpb.2 e.symm, fun e => (h6 p (.inl e)).2 rfl, h7⟩ hf (Q := fun w2 w' => Became w S p T N L G r dl sq (k + 1) (finT L dl sq .look f) w') (fun w2 S' hM hn => ?_)).mono ?_
    · have ho : Only S w w2 := hM.only.wide fun j e => .inl (e.elim (fun e => e ▸ hpb.1) fun e => (h6 j (.inl e)).1)
      have hnk : ∀ j, SB j ∨ CapB bl bt bp br bg j → ¬ (j = pb ∨ SS j) := fun j e z => by
        rcases e with e | e
        · exact z.elim (fun z => h8 (z ▸ e)) (fun z => h9 j z e)
        · exact z.elim (fun z => (h10 j e).2.2 z) (fun z => (h10 j e).1 z)
      refine (next_looked hM.head hM.part hM.task (h5.only hM.only fun j e => hnk j (.inr e)) (h4.only hM.only fun j e => hnk j (.inl e)) hL hr hf ⟨fun e => hpb.2 e.symm, hn⟩ (fun j e => (h6 j (.inr (.inr (.inr e)))).2) (fun j e => (h10 j e).2.1) hSB).mono ?_
      rintro e w' ⟨he, g1, g2, g3, g4⟩
      have hz := ho.size
      have hz' := g1.size
      have hoo : Only S w w' := ho.more g1 fun j e => .inl (e.elim (fun e => e ▸ hp) fun e => (h6 j (.inr (.inl e))).1)
      refine ⟨he, hnew hok' hoo ?_⟩
      rw [finT_look]
      by_cases h0 : leftI (wrap64 f) L = 0
      · obtain ⟨pb', q1, q2, q3, q4⟩ := g3 h0
        rw [toM_done h0]
        exact ⟨some pb', q1, SB, g2.up (Nat.le_succ k), fun j e => ⟨.inl (h6 j (.inr (.inl e))).1, (h6 j (.inr (.inl e))).2⟩, fun e => absurd e (show ¬ (1 : Int) = 0 by decide), fun _ => ⟨pb', rfl, q2, .inr ⟨by omega, q2.lt⟩, by omega, q4⟩⟩
      · obtain ⟨pb', q', SM, q1, q2, q3, q4, q5⟩ := g4 h0
        rw [toM_more h0]
        have hbl := hlt bt hbt.1
        have hlB := fun j e => hlt j (h6 j (.inr (.inl e))).1
        refine ⟨some pb', q1, pb', q', SM, SB, bt, rfl, q2, q3, g2.up (Nat.le_succ k), g1.heap (hM.only.heap h5.self (hnk _ (.inr (.inr (.inl rfl))))) (fun e => e.elim hbt.2 (h10 bt (.inr (.inl rfl))).2.1), ?_, q5, fun e => by have h1 := hlB _ e; have h2 := q4 _ (.inl rfl); omega, fun j e z => by have h1 := hlB _ z; have h2 := q4 _ (.inr e); omega, fun e => by have h2 := q4 _ (.inr e); omega, (h10 bt (.inr (.inl rfl))).2.1, fun e => by have h2 := q4 _ (.inl rfl); omega⟩
        rintro j (e | e | e | e)
        · have h2 := q4 j (.inr e)
          exact ⟨.inr ⟨by omega, q3.2.2 j e⟩, by omega⟩
        · exact ⟨.inl (h6 j (.inr (.inl e))).1, (h6 j (.inr (.inl e))).2⟩
        · have h2 := q4 j (.inl e)
          exact ⟨.inr ⟨by omega, e ▸ q2.lt⟩, by omega⟩
        · exact ⟨.inl (e ▸ hbt.1), e ▸ hbt.2⟩
    · rintro e w' ⟨rfl, w2, S', -, hQ⟩
      exact ⟨rfl, hQ⟩
  | mark s =>
    obtain ⟨pb, q, SM, SB, bt, rfl, h2, h3, h4, h5, h6, h7, h8, h9, h10, h11, h12⟩ := hpl
    have hpb := h6 pb (.inr (.inr (.inl rfl)))
    have hbt := h6 bt (.inr (.inr (.inr rfl)))
    have hSB : ¬ SB p := fun e => (h6 p (.inr (.inl e))).2 rfl
    obtain ⟨x, hx⟩ := Option.isSome_iff_exists.1 (mark_isSome (T := T) (L := L) (r := r).2 hok.2)
    refine (FTell_any (mark_task T N L G r) hF h2 h3 hx ⟨fun e => hpb.2 e.symm, fun e => (h6 p (.inl e)).2 rfl, h7⟩ hf (Q := fun w2 w' => Became w S p T N L G r dl sq (k + 1) (finT L dl sq (.mark s) f) w') (fun w2 S' hM hn => ?_)).mono ?_
    · have ho : Only S w w2 := hM.only.wide fun j e => .inl (e.elim (fun e => e ▸ hpb.1) fun e => (h6 j (.inl e)).1)
      have hs2 : Settles w2 qs SB T N L G r dl sq k StM.new := h4.only hM.only fun j e z => z.elim (fun z => h8 (z ▸ e)) (fun z => h9 j z e)
      have hb2 : Boxed w2 bt 38 (.pointer (some ⟨p, 0, none⟩)) := hM.only.heap h5 fun z => z.elim h12 h10
      have hlB := fun j e => hlt j (h6 j (.inr (.inl e))).1
      rw [finT_mark] at hok' ⊢
      by_cases h0 : (markT s f).lf = 0
      · refine (next_marked hM.head (by decide) hM.part hM.task h0 hb2 hs2 ⟨fun e => hpb.2 e.symm, hn⟩ hbt.2 hSB).mono ?_
        rintro e w' ⟨he, pb', k1, k2, k3, k4, k5⟩
        have hz := ho.size
        rw [toM_done h0] at hok' ⊢
        refine ⟨he, hnew hok' (ho.more k5 fun j e => .inl (e.elim (fun e => e ▸ hp) fun e => (h6 j (.inr (.inl e))).1)) ⟨some pb', k1, SB, k3.up (Nat.le_succ k), fun j e => ⟨.inl (h6 j (.inr (.inl e))).1, (h6 j (.inr (.inl e))).2⟩, fun e => absurd e (show ¬ (1 : Int) = 0 by decide), fun _ => ⟨pb', rfl, k2, .inr ⟨by omega, k2.lt⟩, by omega, k4.2⟩⟩⟩
      · obtain ⟨y, hy⟩ := Option.isSome_iff_exists.1 (mark_isSome (T := T) (L := L) (r := r).2 h0)
        refine (FNext_more (mark_task T N L G r) hM.head hM.part hM.task hy ⟨fun e => hpb.2 e.symm, hn⟩).mono ?_
        rintro e w' ⟨rfl, -, k1, k2, hb⟩
        have hz := ho.size
        rw [toM_more h0] at hok' ⊢
        have hzb := hb.size
        refine ⟨⟨_, rfl⟩, hnew hok' (ho.then_below hb) ⟨some pb, hM.head.later hb, pb, q, S', SB, bt, rfl, k1, k2, (hs2.later hb).up (Nat.le_succ k), (only_below (fun _ => False) hb).heap hb2 id, ?_, hn.2, h8, fun j e z => (hM.own j e).elim (fun e => h9 j e z) (fun e => by have := hlB j z; omega), fun e => (hM.own bt e).elim h10 (fun e => by have := hlt bt hbt.1; omega), h11, h12⟩⟩
        rintro j (e | e | e | e)
        · refine (hM.own j e).elim (fun e => ⟨.inl (h6 j (.inl e)).1, (h6 j (.inl e)).2⟩) (fun e => ⟨.inr ⟨e.1, by omega⟩, by omega⟩)
        · exact ⟨.inl (h6 j (.inr (.inl e))).1, (h6 j (.inr (.inl e))).2⟩
        · exact ⟨.inl (e ▸ hpb.1), e ▸ hpb.2⟩
        · exact ⟨.inl (e ▸ hbt.1), e ▸ hbt.2⟩
    · rintro e w' ⟨rfl, w2, S', -, hQ⟩
      exact ⟨rfl, hQ⟩
  | settle s =>
    obtain ⟨SB, h1, h2, h3, h4⟩ := hpl
    rw [finT_settle] at hok' ⊢
    by_cases h0 : s.st = 0
    · obtain rfl := h3 h0
      have hs : settleT L dl sq s f = s := by
        obtain ⟨st, sk, ep, wt⟩ := s
        obtain rfl : st = 0 := h0
        exact StM.settleT_0
      rw [hs] at hok' ⊢
      refine (FTell_none hF).mono ?_
      rintro e w' ⟨rfl, hb⟩
      exact ⟨rfl, hnew hok' (only_below _ hb) ⟨none, hF.later hb, SB, (h1.later hb).up (Nat.le_succ k), fun j e => ⟨.inl (h2 j e).1, (h2 j e).2⟩, fun _ => rfl, fun e => absurd h0 e⟩⟩
    · obtain ⟨pb, rfl, k2, k3, k4, k5⟩ := h4 h0
      obtain ⟨x, hx⟩ := Option.ne_none_iff_exists'.1 (fun e => h0 ((sett_none (T := T) (r := r) h1.1).1 e))
      have hSB : ¬ SB p := fun e => (h2 p e).2 rfl
      refine (FTell_of (sett_ask T N L G r dl sq k) hF k2 h1 hx ⟨fun e => k4 e.symm, hSB, k5⟩ (s' := settleT L dl sq s f) (I' := SettI T N L G r dl sq (k + 1)) (Q := fun w2 w' => Became w S p T N L G r dl sq (k + 1) (.settle (settleT L dl sq s f)) w') (fun w1 g1 _ => Settle_tell g1 hk hf) (fun w2 S' hM hn => ?_)).mono ?_
      · have ho : Only S w w2 := hM.only.wide fun j e => .inl (e.elim (fun e => e ▸ k3) fun e => (h2 j e).1)
        have hz := ho.size
        have hown : ∀ {w' : World}, w2.heap.size ≤ w'.heap.size → ∀ j, S' j → (S j ∨ (w.heap.size ≤ j ∧ j < w'.heap.size)) ∧ j ≠ p := fun hz2 j e => ⟨(hM.own j e).imp (fun e => (h2 j e).1) fun e => ⟨e.1, by omega⟩, fun z => hn.1 (z ▸ e)⟩
        by_cases h9 : (settleT L dl sq s f).st = 0
        · refine (FNext_last (sett_ask T N L G r dl sq (k + 1)) hM.head (by decide) hM.part hM.task ((sett_none (T := T) (r := r) hok').2 h9) ⟨fun e => k4 e.symm, hn⟩).mono ?_
          rintro e w' ⟨rfl, g1, g2, g3⟩
          exact ⟨⟨_, rfl⟩, hnew hok' (ho.more g1 fun j e => .inl (e ▸ hp)) ⟨none, g2, S', g3, hown g1.size, fun _ => rfl, fun e => absurd h9 e⟩⟩
        · obtain ⟨y, hy⟩ := Option.ne_none_iff_exists'.1 (fun e => h9 ((sett_none (T := T) (r := r) hok').1 e))
          refine (FNext_of (sett_ask T N L G r dl sq (k + 1)) hM.head hM.part hM.task hy ⟨fun e => k4 e.symm, hn⟩).mono ?_
          rintro e w' ⟨rfl, -, g2, g3, hb⟩
          exact ⟨⟨_, rfl⟩, hnew hok' (ho.then_below hb) ⟨some pb, hM.head.later hb, S', g3, hown hb.size, fun e => absurd e h9, fun _ => ⟨pb, rfl, g2, .inl k3, k4, hn.2⟩⟩⟩
      · rintro e w' ⟨rfl, w2, S', -, hQ⟩
        exact ⟨rfl, hQ⟩
theorem Fin_tell {w : World} {p k : Nat} {S : Nat → Prop} {T N L G r dl sq f : Int} {s : FiM.St} (h : Fins w p S T N L G r dl sq k s) (hk : k + 1 ≤ 1000000) (hf : Word f) : Calls Tryz.prog 16 #[.pointer (some ⟨p, 0, none⟩), .int .u64 f] w fun e w' => e = .returned (.tuple #[]) ∧ Became w S p T N L G r dl sq (k + 1) (finT L dl sq s f) w' := by
  have HT := Lib.hid (Flow_tell h hk hf)
  generalize finT L dl sq s f = s' at HT ⊢
  clear h hk hf
  go_enter Tryz.func16, Tryz.ntmps16
  go_wp2_with fail
  refine HT.out.mono ?_
  rintro e w1 ⟨rfl, hb⟩
  have HB := Lib.hid hb
  clear hb
  go_wp2
  refine bodyPost_end (results_none rfl _ _ _) rfl ?_
  exact ⟨rfl, HB.out⟩
end Go.Proofs.YtiejfhipkolmhaaGreatDoor.Fin

/- Package finish (layer 25): how a finisher is made. -/
namespace Go.Proofs.YtiejfhipkolmhaaGreatDoor.Fin
set_option maxRecDepth 20000
open Go.ChangeShapes Go.WideShapes Go.RowKit CM DM PM KM FiM Lay Ints Plan Go.Proofs.YtiejfhipkolmhaaGreatDoor.Flows
open Go.Proofs.YtiejfhipkolmhaaGreatDoor.Task (Scr encD res5 set5)
open Go.Proofs.YtiejfhipkolmhaaGreatDoor.Stl (Settles Settle_any)
set_option linter.unusedVariables false
set_option linter.unusedSimpArgs false
theorem kD {W2 W : World} (h : Below W2.heap.size W2 W) : Below W2.heap.size W2 W.drew := h.drew
theorem kA {W2 W : World} {o : Obj} (h : Below W2.heap.size W2 W) : Below W2.heap.size W2 (W.alloc o) := h.alloc h.size o
theorem kB {W2 W W' : World} (h : Below W2.heap.size W2 W) (hb : Below W.heap.size W W') : Below W2.heap.size W2 W' := h.trans (hb.mono h.size)
theorem kS {W2 W : World} {j : Nat} {v : Value} (h : Below W2.heap.size W2 W) (hj : W2.heap.size ≤ j) : Below W2.heap.size W2 (W.setCell ⟨j, 0, none⟩ v) := h.setCell (p := ⟨j, 0, none⟩) hj v
theorem pA {W2 W : World} (hb : Below W2.drew.heap.size W2.drew W) : Below W2.heap.size W2 W := kB (kD (Below.refl _ _)) hb
theorem pB {W2 W : World} {o : Obj} (hb : Below (W2.alloc o).drew.heap.size (W2.alloc o).drew W) : Below W2.heap.size W2 W ∧ W.heap[W2.heap.size]? = some o :=
  ⟨kB (kD (kA (Below.refl _ _))) hb, (hb.block _ (by simp [World.drew])).trans (new_heap W2 o)⟩
theorem row1 (W : World) (q r : Int) (t : TypeId) : Row (W.alloc (.cells #[.int .i64 1, .int .i64 q, .int .u64 0, .int .u64 0, .int .u64 r] t)) (W.alloc (.cells #[.int .i64 1, .int .i64 q, .int .u64 0, .int .u64 0, .int .u64 r] t)).heap.size (some ⟨W.heap.size, 0, none⟩) (flat encD [((1 : Int), q, (0 : Int), (0 : Int), r)]) :=
  Cells.row_new W #[.int .i64 1, .int .i64 q, .int .u64 0, .int .u64 0, .int .u64 r] t
theorem row2 (W : World) (q r : Int) (t : TypeId) (o : Obj) : Row ((W.alloc (.cells #[.int .i64 1, .int .i64 q, .int .u64 0, .int .u64 0, .int .u64 r] t)).alloc o) ((W.alloc (.cells #[.int .i64 1, .int .i64 q, .int .u64 0, .int .u64 0, .int .u64 r] t)).alloc o).heap.size (some ⟨W.heap.size, 0, none⟩) (flat encD [((1 : Int), q, (0 : Int), (0 : Int), r)]) :=
  (row1 W q r t).later (box_below _ o)
theorem row3 (W : World) (q r : Int) (t : TypeId) (o : Obj) : Row ((W.alloc o).alloc (.cells #[.int .i64 1, .int .i64 q, .int .u64 0, .int .u64 0, .int .u64 r] t)) ((W.alloc o).alloc (.cells #[.int .i64 1, .int .i64 q, .int .u64 0, .int .u64 0, .int .u64 r] t)).heap.size (some ⟨W.heap.size + 1, 0, none⟩) (flat encD [((1 : Int), q, (0 : Int), (0 : Int), r)]) := by
  have e : W.heap.size + 1 = (W.alloc o).heap.size := (World.size_alloc _ _).symm
  rw [e]
  exact row1 (W.alloc o) q r t
/-- The script is made. -/
structure Look (W2 : World) (kk qd : Nat) (q r : Int) (w5 : World) : Prop where
  scr : Scr w5 kk qd kk [((1 : Int), q, (0 : Int), (0 : Int), r)] []
  new : W2.heap.size ≤ kk ∧ W2.heap.size ≤ qd
  past : Below W2.heap.size W2 w5
theorem look_made {W2 X w5 : World} {kk qd : Nat} {q r : Int} (hp : Below W2.heap.size W2 X) (h : Scr w5 kk qd kk [((1 : Int), q, (0 : Int), (0 : Int), r)] []) (h1 : X.heap.size ≤ kk) (h2 : X.heap.size ≤ qd) (hb : Below X.heap.size X w5) : Look W2 kk qd q r w5 := ⟨h, ⟨Nat.le_trans hp.size h1, Nat.le_trans hp.size h2⟩, kB hp hb⟩
/-- .. its variable's block is there. -/
def There (W2 : World) (k kk qd : Nat) (w5 : World) : Prop := w5.heap[k]? = some (.cells #[.pointer none] 80) ∧ W2.heap.size ≤ k ∧ k ≠ kk ∧ k ≠ qd
theorem there_made {W2 X w5 : World} {k kk qd : Nat} (hz : X.heap[k]? = some (.cells #[.pointer none] 80)) (hk : W2.heap.size ≤ k) (h1 : X.heap.size ≤ kk) (h2 : X.heap.size ≤ qd) (hb : Below X.heap.size X w5) : There W2 k kk qd w5 := by
  have hlt := (Array.getElem?_eq_some_iff.1 hz).1
  exact ⟨(hb.block _ hlt).trans hz, hk, by omega, by omega⟩
theorem there_a {W : World} {k : Nat} {o o2 : Obj} (h : W.heap[k]? = some o) : (W.alloc o2).heap[k]? = some o := ((box_below W o2).block _ (Array.getElem?_eq_some_iff.1 h).1).trans h
theorem there_b {W : World} {o o2 : Obj} : ((W.alloc o).alloc o2).heap[W.heap.size]? = some o := there_a (new_heap W o)
theorem there_c {W : World} {o o2 : Obj} : ((W.alloc o).alloc o2).heap[W.heap.size + 1]? = some o2 := by
  have h := new_heap (W.alloc o) o2
  rwa [World.size_alloc] at h
theorem rel_box {W2 w5 : World} {k kk qd : Nat} {q r : Int} (h : Look W2 kk qd q r w5) (hz : There W2 k kk qd w5) :
    ∃ k' kk' qd', (Value.pointer (some ⟨k, 0, none⟩)) = .pointer (some ⟨k', 0, none⟩) ∧ Boxed (w5.setCell ⟨k, 0, none⟩ (.pointer (some ⟨kk, 0, none⟩))) k' 80 (.pointer (some ⟨kk', 0, none⟩)) ∧ Scr (w5.setCell ⟨k, 0, none⟩ (.pointer (some ⟨kk, 0, none⟩))) kk' qd' kk' [((1 : Int), q, (0 : Int), (0 : Int), r)] [] ∧ (W2.heap.size ≤ k' ∧ W2.heap.size ≤ kk' ∧ W2.heap.size ≤ qd' ∧ k' ≠ kk' ∧ k' ≠ qd') ∧ Below W2.heap.size W2 (w5.setCell ⟨k, 0, none⟩ (.pointer (some ⟨kk, 0, none⟩))) := by
  obtain ⟨hz, hk1, hk2, hk3⟩ := hz
  have ho := only_setCell (R := fun j => j = k) w5 (p := ⟨k, 0, none⟩) rfl (.pointer (some ⟨kk, 0, none⟩))
  exact ⟨k, kk, qd, rfl, set_heap (j := 0) hz _, h.scr.only ho (fun e => hk2 e.symm) (fun e => hk3 e.symm) (fun e => hk2 e.symm), ⟨hk1, h.new.1, h.new.2, hk2, hk3⟩, kS h.past hk1⟩
theorem rel_new {W2 w5 : World} {kk qd : Nat} {q r : Int} (h : Look W2 kk qd q r w5) :
    ∃ k' kk' qd', (Value.pointer (some ⟨w5.heap.size, 0, none⟩)) = .pointer (some ⟨k', 0, none⟩) ∧ Boxed (w5.alloc (.cells #[.pointer (some ⟨kk, 0, none⟩)] 80)) k' 80 (.pointer (some ⟨kk', 0, none⟩)) ∧ Scr (w5.alloc (.cells #[.pointer (some ⟨kk, 0, none⟩)] 80)) kk' qd' kk' [((1 : Int), q, (0 : Int), (0 : Int), r)] [] ∧ (W2.heap.size ≤ k' ∧ W2.heap.size ≤ kk' ∧ W2.heap.size ≤ qd' ∧ k' ≠ kk' ∧ k' ≠ qd') ∧ Below W2.heap.size W2 (w5.alloc (.cells #[.pointer (some ⟨kk, 0, none⟩)] 80)) := by
  have h1 := h.scr.apart
  exact ⟨w5.heap.size, kk, qd, rfl, new_heap w5 _, h.scr.later (box_below _ _), ⟨h.past.size, h.new.1, h.new.2, by omega, by omega⟩, kA h.past⟩
set_option maxHeartbeats 2000000 in
theorem Finish_any (T N L G r dl sq : Int) (hL : -9223372036854775808 ≤ L ∧ L ≤ 9223372036854775807) (hr : Word r) (w : World) : Calls Tryz.prog 13 #[.agg #[.int .i64 T, .int .i64 N, .int .i64 L, .int .u64 G], .int .u64 r, .agg #[.int .i64 dl, .int .u64 sq]] w fun e w' => ∃ p S, e = .returned (.pointer (some ⟨p, 0, none⟩)) ∧ Fins w' p S T N L G r dl sq 0 .look ∧ (∀ k, S k → w.heap.size ≤ k ∧ k < w'.heap.size) ∧ Below w.heap.size w w' := by
  have HLR := Lib.hid (And.intro hL hr)
  have HSE := Lib.hid (fun W : World => Settle_any T N L G r dl sq hL.2 hr W)
  have HIX := Lib.hid (show ∀ W : World, Calls Tryz.prog 4 #[.int .u64 r] W fun e w' => e = .returned (.int .i64 (idx r)) ∧ W = w' from fun W => Refer.Index_any r hr.1 hr.2 W)
  have HTL := Lib.hid (fun W : World => Plan.Tall_any T N L G (idx r) W)
  obtain ⟨q, hq⟩ : ∃ q, q = atI T L (idx r) 3 := ⟨_, rfl⟩
  rw [← hq] at HTL
  have HQ := Lib.hid hq
  have HB0 := Lib.hid (show Below w.heap.size w (((w.alloc (.cells #[.int .i64 T, .int .i64 N, .int .i64 L, .int .u64 G] 24)).alloc (.cells #[.int .u64 r] 22)).alloc (.cells #[.int .i64 dl, .int .u64 sq] 41)) ∧ (((w.alloc (.cells #[.int .i64 T, .int .i64 N, .int .i64 L, .int .u64 G] 24)).alloc (.cells #[.int .u64 r] 22)).alloc (.cells #[.int .i64 dl, .int .u64 sq] 41)).heap[w.heap.size]? = some (.cells #[.int .i64 T, .int .i64 N, .int .i64 L, .int .u64 G] 24) ∧ (((w.alloc (.cells #[.int .i64 T, .int .i64 N, .int .i64 L, .int .u64 G] 24)).alloc (.cells #[.int .u64 r] 22)).alloc (.cells #[.int .i64 dl, .int .u64 sq] 41)).heap[w.heap.size + 1]? = some (.cells #[.int .u64 r] 22) from by
    have b1 := box_below w (.cells #[.int .i64 T, .int .i64 N, .int .i64 L, .int .u64 G] 24)
    have b2 := box_below (w.alloc (.cells #[.int .i64 T, .int .i64 N, .int .i64 L, .int .u64 G] 24)) (.cells #[.int .u64 r] 22)
    have b3 := box_below ((w.alloc (.cells #[.int .i64 T, .int .i64 N, .int .i64 L, .int .u64 G] 24)).alloc (.cells #[.int .u64 r] 22)) (.cells #[.int .i64 dl, .int .u64 sq] 41)
    have n1 := new_heap w (.cells #[.int .i64 T, .int .i64 N, .int .i64 L, .int .u64 G] 24)
    have n2 := new_heap (w.alloc (.cells #[.int .i64 T, .int .i64 N, .int .i64 L, .int .u64 G] 24)) (.cells #[.int .u64 r] 22)
    rw [World.size_alloc] at n2
    exact ⟨(b1.trans (b2.mono b1.size)).trans (b3.mono (by simp; omega)), (b3.block _ (by simp; omega)).trans ((b2.block _ (by simp)).trans n1), (b3.block _ (by simp)).trans n2⟩)
  obtain ⟨c_0, c_1, c_2, c_3⟩ := box4 w (.int .i64 T) (.int .i64 N) (.int .i64 L) (.int .u64 G) 24
  clear hL hr hq
  go_enter Tryz.func13, Tryz.ntmps13
  go_wp2_with fail
  refine (HSE.out _).mono ?_
  rintro e w1 ⟨qs, SB, rfl, hs, hk, hb⟩
  have HS1 := Lib.hid (And.intro hs (And.intro hk hb))
  clear hs hk hb
  go_upto_region 2 with fail
  have HW2 := Lib.hid (show ∀ W2, W2 = ((w1.alloc (.cells #[.pointer none, .int .i64 0, .pointer (some ⟨qs, 0, none⟩)] 79)).alloc (.cells #[.pointer (some ⟨w1.heap.size, 0, none⟩)] 38)) → HeadAt W2 w1.heap.size none 0 [.pointer (some ⟨qs, 0, none⟩)] 79 ∧ Boxed W2 (w1.heap.size + 1) 38 (.pointer (some ⟨w1.heap.size, 0, none⟩)) ∧ W2.heap[w.heap.size]? = some (.cells #[.int .i64 T, .int .i64 N, .int .i64 L, .int .u64 G] 24) ∧ W2.heap[w.heap.size + 1]? = some (.cells #[.int .u64 r] 22) ∧ Settles W2 qs SB T N L G r dl sq 0 StM.new ∧ (∀ j, SB j → w.heap.size + 3 ≤ j ∧ j < w1.heap.size) ∧ W2.heap.size = w1.heap.size + 2 ∧ w.heap.size + 3 ≤ w1.heap.size ∧ Below w.heap.size w W2 from fun W2 e => by
    subst e
    obtain ⟨k1, k2, k3⟩ := HS1.out
    obtain ⟨z1, z2, z3⟩ := HB0.out
    have hz := k3.size
    have b1 := box_below w1 (.cells #[.pointer none, .int .i64 0, .pointer (some ⟨qs, 0, none⟩)] 79)
    have b2 := box_below (w1.alloc (.cells #[.pointer none, .int .i64 0, .pointer (some ⟨qs, 0, none⟩)] 79)) (.cells #[.pointer (some ⟨w1.heap.size, 0, none⟩)] 38)
    have n1 := new_heap w1 (.cells #[.pointer none, .int .i64 0, .pointer (some ⟨qs, 0, none⟩)] 79)
    have n2 := new_heap (w1.alloc (.cells #[.pointer none, .int .i64 0, .pointer (some ⟨qs, 0, none⟩)] 79)) (.cells #[.pointer (some ⟨w1.heap.size, 0, none⟩)] 38)
    have b12 := b1.trans (b2.mono b1.size)
    rw [World.size_alloc] at n2
    simp only [World.size_alloc] at hz k2
    refine ⟨(b2.block _ (by simp)).trans n1, n2, (b12.block _ (by omega)).trans ((k3.block _ (by simp; omega)).trans z2), (b12.block _ (by omega)).trans ((k3.block _ (by simp)).trans z3), k1.later b12, fun j e => ⟨by have := (k2 j e).1; omega, (k2 j e).2⟩, by simp, by omega, (z1.trans (k3.mono (by simp; omega))).trans (b12.mono (by omega))⟩)
  generalize hW2 : ((w1.alloc (.cells #[.pointer none, .int .i64 0, .pointer (some ⟨qs, 0, none⟩)] 79)).alloc (.cells #[.pointer (some ⟨w1.heap.size, 0, none⟩)] 38)) = W2
  have HX := Lib.hid (HW2.out W2 hW2.symm)
  clear hW2 HW2 c_0 c_1 c_2 c_3
  have HK := Lib.hid (show ∀ W, Below W2.heap.size W2 W → (W.cell? ⟨w.heap.size, 0, none⟩ = some (.int .i64 T) ∧ W.cell? ⟨w.heap.size, 1, none⟩ = some (.int .i64 N) ∧ W.cell? ⟨w.heap.size, 2, none⟩ = some (.int .i64 L) ∧ W.cell? ⟨w.heap.size, 3, none⟩ = some (.int .u64 G)) ∧ W.cell? ⟨w.heap.size + 1, 0, none⟩ = some (.int .u64 r) from fun W hb => by
    obtain ⟨-, -, z2, z3, -⟩ := HX.out
    have y2 := (only_below (fun _ => False) hb).heap z2 id
    have y3 := (only_below (fun _ => False) hb).heap z3 id
    exact ⟨⟨(cell_heap y2 0).1, (cell_heap y2 1).1, (cell_heap y2 2).1, (cell_heap y2 3).1⟩, (cell_heap y3 0).1⟩)
  have HONE := Lib.hid (show 1 = [((1 : Int), q, (0 : Int), (0 : Int), r)].length from rfl)
  have HMIL := Lib.hid (show 1 ≤ 1000000 by decide)
  have HD1 := Lib.hid (HK.out _ (kD (Below.refl W2.heap.size W2)))
  have HD2 := Lib.hid (HK.out _ (kD (kA (o := .cells #[.pointer none] 80) (Below.refl W2.heap.size W2))))
  go_cut [8] (fun s8 wx => ∃ k kk qd, s8 = .pointer (some ⟨k, 0, none⟩) ∧ Boxed wx k 80 (.pointer (some ⟨kk, 0, none⟩)) ∧ Scr wx kk qd kk [((1 : Int), q, (0 : Int), (0 : Int), r)] [] ∧ (W2.heap.size ≤ k ∧ W2.heap.size ≤ kk ∧ W2.heap.size ≤ qd ∧ k ≠ kk ∧ k ≠ qd) ∧ Below W2.heap.size W2 wx)
  case first =>
    go_region_held3 (fun W => (W.cell? ⟨w.heap.size, 0, none⟩ = some (.int .i64 T) ∧ W.cell? ⟨w.heap.size, 1, none⟩ = some (.int .i64 N) ∧ W.cell? ⟨w.heap.size, 2, none⟩ = some (.int .i64 L) ∧ W.cell? ⟨w.heap.size, 3, none⟩ = some (.int .u64 G)) ∧ W.cell? ⟨w.heap.size + 1, 0, none⟩ = some (.int .u64 r))
      ((first | (with_reducible exact HD1.out) | (with_reducible exact HD2.out) | (with_reducible assumption) | (with_reducible exact HK.out _ HP2.out) | (with_reducible exact HK.out _ (kA HP2.out)) | (with_reducible exact HK.out _ (kA (kA HP2.out))) | (with_reducible exact HK.out _ HP5.out.past) | (with_reducible exact HK.out _ (kA HP5.out.past)) | (with_reducible exact HK.out _ (kS HP5.out.past HJ5.out))))
      (first
        | (go_at_call 4; refine (HIX.out _).mono ?_; rintro e w' ⟨rfl, rfl⟩)
        | (go_at_call 12; refine (HTL.out _).mono ?_; rintro e w2 ⟨rfl, hb⟩; have hp2 : Below W2.heap.size W2 w2 := (by with_reducible exact pA hb); have HP2 := Lib.hid hp2; clear hb hp2)
        | (go_at_call 12; refine (HTL.out _).mono ?_; rintro e w2 ⟨rfl, hb⟩; have hp2 : Below W2.heap.size W2 w2 ∧ w2.heap[W2.heap.size]? = some (.cells #[.pointer none] 80) := (by with_reducible exact pB hb); have HP2 := Lib.hid hp2.1; have HZ2 := Lib.hid hp2.2; clear hb hp2)
        | (go_at_call 40; (with_reducible refine (Task.NewScript_any (row1 _ q r _) HONE.out HMIL.out).mono ?_); rintro e w5 ⟨kk, qd, rfl, h1, h2, h3, hb⟩; have HP5 := Lib.hid (look_made (kA HP2.out) h1 h2 h3 hb); have HZ5 := Lib.hid (there_made (there_a HZ2.out) (Nat.le_refl _) h2 h3 hb); have HJ5 := Lib.hid HZ5.out.2.1; have r0 := (cell_heap HZ5.out.1 0).1; have g0 := (cell_heap HZ5.out.1 0).2; clear h1 h2 h3 hb)
        | (go_at_call 40; (with_reducible refine (Task.NewScript_any (row3 _ q r _ _) HONE.out HMIL.out).mono ?_); rintro e w5 ⟨kk, qd, rfl, h1, h2, h3, hb⟩; have HP5 := Lib.hid (look_made (kA (kA HP2.out)) h1 h2 h3 hb); have HZ5 := Lib.hid (there_made (there_b) (HP2.out.size) h2 h3 hb); have HJ5 := Lib.hid HZ5.out.2.1; have r0 := (cell_heap HZ5.out.1 0).1; have g0 := (cell_heap HZ5.out.1 0).2; clear h1 h2 h3 hb)
        | (go_at_call 40; (with_reducible refine (Task.NewScript_any (row2 _ q r _ _) HONE.out HMIL.out).mono ?_); rintro e w5 ⟨kk, qd, rfl, h1, h2, h3, hb⟩; have HP5 := Lib.hid (look_made (kA (kA HP2.out)) h1 h2 h3 hb); have HZ5 := Lib.hid (there_made (there_c) (Nat.le_trans HP2.out.size (Nat.le_succ _)) h2 h3 hb); have HJ5 := Lib.hid HZ5.out.2.1; have r0 := (cell_heap HZ5.out.1 0).1; have g0 := (cell_heap HZ5.out.1 0).2; clear h1 h2 h3 hb)
        | (go_at_call 40; (with_reducible refine (Task.NewScript_any (row1 _ q r _) HONE.out HMIL.out).mono ?_); rintro e w5 ⟨kk, qd, rfl, h1, h2, h3, hb⟩; have HP5 := Lib.hid (look_made (kA HP2.out) h1 h2 h3 hb); clear h1 h2 h3 hb)
        | fail)
    all_goals go_wp2_with fail
    all_goals go_meet
    all_goals (case rel => first | (with_reducible exact rel_box HP5.out HZ5.out) | (with_reducible exact rel_new HP5.out))
  case rest =>
    obtain ⟨k, kk, qd, rfl, hbl, hscr, hk, hpast⟩ := hcut
    have HC := Lib.hid (And.intro hbl (And.intro hscr (And.intro hk hpast)))
    clear hbl hscr hk hpast HD1 HD2 HK HTL HIX HSE
    have hsf := fun a (fn : Fn) (x y : Array Value) m W => run_store Tryz.prog W a (.func fn x y) m rfl
    have hmf := Flows.hmf
    go_upto_region 4 with fail
    have HW4 := Lib.hid (show ∀ W4, W4 = wc.alloc (.cells #[.func (.func 41) #[] #[.pointer (some ⟨w1.heap.size + 1, 0, none⟩)]] 1) → HeadAt W4 w1.heap.size none 0 [.pointer (some ⟨qs, 0, none⟩)] 79 ∧ ScrI [((1 : Int), q, (0 : Int), (0 : Int), r)] kk W4 (fun j => j = kk ∨ j = qd) [] ∧ Caps W4 w1.heap.size kk T N L G r k (w1.heap.size + 1) w.heap.size (w.heap.size + 1) wc.heap.size ∧ Settles W4 qs SB T N L G r dl sq 0 StM.new ∧ Below w.heap.size w W4 ∧ W4.heap.size = wc.heap.size + 1 ∧ (W2.heap.size ≤ wc.heap.size ∧ k < wc.heap.size ∧ kk < wc.heap.size ∧ qd < wc.heap.size ∧ (W2.heap.size ≤ k ∧ W2.heap.size ≤ kk ∧ W2.heap.size ≤ qd ∧ k ≠ kk ∧ k ≠ qd)) from fun W4 e => by
      subst e
      obtain ⟨x1, x2, x3, x4, x5, x6, x7, x8, x9⟩ := HX.out
      obtain ⟨h1, h2, h3, h4⟩ := HC.out
      have hb := box_below wc (.cells #[.func (.func 41) #[] #[.pointer (some ⟨w1.heap.size + 1, 0, none⟩)]] 1)
      have hp := kA (o := .cells #[.func (.func 41) #[] #[.pointer (some ⟨w1.heap.size + 1, 0, none⟩)]] 1) h4
      have ha := h2.apart
      have hz := h4.size
      have hlk := h1.lt
      exact ⟨x1.later hp, ⟨qd, kk, h2.later hb, .inl rfl, .inr rfl, .inl rfl, fun j e => by simp; omega⟩, ⟨(only_below (fun _ => False) hb).heap h1 id, (only_below (fun _ => False) hp).heap x2 id, (only_below (fun _ => False) hp).heap x3 id, (only_below (fun _ => False) hp).heap x4 id, new_heap wc _⟩, x5.later hp, x9.trans (hp.mono x9.size), by simp, hz, hlk, by omega, by omega, h3⟩)
    generalize hW4 : wc.alloc (.cells #[.func (.func 41) #[] #[.pointer (some ⟨w1.heap.size + 1, 0, none⟩)]] 1) = W4
    have HY := Lib.hid (HW4.out W4 hW4.symm)
    clear hW4 HW4
    have HTO := Lib.hid (To_of (scr_task [((1 : Int), q, (0 : Int), (0 : Int), r)]).asks (fv := .func (.func 43) #[] #[.pointer (some ⟨k, 0, none⟩), .pointer (some ⟨w1.heap.size + 1, 0, none⟩), .pointer (some ⟨w.heap.size, 0, none⟩), .pointer (some ⟨w.heap.size + 1, 0, none⟩), .pointer (some ⟨wc.heap.size, 0, none⟩)]) (.inr ⟨_, _, _, rfl⟩) (HY.out.1.later (Below.refl _ _).drew) (scr_only HY.out.2.1 (only_below (fun _ => False) (Below.refl _ _).drew) (fun _ _ => id)) (x := (1, q, 0, 0, r)) rfl (fun e => by obtain ⟨-, -, -, -, -, -, x6, x7, -⟩ := HX.out; obtain ⟨-, -, -, -, -, -, y⟩ := HY.out; omega))
    have c7 := HY.out.2.2.1.self.cell
    have c8 := HY.out.2.2.1.look.cell
    go_region_with (go_at_call 42; refine HTO.out.mono ?_; rintro e w5 ⟨rfl, h1, h2, h3, h4⟩; have HE := Lib.hid (And.intro h1 (And.intro h2 (And.intro h3 ((only_below _ (Below.refl W4.heap.size W4).drew).trans h4)))); have d7 := HE.out.2.2.2.cell c7 (fun e => by obtain ⟨-, -, -, -, -, -, x6, x7, -⟩ := HX.out; obtain ⟨-, -, -, -, -, -, y⟩ := HY.out; simp only at e; omega); clear h1 h2 h3 h4)
    all_goals go_wp2
    all_goals go_ret
    all_goals
      obtain ⟨x1, x2, x3, x4, x5, x6, x7, x8, x9⟩ := HX.out
      obtain ⟨y1, y2, y3, y4, y5, y6, y7⟩ := HY.out
      obtain ⟨e1, e2, e3, e4⟩ := HE.out
      have hz5 := e4.size
      have hl2 := e2.lt
      have hq := HQ.out
      subst hq
      change HeadAt w5 w1.heap.size (some W4.heap.size) 0 _ _ at e1
      change PartAt w5 W4.heap.size _ _ _ at e2
      change W4.heap.size < w5.heap.size at hl2
      refine ⟨w1.heap.size, fun j => w.heap.size ≤ j ∧ j < w5.heap.size, rfl, ⟨trivial, HLR.out, ⟨by omega, by omega⟩, fun j e => e.2, some W4.heap.size, qs, e1, W4.heap.size, kk, fun j => j = kk ∨ j = qd, SB, k, w1.heap.size + 1, w.heap.size, w.heap.size + 1, wc.heap.size, rfl, e2, e3, y4.only e4 (fun j e z => ?_), y3.only e4 (fun j e z => ?_), ?_, by omega, fun e => by have := (x6 _ e).2; omega, fun j e z => by have := (x6 _ z).2; omega, fun j e => ?_⟩, fun j e => e, y5.trans (e4.below y5.size fun j e => by omega)⟩
      · have := x6 j e; omega
      · unfold CapB at e; omega
      · rintro j (e | e | e | e)
        · exact ⟨⟨by omega, by omega⟩, by omega⟩
        · have := x6 j e; exact ⟨⟨by omega, by omega⟩, by omega⟩
        · exact ⟨⟨by omega, by omega⟩, by omega⟩
        · unfold CapB at e; exact ⟨⟨by omega, by omega⟩, by omega⟩
      · unfold CapB at e; exact ⟨by omega, fun z => by have := x6 j z; omega, by omega⟩
end Go.Proofs.YtiejfhipkolmhaaGreatDoor.Fin
