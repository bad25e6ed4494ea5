import Derived.Test.YtafjokjmogadnaaGreatDoorCollectFreesAllP11
import Derived.Test.YtafjokjmogadnaaGreatDoorCollectFreesAllP13
import Derived.Test.YtafjokjmogadnaaGreatDoorCollectFreesAllP21
import Derived.Test.YtafjokjmogadnaaGreatDoorCollectFreesAllP23
import Derived.Deep.RegionWith
import Derived.Test.YtafjokjmogadnaaGreatDoorCollectFreesAllP4
/- Package collect (layer 17), its parts: a giver and a script as a flow's task; how it goes on to the next slot. -/
namespace Go.Proofs.YtafjokjmogadnaaGreatDoor.Collect
set_option maxRecDepth 20000
open Go.ChangeShapes Go.WideShapes Go.RowKit CM DM PM GiM CoM SM LM Lay Limbo Go.Proofs.YtafjokjmogadnaaGreatDoor.Flows Go.Proofs.YtafjokjmogadnaaGreatDoor.Give
open Go.Proofs.YtafjokjmogadnaaGreatDoor.Task (Scr encD)
set_option linter.unusedVariables false
set_option linter.unusedSimpArgs false

/-- A method of the collector in block p, as a value. -/
abbrev meth (fn : FuncId) (p : Nat) : Value := .func (.func fn) #[.pointer (some ⟨p, 0, none⟩)] #[]
/-- A collector's cells behind its flow. -/
abbrev restV (T N L G : Int) (l k : Nat) (A : Option Addr) (n c m : Nat) : List Value := [.int .i64 T, .int .i64 N, .int .i64 L, .int .u64 G, .pointer (some ⟨l, 0, none⟩), .pointer (some ⟨k, 0, none⟩), .slice A n c, .int .i64 m]
theorem rest_cells {w : World} {p d l k n c m : Nat} {nv : Option Nat} {T N L G : Int} {A : Option Addr} {t : TypeId} (h : HeadAt w p nv d (restV T N L G l k A n c m) t) :
    w.cell? ⟨p, 2, none⟩ = some (.int .i64 T) ∧ w.cell? ⟨p, 3, none⟩ = some (.int .i64 N) ∧ w.cell? ⟨p, 4, none⟩ = some (.int .i64 L) ∧ w.cell? ⟨p, 5, none⟩ = some (.int .u64 G) ∧ w.cell? ⟨p, 6, none⟩ = some (.pointer (some ⟨l, 0, none⟩)) ∧ w.cell? ⟨p, 7, none⟩ = some (.pointer (some ⟨k, 0, none⟩)) ∧
    w.cell? ⟨p, 8, none⟩ = some (.slice A n c) ∧ w.cell? ⟨p, 9, none⟩ = some (.int .i64 (m : Int)) ∧ w.frozen? ⟨p, 8, none⟩ = false ∧ w.frozen? ⟨p, 9, none⟩ = false :=
  ⟨(cell_heap h 2).1, (cell_heap h 3).1, (cell_heap h 4).1, (cell_heap h 5).1, (cell_heap h 6).1, (cell_heap h 7).1, (cell_heap h 8).1, (cell_heap h 9).1, (cell_heap h 8).2, (cell_heap h 9).2⟩
theorem rest_ripe {w : World} {p d l k n c m : Nat} {nv : Option Nat} {T N L G : Int} {A : Option Addr} {t : TypeId} (h : HeadAt w p nv d (restV T N L G l k A n c m) t) (A' : Option Addr) (n' c' : Nat) : HeadAt (w.setCell ⟨p, 8, none⟩ (.slice A' n' c')) p nv d (restV T N L G l k A' n' c' m) t := by
  have := set_heap (j := 8) h (.slice A' n' c')
  simpa [HeadAt] using this
theorem rest_count {w : World} {p d l k n c m : Nat} {nv : Option Nat} {T N L G : Int} {A : Option Addr} {t : TypeId} (h : HeadAt w p nv d (restV T N L G l k A n c m) t) (m' : Nat) : HeadAt (w.setCell ⟨p, 9, none⟩ (.int .i64 (m' : Int))) p nv d (restV T N L G l k A n c m') t := by
  have := set_heap (j := 9) h (.int .i64 (m' : Int))
  simpa [HeadAt] using this

/-- A giver as a task. -/
def GiveI (T N L G r : Int) (q : Nat) (w : World) (S : Nat → Prop) (s : GiM.St) : Prop := Gives w q S T N L G (slotR r) (wordI (genR r)) s ∧ ∀ k, S k → k < w.heap.size
theorem give_next (q n : Nat) (w : World) : (method (n + 1) 120 (.pointer (some ⟨q, 0, none⟩)) "Next").run Tryz.prog w = .ok (144, .pointer (some ⟨q, 0, none⟩)) w := by kernel_rfl
theorem give_tell (q n : Nat) (w : World) : (method (n + 1) 120 (.pointer (some ⟨q, 0, none⟩)) "Tell").run Tryz.prog w = .ok (145, .pointer (some ⟨q, 0, none⟩)) w := by kernel_rfl
theorem give_enter (args : Array Value) (w : World) : (callFunc 144 args).run Tryz.prog w = .ok (.enter 144 args) w := by kernel_rfl
theorem tell_enter (args : Array Value) (w : World) : (callFunc 145 args).run Tryz.prog w = .ok (.enter 145 args) w := by kernel_rfl
theorem goOn_enter (args : Array Value) (w : World) : (callFunc 47 args).run Tryz.prog w = .ok (.enter 47 args) w := by kernel_rfl
theorem give_task (T N L G r : Int) : IsTask 120 144 145 (GiveI T N L G r) (givA T L r) giveT where
  mnext := give_next
  mtell := give_tell
  enext := give_enter
  etell := tell_enter
  only := fun h ho hn => ⟨h.1.only ho hn, fun k e => Nat.lt_of_lt_of_le (h.2 k e) ho.size⟩
  lt := fun h => h.2
  next := fun {q w S s} h => by
    refine (Give.Next_any h.1).mono ?_
    rintro e w' ⟨rfl, hb⟩
    exact ⟨rfl, ⟨h.1.only (only_below (fun _ => False) hb) (fun _ _ => id), fun k e => Nat.lt_of_lt_of_le (h.2 k e) hb.size⟩, hb⟩
  tell := fun {q w S s v} h hv => by
    refine (Give.Tell_any h.1 hv).mono ?_
    rintro e w' ⟨rfl, h1, ho⟩
    exact ⟨rfl, S, ⟨h1, fun k e => Nat.lt_of_lt_of_le (h.2 k e) ho.size⟩, ho, fun k e => .inl e⟩

/-- What 'l[1:]' is. -/
theorem cut_one {A : Option Addr} {n c : Nat} (ha : 1 ≤ n) (hc : n ≤ c) : ∃ A2 : Option Addr, (∀ W : World, (Instr.slice 25 (.slice A n c) (some (.int .i64 1)) none none).run Tryz.prog W = .ok (.slice A2 (n - 1) (c - 1)) W) ∧
    (∀ W : World, (Instr.sliceAt 25 (.slice A n c) (some (.int .i64 1)) none none).run Tryz.prog W = .ok (.slice A2 (n - 1) (c - 1)) W) ∧ (∀ a, A2 = some a → ∃ b, A = some b ∧ a.block = b.block) ∧
    ∀ (W : World) (B : Nat) (x : R2) (l : List R2), l.length + 1 = n → Row W B A (flat encR (x :: l)) → Row W B A2 (flat encR l) := by
  have hz := Tryz.sizeOf63
  have h1 : ∀ W : World, (Instr.slice 25 (.slice A n c) (some (.int .i64 1)) none none).run Tryz.prog W = .ok (.slice (if c = 1 then A else A.map (·.add 2)) (n - 1) (c - 1)) W := fun W => by
    rw [run_slice_l (ht := Tryz.underlying25) (h0 := by omega) (h1 := by omega)]
    simp [Program.elem, Tryz.underlying25, hz, sliced, Result.andThen]
  refine ⟨if c = 1 then A else A.map (·.add 2), h1, fun W => ?_, fun a e => ?_, fun W B x l hl h hn => ?_⟩
  · rw [run_sliceAt_slice (h := Tryz.underlying25)]
    exact h1 W
  · split at e
    · exact ⟨a, e, rfl⟩
    · cases A with
      | none => cases e
      | some b => cases e; exact ⟨b, rfl, rfl⟩
  · obtain ⟨b, o, rfl, hb, hcell⟩ := h (fun z => absurd (congrArg List.length z) (by rw [flat_length encR_length]; simp))
    have hca : ¬ c = 1 := fun e => by
      have : l = [] := List.length_eq_zero_iff.1 (by omega)
      subst this
      exact hn rfl
    refine ⟨b, o + 2, by rw [if_neg hca]; simp [Addr.add], hb, fun j v hj => ?_⟩
    have h2 := hcell (2 + j) v (by
      show (encR x ++ flat encR l)[2 + j]? = some v
      rw [List.getElem?_append_right (by rw [encR_length]; omega), encR_length, Nat.add_sub_cancel_left]
      exact hj)
    rwa [← Nat.add_assoc] at h2

theorem give_any (T N L G r : Int) (h : 0 ≤ r ∧ r < 18446744073709551616) (w : World) : Calls Tryz.prog 87 #[.agg #[.int .i64 T, .int .i64 N, .int .i64 L, .int .u64 G], .int .u64 r] w fun e w' => ∃ q SG, e = .returned (.pointer (some ⟨q, 0, none⟩)) ∧ Gives w' q SG T N L G (slotR r) (wordI (genR r)) (GiM.init (genR r)) ∧ (∀ k, SG k → w.heap.size ≤ k ∧ k < w'.heap.size) ∧ Below w.heap.size w w' := Give.Give_any T N L G r h.1 h.2 w
theorem to_giver {w w2 : World} {p d l k n c m q : Nat} {nv : Option Nat} {T N L G r : Int} {A : Option Addr} {SG : Nat → Prop} (hF : HeadAt w p nv d (restV T N L G l k A n c m) 70) (hb : Below w.heap.size w w2) (hG : Gives w2 q SG T N L G (slotR r) (wordI (genR r)) (GiM.init (genR r))) (hS : ∀ k, SG k → w.heap.size ≤ k ∧ k < w2.heap.size) :
    Calls Tryz.prog 25 #[.pointer (some ⟨p, 0, none⟩), itf 120 q, meth 47 p] w2 fun e w' => e = .returned (.tuple #[]) ∧ HeadAt w' p (some w2.heap.size) d (restV T N L G l k A n c m) 70 ∧ PartAt w' w2.heap.size (itf 120 q) (meth 47 p) false ∧
      GiveI T N L G r q w' SG (GiM.init (genR r)) ∧ Only (fun k => k = p) w w' := by
  have hlt := hF.lt
  refine (To_more (give_task T N L G r) (hF.later hb) ⟨hG, fun k e => (hS k e).2⟩ (givA_init T L r) (fun e => by have := (hS _ e).1; omega)).mono ?_
  rintro e w' ⟨rfl, h1, h2, h3, ho⟩
  exact ⟨rfl, h1, h2, h3, (only_below _ hb).more ho fun k e => e.elim .inl fun e => .inr (hS k e).1⟩
/-- The flow was given the next giver. -/
structure GoneOn (w : World) (p d l k m : Nat) (T N L G : Int) (A : Option Addr) (x : R2) (xs : List R2) (A2 : Option Addr) (c2 pb q : Nat) (SG : Nat → Prop) (w' : World) : Prop where
  head : HeadAt w' p (some pb) d (restV T N L G l k A2 xs.length c2 m) 70
  part : PartAt w' pb (itf 120 q) (meth 47 p) false
  task : GiveI T N L G x.1 q w' SG (GiM.init (genR x.1))
  new : ∀ k, k = pb ∨ SG k → w.heap.size ≤ k
  not : ¬ SG pb
  row : Row w' w'.heap.size A2 (flat encR xs)
  cap : xs.length ≤ c2
  blk : ∀ a, A2 = some a → ∃ b, A = some b ∧ a.block = b.block
  only : Only (fun k => k = p) w w'
set_option maxHeartbeats 4000000 in
theorem goOn_some {w : World} {p d l k n c m : Nat} {nv : Option Nat} {T N L G : Int} {A : Option Addr} {x : R2} {xs : List R2} (hF : HeadAt w p nv d (restV T N L G l k A n c m) 70) (hR : Row w w.heap.size A (flat encR (x :: xs))) (hn : n = xs.length + 1) (hc : n ≤ c) (hx : 0 ≤ x.1 ∧ x.1 < 18446744073709551616) (hA : ∀ a, A = some a → a.block ≠ p) :
    Calls Tryz.prog 47 #[.pointer (some ⟨p, 0, none⟩)] w fun e w' => e = .returned (.tuple #[]) ∧ ∃ A2 c2 pb q SG, GoneOn w p d l k m T N L G A x xs A2 c2 pb q SG w' := by
  obtain ⟨A2, k1, k2, k3, k4⟩ := cut_one (A := A) (n := n) (c := c) (by omega) hc
  have HROW := Lib.hid (k4 w w.heap.size x xs hn.symm hR)
  have HK := Lib.hid (And.intro k3 hA)
  obtain ⟨c2, c3, c4, c5, -, -, c8, -, f8, -⟩ := rest_cells hF
  obtain ⟨b, o, rfl, hbl, hcell⟩ := Open.two_at (i := 0) hR (by simp)
  have hcr := (hcell 0 x rfl).1
  simp at hcr
  have hbp : ¬ b = p := hA _ rfl
  have hpb : ¬ p = b := fun e => hbp e.symm
  have hp := hF.lt
  obtain ⟨W, hW⟩ : ∃ W, W = w.setCell ⟨p, 8, none⟩ (.slice A2 (n - 1) (c - 1)) := ⟨_, rfl⟩
  have hF3 := rest_ripe hF A2 (n - 1) (c - 1)
  rw [show n - 1 = xs.length by omega] at hF3 k1 k2 hW
  obtain ⟨q2, q3, q4, q5, -, -, -, -, -, -⟩ := rest_cells hF3
  have HGV := Lib.hid (fun W : World => give_any T N L G x.1 hx W)
  have hn0 : ((n : Int) == 0) = false := by simp; omega
  have hnn : 0 < n := by omega
  have HF3 := Lib.hid hF3
  have hO : Only (fun k => k = p) w (w.setCell ⟨p, 8, none⟩ (.slice A2 xs.length (c - 1))) := only_setCell (R := fun k => k = p) w (p := ⟨p, 8, none⟩) rfl _
  have HO := Lib.hid hO
  have HN := Lib.hid hn
  have HC := Lib.hid hc
  have hf := Flows.hmf
  clear hF hR hn hc hx hA hF3 hO k3 k4 hcell hW
  go_enter Tryz.func47, Tryz.ntmps47
  go_wp2
  go_region_with (first
      | (go_at_call 87; refine (HGV.out _).mono ?_; rintro e w2 ⟨q, SG, rfl, hg, hs, hb⟩; have HB := Lib.hid ((Below.refl _ (w.setCell ⟨p, 8, none⟩ (.slice A2 xs.length (c - 1)))).drew.trans hb); have HG := Lib.hid (show Gives w2 q SG T N L G (slotR x.1) (wordI (genR x.1)) (GiM.init (genR x.1)) ∧ ∀ k, SG k → (w.setCell ⟨p, 8, none⟩ (.slice A2 xs.length (c - 1))).heap.size ≤ k ∧ k < w2.heap.size from And.intro hg hs); have HTO := Lib.hid (to_giver (r := x.1) HF3.out HB.out HG.out.1 HG.out.2); clear hg hs hb)
      | (go_at_call 25; refine HTO.out.mono ?_; rintro e w3 ⟨rfl, t1, t2, t3, t4⟩; have HT := Lib.hid (And.intro t1 (And.intro t2 (And.intro t3 t4))); clear t1 t2 t3 t4))
  all_goals go_wp2
  all_goals refine bodyPost_end (results_none rfl _ _ _) rfl ?_
  all_goals
    obtain ⟨t1, t2, t3, t4⟩ := HT.out
    have ho := HO.out.trans t4
    have hsz : (w.setCell ⟨p, 8, none⟩ (.slice A2 xs.length (c - 1))).heap.size = w.heap.size := by simp [World.setCell]
    have hb2 := HB.out.size
    have hk := HK.out.1
    exact ⟨rfl, A2, c - 1, w2.heap.size, q, SG, t1, t2, t3, fun k e => e.elim (fun e => by omega) (fun e => by have := (HG.out.2 k e).1; simp at this; omega), fun e => Nat.lt_irrefl _ (HG.out.2 _ e).2,
      ho.row HROW.out (fun _ a e => by obtain ⟨b', e1, e2⟩ := hk a e; cases e1; rw [e2]; exact hbp), by have := HN.out; have := HC.out; omega, hk, ho⟩
theorem goOn_none {w : World} {p d l k n c m : Nat} {nv : Option Nat} {T N L G : Int} {A : Option Addr} (hF : HeadAt w p nv d (restV T N L G l k A n c m) 70) (hn : n = 0) : Calls Tryz.prog 47 #[.pointer (some ⟨p, 0, none⟩)] w fun e w' => e = .returned (.tuple #[]) ∧ w = w' := by
  obtain ⟨-, -, -, -, -, -, c8, -, -, -⟩ := rest_cells hF
  have h0 : ((n : Int) == 0) = true := by simp; exact hn
  clear hF hn
  go_enter Tryz.func47, Tryz.ntmps47
  go_wp2
  exact bodyPost_ret (v := .tuple #[]) (results_none rfl _ _ _) rfl ⟨rfl, rfl⟩
end Go.Proofs.YtafjokjmogadnaaGreatDoor.Collect

/- Package collect (layer 17): what is behind the look at the epoch. -/
namespace Go.Proofs.YtafjokjmogadnaaGreatDoor.Collect
set_option maxRecDepth 20000
open Go.ChangeShapes Go.WideShapes Go.RowKit CM DM PM GiM CoM SM LM Lay Limbo Go.Proofs.YtafjokjmogadnaaGreatDoor.Flows Go.Proofs.YtafjokjmogadnaaGreatDoor.Give
open Go.Proofs.YtafjokjmogadnaaGreatDoor.Task (Scr encD)
set_option linter.unusedVariables false
set_option linter.unusedSimpArgs false

/-- A script as a task. -/
def askS (ds : List D) (fs : List Int) : Option D := ds[fs.length]?
def tellS (ds : List D) (fs : List Int) (v : Int) : List Int := if fs.length < ds.length then fs ++ [v] else fs
def ScrI (ds : List D) (q : Nat) (w : World) (S : Nat → Prop) (fs : List Int) : Prop := ∃ qd g, Scr w q qd g ds fs ∧ S q ∧ S qd ∧ S g ∧ ∀ k, S k → k < w.heap.size
theorem scr_next (q n : Nat) (w : World) : (method (n + 1) 64 (.pointer (some ⟨q, 0, none⟩)) "Next").run Tryz.prog w = .ok (142, .pointer (some ⟨q, 0, none⟩)) w := by kernel_rfl
theorem scr_tell (q n : Nat) (w : World) : (method (n + 1) 64 (.pointer (some ⟨q, 0, none⟩)) "Tell").run Tryz.prog w = .ok (143, .pointer (some ⟨q, 0, none⟩)) w := by kernel_rfl
theorem next_enterS (args : Array Value) (w : World) : (callFunc 142 args).run Tryz.prog w = .ok (.enter 142 args) w := by kernel_rfl
theorem tell_enterS (args : Array Value) (w : World) : (callFunc 143 args).run Tryz.prog w = .ok (.enter 143 args) w := by kernel_rfl
theorem begin_enter (args : Array Value) (w : World) : (callFunc 26 args).run Tryz.prog w = .ok (.enter 26 args) w := by kernel_rfl
theorem scr_only {ds : List D} {q : Nat} {w w' : World} {S R : Nat → Prop} {fs : List Int} (h : ScrI ds q w S fs) (ho : Only R w w') (hn : ∀ k, S k → ¬ R k) : ScrI ds q w' S fs := by
  obtain ⟨qd, g, h1, h2, h3, h4, h5⟩ := h
  exact ⟨qd, g, h1.only ho (hn _ h2) (hn _ h3) (hn _ h4), h2, h3, h4, fun k e => Nat.lt_of_lt_of_le (h5 k e) ho.size⟩
theorem scr_task (ds : List D) : IsTask 64 142 143 (ScrI ds) (askS ds) (tellS ds) where
  mnext := scr_next
  mtell := scr_tell
  enext := next_enterS
  etell := tell_enterS
  only := scr_only
  lt := fun h => by
    obtain ⟨qd, g, h1, h2, h3, h4, h5⟩ := h
    exact h5
  next := fun {q w S fs} h => by
    have hi := h
    obtain ⟨qd, g, h1, h2, h3, h4, h5⟩ := h
    unfold askS
    cases hx : ds[fs.length]? with
    | some x =>
      refine (Task.Next_more h1 hx).mono ?_
      rintro e w' ⟨rfl, hb⟩
      exact ⟨rfl, scr_only hi (only_below (fun _ => False) hb) (fun _ _ => id), hb⟩
    | none =>
      have hl := List.getElem?_eq_none_iff.1 hx
      refine (Task.Next_done h1 (Nat.le_antisymm h1.less hl)).mono ?_
      rintro e w' ⟨rfl, hb⟩
      exact ⟨rfl, scr_only hi (only_below (fun _ => False) hb) (fun _ _ => id), hb⟩
  tell := fun {q w S fs v} h hv => by
    have hi := h
    obtain ⟨qd, g, h1, h2, h3, h4, h5⟩ := h
    unfold tellS
    by_cases hl : fs.length < ds.length
    · rw [if_pos hl]
      refine (Task.Tell_more h1 hl v).mono ?_
      rintro e w' ⟨g', rfl, k1, k2, k3⟩
      have hg := k1.apart.2.2
      exact ⟨rfl, fun k => S k ∨ k = g', ⟨qd, g', k1, .inl h2, .inl h3, .inr rfl, fun k e => e.elim (fun e => Nat.lt_of_lt_of_le (h5 k e) k3.size) (fun e => e ▸ hg)⟩, k3.wide (fun k e => .inl (e.elim (fun e => e ▸ h2) (fun e => e ▸ h4))), fun k e => e.elim .inl (fun e => by subst e; exact k2.elim (fun e => .inl (e ▸ h4)) (fun e => .inr ⟨e, hg⟩))⟩
    · rw [if_neg hl]
      refine (Task.Tell_done h1 (Nat.le_antisymm h1.less (Nat.not_lt.1 hl)) v).mono ?_
      rintro e w' ⟨rfl, hb⟩
      exact ⟨rfl, S, scr_only hi (only_below (fun _ => False) hb) (fun _ _ => id), only_below _ hb, fun k e => .inl e⟩

/-- The flow goes on with the next slot: SLo are the limbo's (and the row's) blocks ahead, SLn those behind. -/
structure Went (SLo : Nat → Prop) (w1 : World) (p d l k m : Nat) (T N L G : Int) (LLn : Ls) (x : R2) (xs : List R2) (w2 : World) (A2 : Option Addr) (c2 pb q : Nat) (SG SLn : Nat → Prop) : Prop where
  head : HeadAt w2 p (some pb) d (restV T N L G l k A2 xs.length c2 m) 70
  part : PartAt w2 pb (itf 120 q) (meth 47 p) false
  task : GiveI T N L G x.1 q w2 SG (GiM.init (genR x.1))
  new : ∀ j, j = pb ∨ SG j → w1.heap.size ≤ j
  not : ¬ SG pb
  row : Row w2 w2.heap.size A2 (flat encR xs)
  cap : xs.length ≤ c2
  lim : ∃ S0, Lim w2 l S0 LLn ∧ ∀ j, S0 j → SLn j
  rowin : ∀ a, A2 = some a → SLn a.block
  apart : ∀ j, j = p ∨ j = pb ∨ SG j → ¬ SLn j
  grow : ∀ j, SLn j → SLo j ∨ w1.heap.size ≤ j
  lt : ∀ j, SLn j → j < w2.heap.size
  only : Only (fun j => j = p ∨ SLo j) w1 w2
/-- The flow is left without a task. -/
structure Halts (SLo : Nat → Prop) (w1 : World) (p d l k m : Nat) (T N L G : Int) (LLn : Ls) (w2 : World) (A2 : Option Addr) (c2 : Nat) (SLn : Nat → Prop) : Prop where
  head : HeadAt w2 p none d (restV T N L G l k A2 0 c2 m) 70
  lim : ∃ S0, Lim w2 l S0 LLn ∧ ∀ j, S0 j → SLn j
  apart : ¬ SLn p
  grow : ∀ j, SLn j → SLo j ∨ w1.heap.size ≤ j
  lt : ∀ j, SLn j → j < w2.heap.size
  only : Only (fun j => j = p ∨ SLo j) w1 w2
/-- .. of goOn. -/
theorem went_goOn {SLo S0 : Nat → Prop} {w1 w2 : World} {p d l k m : Nat} {T N L G : Int} {LL : Ls} {x : R2} {xs : List R2} {A A2 : Option Addr} {c2 pb q : Nat} {SG : Nat → Prop} (h : GoneOn w1 p d l k m T N L G A x xs A2 c2 pb q SG w2) (hL : Lim w1 l S0 LL) (h0 : ∀ j, S0 j → SLo j) (hp : ¬ SLo p) (hlt : ∀ j, SLo j → j < w1.heap.size) (hA : ∀ a, A = some a → SLo a.block) :
    Went SLo w1 p d l k m T N L G LL x xs w2 A2 c2 pb q SG SLo :=
  ⟨h.head, h.part, h.task, h.new, h.not, h.row, h.cap, ⟨S0, hL.only h.only (fun j e z => hp (e ▸ h0 j z)), h0⟩, fun a e => by obtain ⟨b, e1, e2⟩ := h.blk a e; exact e2 ▸ hA b e1, fun j e z => e.elim (fun e => hp (e ▸ z)) (fun e => by have h1 := h.new j e; have h2 := hlt j z; omega), fun j e => .inl e, fun j e => Nat.lt_of_lt_of_le (hlt j e) h.only.size, h.only.wide fun j e => .inl (.inl e)⟩
/-- What begin comes to. -/
def Begun (S0 : Nat → Prop) (w : World) (p d l k : Nat) (T N L G : Int) (LL : Ls) (f : Int) (R : List R2) (e : Ending) (w' : World) : Prop :=
  e = .returned (.tuple #[]) ∧ ∃ SLn, (∀ x xs, R = x :: xs → ∃ A2 c2 pb q SG, Went S0 w p d l k (xs.length + 1) T N L G (amidL LL f 3) x xs w' A2 c2 pb q SG SLn) ∧
    (R = [] → ∃ A2 c2, Halts S0 w p d l k 0 T N L G (amidL LL f 3) w' A2 c2 SLn)
theorem begin_any {S0 : Nat → Prop} {w : World} {p d l k n c m qd g : Nat} {ds : List D} {nv : Option Nat} {T N L G f : Int} {A : Option Addr} {LL : Ls} (hF : HeadAt w p nv d (restV T N L G l k A n c m) 70) (hS : Scr w k qd g ds [f]) (hL : Lim w l S0 LL) (hp : ¬ S0 p) (hm : lenL LL ≤ 1000000) (hf : 0 ≤ f ∧ f < 18446744073709551616)
    (hx : ∀ x ∈ allL LL, 0 ≤ x.1 ∧ x.1 < 18446744073709551616) (hnv : nv = none) {R : List R2} (hRR : (allL LL).filter (ripeB f) = R) : Calls Tryz.prog 26 #[.pointer (some ⟨p, 0, none⟩)] w (Begun S0 w p d l k T N L G LL f R) := by
  subst hnv
  have HFD := Lib.hid (Task.Found_n (m := 1) rfl hS)
  have HL := Lib.hid (And.intro hL (And.intro hp hm))
  have HF := Lib.hid hF
  have HV := Lib.hid hf
  have HX := Lib.hid hx
  obtain ⟨-, -, -, -, -, c7, -, -, -, -⟩ := rest_cells hF
  have HRR := Lib.hid hRR
  have HMEM := Lib.hid (show ∀ x ∈ R, 0 ≤ x.1 ∧ x.1 < 18446744073709551616 from fun x e => HX.out x (by rw [← HRR.out] at e; exact (List.mem_filter.1 e).1))
  clear hF hS hL hp hm hf hx hRR
  go_enter Tryz.func26, Tryz.ntmps26
  go_wp2_with fail
  refine HFD.out.mono ?_
  rintro e w1 ⟨A1, c1, rfl, hr1, hn1, hb1⟩
  obtain ⟨b, o, rfl, hbl, hc⟩ := hr1 (by simp [flat, Ints.encZ])
  have hcf := hc 0 (.int .u64 f) rfl
  simp at hcf
  have HF1 := Lib.hid (HF.out.later hb1)
  have HB1 := Lib.hid hb1
  obtain ⟨-, -, -, -, c6, -, -, -, -, -⟩ := rest_cells HF1.out
  clear hr1 hn1 hb1 hc c7 hbl
  go_wp2_with fail
  refine (Ripe_more (HL.out.1.later HB1.out) HL.out.2.2 HV.out.1 HV.out.2).mono ?_
  rintro e w2 ⟨A2, n2, c2, S2, rfl, hn2, hR2, hA2, hL2, hS2, ho2, hc2, hD2⟩
  have hF2 := HF1.out.only ho2 HL.out.2.1
  have hF3 := rest_ripe hF2 A2 n2 c2
  have hF4 := rest_count hF3 n2
  have hsz := HB1.out.size
  have ho3 : Only (fun j => j = p ∨ S0 j) w ((w2.setCell ⟨p, 8, none⟩ (.slice A2 n2 c2)).setCell ⟨p, 9, none⟩ (.int .i64 (n2 : Int))) := set_only (set_only ((only_below _ HB1.out).trans (ho2.wide fun j e => .inl (.inr e))) p 8 (.inl (.inl rfl)) _) p 9 (.inl (.inl rfl)) _
  have hlp := HF.out.lt
  have hpp : Only (fun j => j = p) w2 ((w2.setCell ⟨p, 8, none⟩ (.slice A2 n2 c2)).setCell ⟨p, 9, none⟩ (.int .i64 (n2 : Int))) := set_only (set_only (Only.refl (fun j => j = p) w2) p 8 (.inl rfl) _) p 9 (.inl rfl) _
  have hnp : ¬ S2 p := fun e => (hS2 _ e).elim HL.out.2.1 (fun e => by omega)
  have hap : ∀ a, A2 = some a → a.block ≠ p := fun a e => by have := (hA2 a e).1; omega
  have hL4 := hL2.only hpp (fun j e z => hnp (e ▸ z))
  have hR4 := hpp.row hR2 (fun _ a e => hap a e)
  have hlt4 : ∀ j, S2 j ∨ (∃ a, A2 = some a ∧ j = a.block) → j < ((w2.setCell ⟨p, 8, none⟩ (.slice A2 n2 c2)).setCell ⟨p, 9, none⟩ (.int .i64 (n2 : Int))).heap.size := fun j e => Nat.lt_of_lt_of_le (e.elim (hL2.lt j) (fun ⟨a, e1, e2⟩ => e2 ▸ (hA2 a e1).2)) hpp.size
  have HGR := Lib.hid (show ∀ j, (S2 j ∨ ∃ a, A2 = some a ∧ j = a.block) → S0 j ∨ w.heap.size ≤ j from fun j e => e.elim (fun e => (hS2 j e).imp id (fun z => Nat.le_trans hsz z)) (fun ⟨a, e1, e2⟩ => .inr (e2 ▸ Nat.le_trans hsz (hA2 a e1).1)))
  obtain ⟨-, -, -, -, -, -, d8, -, f8, -⟩ := rest_cells hF2
  obtain ⟨-, -, -, -, -, -, c8, c9, -, f9⟩ := rest_cells hF3
  rw [HRR.out] at hn2 hR2 hR4
  have HL4 := Lib.hid hL4
  have HR4 := Lib.hid hR4
  have HF4 := Lib.hid hF4
  have HO3 := Lib.hid ho3
  have HLT4 := Lib.hid hlt4
  have HNP := Lib.hid (And.intro hnp hap)
  have HC2 := Lib.hid (And.intro hn2 hc2)
  clear hn2 hR2 hA2 hL2 hS2 ho2 hc2 hD2 hF2 hF3 hF4 ho3 hpp hnp hap hL4 hR4 hlt4 hcf c6 hsz
  cases R with
  | nil =>
    have HN0 := Lib.hid (show n2 = 0 from HC2.out.1)
    go_wp2_with fail
    refine (goOn_none HF4.out HN0.out).mono ?_
    rintro e w5 ⟨rfl, rfl⟩
    go_wp2
    refine bodyPost_end (results_none rfl _ _ _) rfl ?_
    obtain rfl : n2 = 0 := HN0.out
    exact ⟨rfl, fun j => S2 j ∨ ∃ a, A2 = some a ∧ j = a.block, (fun x xs h => by cases h), fun _ => ⟨A2, c2, HF4.out, ⟨S2, HL4.out, fun j e => .inl e⟩, fun e => e.elim HNP.out.1 (fun ⟨a, e1, e2⟩ => HNP.out.2 a e1 e2.symm), HGR.out, HLT4.out, HO3.out⟩⟩
  | cons x xs =>
    have HN3 := Lib.hid (show n2 = xs.length + 1 from HC2.out.1)
    go_wp2_with fail
    refine (goOn_some HF4.out HR4.out HN3.out HC2.out.2 (HMEM.out x (by simp)) HNP.out.2).mono ?_
    rintro e w5 ⟨rfl, A3, c3, pb, q, SG, hG⟩
    have HG := Lib.hid hG
    clear hG
    go_wp2
    refine bodyPost_end (results_none rfl _ _ _) rfl ?_
    refine ⟨rfl, fun j => S2 j ∨ ∃ a, A2 = some a ∧ j = a.block, (fun y ys h => ?_), fun h => by cases h⟩
    cases h
    have h := went_goOn (SLo := fun j => S2 j ∨ ∃ a, A2 = some a ∧ j = a.block) HG.out HL4.out (fun j e => .inl e) (fun e => e.elim HNP.out.1 (fun ⟨a, e1, e2⟩ => HNP.out.2 a e1 e2.symm)) HLT4.out (fun a e => .inr ⟨a, e, rfl⟩)
    have hs3 := HO3.out.size
    exact ⟨A3, c3, pb, q, SG, HN3.out ▸ h.head, h.part, h.task, fun j e => Nat.le_trans hs3 (h.new j e), h.not, h.row, h.cap, h.lim, h.rowin, h.apart, fun j e => (h.grow j e).elim (HGR.out j) (fun e => .inr (Nat.le_trans hs3 e)), h.lt, HO3.out.trans (HG.out.only.wide fun j e => .inl (.inl e))⟩
end Go.Proofs.YtafjokjmogadnaaGreatDoor.Collect

/- Package collect (layer 17), held to plain arithmetic: what a collector asks for, what it becomes, how many slots were ripe, what is in the limbo; all else in memory stays as it was. -/
namespace Go.Proofs.YtafjokjmogadnaaGreatDoor.Collect
set_option maxRecDepth 20000
open Go.ChangeShapes Go.WideShapes Go.RowKit CM DM PM GiM CoM SM LM Lay Limbo Go.Proofs.YtafjokjmogadnaaGreatDoor.Flows Go.Proofs.YtafjokjmogadnaaGreatDoor.Give
open Go.Proofs.YtafjokjmogadnaaGreatDoor.Task (Scr encD res5 set5)
open Go.Proofs.YtafjokjmogadnaaGreatDoor.Plan (box4 box_below box4_later)
set_option linter.unusedVariables false
set_option linter.unusedSimpArgs false

/-- A limbo such as there can be. -/
def Sane (LL : Ls) : Prop := lenL LL ≤ 1000000 ∧ ∀ x ∈ allL LL, 0 ≤ x.1 ∧ x.1 < 18446744073709551616
/-- Where the flow of a collector in block p stands: S are its own blocks that turn, SL those of the limbo and of the row of slots that are left. -/
def Stage (w : World) (p k : Nat) (S SL : Nat → Prop) (T N L G : Int) (A : Option Addr) (n c : Nat) : CoM.St → Option Nat → Prop
  | .look, nv => ∃ pb SS, nv = some pb ∧ PartAt w pb (itf 64 k) (meth 26 p) false ∧ ScrI [((1 : Int), (0 : Int), (0 : Int), (0 : Int), (0 : Int))] k w SS [] ∧ (∀ j, SS j → S j) ∧ S pb ∧ p ≠ pb ∧ ¬ SS p ∧ ¬ SS pb
  | .at _ none, nv => nv = none
  | .at _ (some (r, s, rs)), nv => ∃ pb q SG xs, nv = some pb ∧ PartAt w pb (itf 120 q) (meth 47 p) false ∧ GiveI T N L G r q w SG s ∧ (∀ j, SG j → S j) ∧ S pb ∧ p ≠ pb ∧ ¬ SG p ∧ ¬ SG pb ∧ xs.map Prod.fst = rs ∧ n = xs.length ∧ n ≤ c ∧ Row w w.heap.size A (flat encR xs) ∧ (∀ a, A = some a → SL a.block) ∧ ∀ x ∈ xs, 0 ≤ x.1 ∧ x.1 < 18446744073709551616
structure Core (w : World) (p l : Nat) (S SL : Nat → Prop) (T N L G : Int) (LL : Ls) (s : CoM.St) (nv : Option Nat) (k : Nat) (A : Option Addr) (n c : Nat) : Prop where
  head : HeadAt w p nv 0 (restV T N L G l k A n c (cntS LL s)) 70
  stage : Stage w p k S SL T N L G A n c s nv
  mem : S p
  lim : ∃ S0, Lim w l S0 (leftS LL s) ∧ ∀ j, S0 j → SL j
  apart : ∀ j, S j → ¬ SL j
  ok : Ok T L s
  lt : ∀ j, S j → j < w.heap.size
  ltL : ∀ j, SL j → j < w.heap.size
def Colls (w : World) (p l : Nat) (S SL : Nat → Prop) (T N L G : Int) (LL : Ls) (s : CoM.St) : Prop := Sane LL ∧ ∃ nv k A n c, Core w p l S SL T N L G LL s nv k A n c
theorem Stage.only {w w' : World} {p k : Nat} {S SL R : Nat → Prop} {T N L G : Int} {A : Option Addr} {n c : Nat} {s : CoM.St} {nv : Option Nat} (h : Stage w p k S SL T N L G A n c s nv) (ho : Only R w w') (hS : ∀ j, S j → ¬ R j) (hL : ∀ j, SL j → ¬ R j) : Stage w' p k S SL T N L G A n c s nv := by
  cases s with
  | look =>
    obtain ⟨pb, SS, h1, h2, h3, h4, h5, h6, h7, h8⟩ := h
    exact ⟨pb, SS, h1, h2.only ho (hS _ h5), scr_only h3 ho (fun j e => hS j (h4 j e)), h4, h5, h6, h7, h8⟩
  | «at» c0 o =>
    cases o with
    | none => exact h
    | some z =>
      obtain ⟨r, s, rs⟩ := z
      obtain ⟨pb, q, SG, xs, h1, h2, h3, h4, h5, h6, h7, h8, h9, h10, h11, h12, h13, h14⟩ := h
      exact ⟨pb, q, SG, xs, h1, h2.only ho (hS _ h5), (give_task T N L G r).only h3 ho (fun j e => hS j (h4 j e)), h4, h5, h6, h7, h8, h9, h10, h11, ho.row h12 (fun _ a e => hL _ (h13 a e)), h13, h14⟩
theorem Colls.only {w w' : World} {p l : Nat} {S SL R : Nat → Prop} {T N L G : Int} {LL : Ls} {s : CoM.St} (h : Colls w p l S SL T N L G LL s) (ho : Only R w w') (hS : ∀ j, S j → ¬ R j) (hL : ∀ j, SL j → ¬ R j) : Colls w' p l S SL T N L G LL s := by
  obtain ⟨hs, nv, k, A, n, c, h1, h2, h3, ⟨S0, h4, h5⟩, h6, h7, h8, h9⟩ := h
  exact ⟨hs, nv, k, A, n, c, h1.only ho (hS p h3), h2.only ho hS hL, h3, ⟨S0, h4.only ho (fun j e z => hL j (h5 j z) e), h5⟩, h6, h7, fun j e => Nat.lt_of_lt_of_le (h8 j e) ho.size, fun j e => Nat.lt_of_lt_of_le (h9 j e) ho.size⟩
theorem Colls.later {w w' : World} {p l : Nat} {S SL : Nat → Prop} {T N L G : Int} {LL : Ls} {s : CoM.St} (h : Colls w p l S SL T N L G LL s) (hb : Below w.heap.size w w') : Colls w' p l S SL T N L G LL s := h.only (only_below (fun _ => False) hb) (fun _ _ => id) (fun _ _ => id)
theorem Colls.lim {w : World} {p l : Nat} {S SL : Nat → Prop} {T N L G : Int} {LL : Ls} {s : CoM.St} (h : Colls w p l S SL T N L G LL s) : ∃ S0, Lim w l S0 (leftS LL s) ∧ ∀ j, S0 j → SL j := by
  obtain ⟨hs, nv, k, A, n, c, h⟩ := h
  exact h.lim
theorem Flow_next {w : World} {p l : Nat} {S SL : Nat → Prop} {T N L G : Int} {LL : Ls} {s : CoM.St} (h : Colls w p l S SL T N L G LL s) : Calls Tryz.prog 27 #[.pointer (some ⟨p, 0, none⟩)] w (Pool.Told w (colA T L s)) := by
  obtain ⟨hs, nv, k, A, n, c, hF, hst, hp, -, -, hok, -, -⟩ := h
  cases s with
  | look =>
    obtain ⟨pb, SS, rfl, h2, h3, h4, h5, h6, h7, h8⟩ := hst
    refine (FNext_more (scr_task [((1 : Int), (0 : Int), (0 : Int), (0 : Int), (0 : Int))]) hF h2 h3 (x := (1, 0, 0, 0, 0)) rfl ⟨h6, h7, h8⟩).mono ?_
    rintro e w' ⟨rfl, -, -, -, hb⟩
    exact ⟨rfl, hb⟩
  | «at» c0 o =>
    cases o with
    | none =>
      obtain rfl : nv = none := hst
      refine (FNext_none hF).mono ?_
      rintro e w' ⟨rfl, hb⟩
      exact ⟨rfl, hb⟩
    | some z =>
      obtain ⟨r, s, rs⟩ := z
      obtain ⟨pb, q, SG, xs, rfl, h2, h3, h4, h5, h6, h7, h8, -⟩ := hst
      obtain ⟨x, hx⟩ := Option.isSome_iff_exists.1 hok.2
      refine (FNext_more (give_task T N L G r) hF h2 h3 hx ⟨h6, h7, h8⟩).mono ?_
      rintro e w' ⟨rfl, -, -, -, hb⟩
      show Pool.Told w (givA T L r s) _ _
      rw [hx]
      exact ⟨rfl, hb⟩
theorem Next_any {w : World} {p l : Nat} {S SL : Nat → Prop} {T N L G : Int} {LL : Ls} {s : CoM.St} (h : Colls w p l S SL T N L G LL s) : Calls Tryz.prog 8 #[.pointer (some ⟨p, 0, none⟩)] w (Pool.Told w (colA T L s)) := by
  have HN := Lib.hid (Flow_next (h.later (box_below w (.cells #[.int .i64 0, .int .i64 0, .int .u64 0, .int .u64 0, .int .u64 0] 34))))
  unfold Pool.Told at HN ⊢
  generalize (colA T L s).isSome = bo at HN ⊢
  generalize (colA T L s).getD (0, 0, 0, 0, 0) = d at HN ⊢
  clear h
  go_enter Tryz.func8, Tryz.ntmps8
  go_wp2_with fail
  refine HN.out.mono ?_
  rintro e w1 ⟨rfl, hb⟩
  obtain ⟨⟨r0, r1, r2, r3, r4⟩, g0, g1, g2, g3, g4⟩ := res5 hb
  obtain ⟨⟨s0, s1, s2, s3, s4⟩, hB⟩ := set5 hb (.int .i64 d.1) (.int .i64 d.2.1) (.int .u64 d.2.2.1) (.int .u64 d.2.2.2.1) (.int .u64 d.2.2.2.2)
  have HB := Lib.hid hB
  clear hB hb
  go_wp2
  exact bodyPost_ret (v := .tuple #[.agg #[.int .i64 d.1, .int .i64 d.2.1, .int .u64 d.2.2.1, .int .u64 d.2.2.2.1, .int .u64 d.2.2.2.2], .bool bo]) (by simp [results, Tryz.results8, go_sem, s0, s1, s2, s3, s4]) rfl ⟨rfl, HB.out⟩
theorem Count_any {w : World} {p l : Nat} {S SL : Nat → Prop} {T N L G : Int} {LL : Ls} {s : CoM.St} (h : Colls w p l S SL T N L G LL s) : Calls Tryz.prog 13 #[.pointer (some ⟨p, 0, none⟩)] w fun e w' => e = .returned (.int .i64 (cntS LL s : Int)) ∧ w = w' := by
  obtain ⟨hs, nv, k, A, n, c, hF, -⟩ := h
  obtain ⟨-, -, -, -, -, -, -, c9, -, -⟩ := rest_cells hF
  generalize cntS LL s = m at c9 ⊢
  clear hF
  go_enter Tryz.func13, Tryz.ntmps13
  go_wp2
  go_ret
  exact ⟨rfl, rfl⟩
end Go.Proofs.YtafjokjmogadnaaGreatDoor.Collect

/- Package collect (layer 17): what a collector becomes when it is told a word; how it is made. -/
namespace Go.Proofs.YtafjokjmogadnaaGreatDoor.Collect
set_option maxRecDepth 20000
open Go.ChangeShapes Go.WideShapes Go.RowKit CM DM PM GiM CoM SM LM Lay Limbo Go.Proofs.YtafjokjmogadnaaGreatDoor.Flows Go.Proofs.YtafjokjmogadnaaGreatDoor.Give
open Go.Proofs.YtafjokjmogadnaaGreatDoor.Task (Scr encD res5 set5)
open Go.Proofs.YtafjokjmogadnaaGreatDoor.Plan (box4 box_below box4_later)
set_option linter.unusedVariables false
set_option linter.unusedSimpArgs false

/-- What it has become, from the world w on; what is new lies behind n. -/
def Became (n : Nat) (S SL : Nat → Prop) (p l : Nat) (T N L G : Int) (LL : Ls) (s : CoM.St) (w w' : World) : Prop :=
  ∃ S' SL', Colls w' p l S' SL' T N L G LL s ∧ Only (fun j => S j ∨ SL j) w w' ∧ (∀ j, S' j → S j ∨ n ≤ j) ∧ ∀ j, SL' j → SL j ∨ n ≤ j
section
variable {S SL SLo SLn SS : Nat → Prop} {p l k m n pb : Nat} {T N L G f : Int} {LL : Ls} {A2 : Option Addr} {c2 : Nat} {w w1 w2 w' : World}
theorem went_became {x : R2} {xs : List R2} {pb' q : Nat} {SG : Nat → Prop} (hW : Went SLo w1 p 1 l k m T N L G (leftS LL (.at f (nxt (x.1 :: xs.map Prod.fst)))) x xs w2 A2 c2 pb' q SG SLn) (hs : Sane LL) (hm : m = cntS LL (.at f (nxt (x.1 :: xs.map Prod.fst)))) (hn : n ≤ w.heap.size)
    (hp : S p) (hlt : ∀ j, S j → j < w.heap.size) (hltL : ∀ j, SL j → j < w.heap.size) (ho : ∀ j, SLo j → SL j) (ho1 : Only (fun j => j = p) w w1) (hsz : w.heap.size < w1.heap.size)
    (hF : HeadAt w' p (some pb') 0 (restV T N L G l k A2 xs.length c2 m) 70) (hP : PartAt w' pb' (itf 120 q) (meth 47 p) false) (hI : GiveI T N L G x.1 q w' SG (GiM.init (genR x.1)))
    (ho3 : Only (fun j => j = p ∨ j = pb' ∨ SG j ∨ (w.heap.size ≤ j ∧ j < w1.heap.size)) w2 w') (hx : ∀ y ∈ xs, 0 ≤ y.1 ∧ y.1 < 18446744073709551616) : Became n S SL p l T N L G LL (.at f (nxt (x.1 :: xs.map Prod.fst))) w w' := by
  have hlp := hlt p hp
  have hnp := hW.new pb' (.inl rfl)
  have hSn : ∀ j, SLn j → ¬ (j = p ∨ j = pb' ∨ SG j ∨ (w.heap.size ≤ j ∧ j < w1.heap.size)) := fun j e z => by
    rcases z with z | z | z | z
    · exact hW.apart j (.inl z) e
    · exact hW.apart j (.inr (.inl z)) e
    · exact hW.apart j (.inr (.inr z)) e
    · rcases hW.grow j e with h | h
      · have := hltL j (ho j h); omega
      · omega
  have hsz2 := hW.only.size
  refine ⟨fun j => j = p ∨ j = pb' ∨ SG j, SLn, ⟨hs, some pb', k, A2, xs.length, c2, ?_, ?_, .inl rfl, ?_, ?_, ?_, ?_, ?_⟩, ?_, ?_, ?_⟩
  · rw [← hm]; exact hF
  · exact ⟨pb', q, SG, xs, rfl, hP, hI, fun j e => .inr (.inr e), .inr (.inl rfl), by omega, fun e => by have := hW.new p (.inr e); omega, hW.not, rfl, rfl, hW.cap, ho3.row hW.row (fun _ a e => hSn _ (hW.rowin a e)), hW.rowin, hx⟩
  · obtain ⟨S0, h1, h2⟩ := hW.lim
    exact ⟨S0, h1.only ho3 (fun j e z => hSn j (h2 j z) e), h2⟩
  · exact fun j e => hW.apart j e
  · exact ok_nxt T L f (x.1 :: xs.map Prod.fst)
  · rintro j (rfl | rfl | e)
    · exact hF.lt
    · exact hP.lt
    · exact hI.2 j e
  · exact fun j e => Nat.lt_of_lt_of_le (hW.lt j e) ho3.size
  · refine ((ho1.wide (R' := fun j => S j ∨ SL j) fun j e => .inl (.inl (e ▸ hp))).more hW.only (fun j e => e.elim (fun e => .inl (.inl (e ▸ hp))) (fun e => .inl (.inr (ho j e))))).more ho3 (fun j e => ?_)
    rcases e with e | e | e | e
    · exact .inl (.inl (e ▸ hp))
    · exact .inr (by omega)
    · exact .inr (by have := hW.new j (.inr e); omega)
    · exact .inr e.1
  · rintro j (rfl | rfl | e)
    · exact .inl hp
    · exact .inr (by omega)
    · exact .inr (by have := hW.new j (.inr e); omega)
  · intro j e
    exact (hW.grow j e).imp (ho j) (fun h => by omega)
theorem halts_became (hW : Halts SLo w1 p 1 l k m T N L G (leftS LL (.at f none)) w2 A2 c2 SLn) (hs : Sane LL) (hm : m = cntS LL (.at f none)) (hn : n ≤ w.heap.size)
    (hp : S p) (hlt : ∀ j, S j → j < w.heap.size) (hltL : ∀ j, SL j → j < w.heap.size) (ho : ∀ j, SLo j → SL j) (ho1 : Only (fun j => j = p) w w1) (hsz : w.heap.size < w1.heap.size)
    (hF : HeadAt w' p none 0 (restV T N L G l k A2 0 c2 m) 70) (ho3 : Only (fun j => j = p ∨ (w.heap.size ≤ j ∧ j < w1.heap.size)) w2 w') : Became n S SL p l T N L G LL (.at f none) w w' := by
  have hSn : ∀ j, SLn j → ¬ (j = p ∨ (w.heap.size ≤ j ∧ j < w1.heap.size)) := fun j e z => by
    rcases z with z | z
    · exact hW.apart (z ▸ e)
    · rcases hW.grow j e with h | h
      · have := hltL j (ho j h); omega
      · omega
  refine ⟨fun j => j = p, SLn, ⟨hs, none, k, A2, 0, c2, ?_, rfl, rfl, ?_, ?_, True.intro, ?_, ?_⟩, ?_, ?_, ?_⟩
  · rw [← hm]; exact hF
  · obtain ⟨S0, h1, h2⟩ := hW.lim
    exact ⟨S0, h1.only ho3 (fun j e z => hSn j (h2 j z) e), h2⟩
  · exact fun j e z => hW.apart (e ▸ z)
  · rintro j rfl
    exact hF.lt
  · exact fun j e => Nat.lt_of_lt_of_le (hW.lt j e) ho3.size
  · exact ((ho1.wide (R' := fun j => S j ∨ SL j) fun j e => .inl (.inl (e ▸ hp))).more hW.only (fun j e => e.elim (fun e => .inl (.inl (e ▸ hp))) (fun e => .inl (.inr (ho j e))))).more ho3 (fun j e => e.elim (fun e => .inl (.inl (e ▸ hp))) (fun e => .inr e.1))
  · rintro j rfl
    exact .inl hp
  · intro j e
    exact (hW.grow j e).imp (ho j) (fun h => by omega)
end
section
variable {S SL SL0 SS : Nat → Prop} {p l k m n c pb q g : Nat} {T N L G f r : Int} {LL : Ls} {A : Option Addr} {w : World}
/-- The flow is asked, its look being done. -/
theorem next_look (hF : HeadAt w p (some pb) 0 (restV T N L G l k A n c m) 70) (hP : PartAt w pb (itf 64 k) (meth 26 p) false) (hI : ScrI [((1 : Int), (0 : Int), (0 : Int), (0 : Int), (0 : Int))] k w SS [f]) (hf : p ≠ pb ∧ ¬ SS p ∧ ¬ SS pb) (hv : 0 ≤ f ∧ f < 18446744073709551616) (hL : Lim w l SL0 LL) (h0 : ∀ j, SL0 j → SL j) (hs : Sane LL)
    (hp : S p) (hap : ∀ j, S j → ¬ SL j) (hSS : ∀ j, SS j → S j) (hlt : ∀ j, S j → j < w.heap.size) (hltL : ∀ j, SL j → j < w.heap.size) {nn : Nat} (hnn : nn ≤ w.heap.size) :
    Calls Tryz.prog 27 #[.pointer (some ⟨p, 0, none⟩)] w fun e w' => (∃ o, e = .returned (ansV o)) ∧ Became nn S SL p l T N L G LL (.at f (nxt (ripes LL f))) w w' := by
  have hlp := hlt p hp
  have hB : ∀ w1, HeadAt w1 p none (0 + 1) (restV T N L G l k A n c m) 70 → Only (fun j => j = p) w w1 → w.heap.size < w1.heap.size → ∀ R, (allL LL).filter (ripeB f) = R → Calls Tryz.prog 26 (#[.pointer (some ⟨p, 0, none⟩)] ++ #[]) w1 (Begun SL0 w1 p 1 l k T N L G LL f R) := fun w1 h1 h2 h3 R hR => by
    obtain ⟨qd, g, k1, k2, k3, k4, k5⟩ := hI
    exact begin_any h1 (k1.only h2 (fun e => hf.2.1 (e ▸ k2)) (fun e => hf.2.1 (e ▸ k3)) (fun e => hf.2.1 (e ▸ k4))) (hL.only h2 (fun j e z => hap p hp (h0 p (e ▸ z)))) (fun e => hap p hp (h0 p e)) hs.1 hv hs.2 rfl hR
  cases hR : (allL LL).filter (ripeB f) with
  | nil =>
    have hr : ripes LL f = [] := by unfold ripes; rw [hR]; rfl
    rw [hr]
    refine (FNext_stop (scr_task [((1 : Int), (0 : Int), (0 : Int), (0 : Int), (0 : Int))]) (R := fun j => j = p ∨ SL0 j) (G := fun w1 w2 rest' => ∃ A2 c2 SLn, rest' = restV T N L G l k A2 0 c2 0 ∧ Halts SL0 w1 p 1 l k 0 T N L G (amidL LL f 3) w2 A2 c2 SLn) hF (by decide) hP hI rfl hf begin_enter
      (fun j e => e.elim (fun e => e ▸ hlp) (hL.lt j)) (fun w1 w2 rest' h => by obtain ⟨A2, c2, SLn, rfl, h⟩ := h; exact ⟨h.head, h.only⟩) (fun w1 h1 h2 h3 => ?_)).mono ?_
    · refine (hB w1 h1 h2 h3 [] hR).mono ?_
      rintro e w2 ⟨rfl, SLn, -, h⟩
      obtain ⟨A2, c2, h⟩ := h rfl
      exact ⟨rfl, _, A2, c2, SLn, rfl, h⟩
    · rintro e w' ⟨rfl, w1, w2, rest', k1, k2, k3, ⟨A2, c2, SLn, rfl, k4⟩, k5, k6⟩
      exact ⟨⟨_, rfl⟩, halts_became (f := f) k4 hs (by show 0 = ((allL LL).filter (ripeB f)).length; rw [hR]; rfl) hnn hp hlt hltL h0 k2 k3 k5 k6⟩
  | cons x xs =>
    have hr : ripes LL f = x.1 :: xs.map Prod.fst := by unfold ripes; rw [hR]; rfl
    have hxs : ∀ y ∈ xs, 0 ≤ y.1 ∧ y.1 < 18446744073709551616 := fun y hy => hs.2 y (by have h : y ∈ (allL LL).filter (ripeB f) := by rw [hR]; simp [hy]
                                                                                        exact (List.mem_filter.1 h).1)
    rw [hr]
    refine (FNext_pass (scr_task [((1 : Int), (0 : Int), (0 : Int), (0 : Int), (0 : Int))]) (give_task T N L G x.1) (R := fun j => j = p ∨ SL0 j) (fv2 := meth 47 p) (s2 := GiM.init (genR x.1)) (G := fun w1 w2 rest' pb' q' SG => ∃ A2 c2 SLn, rest' = restV T N L G l k A2 xs.length c2 (xs.length + 1) ∧ Went SL0 w1 p 1 l k (xs.length + 1) T N L G (amidL LL f 3) x xs w2 A2 c2 pb' q' SG SLn) hF (by decide) hP hI rfl hf begin_enter
      (fun j e => e.elim (fun e => e ▸ hlp) (hL.lt j)) (fun w1 w2 rest' pb' q' SG h => by obtain ⟨A2, c2, SLn, rfl, h⟩ := h; exact ⟨h.head, h.only, h.part, h.task, h.new _ (.inl rfl), fun j e => h.new j (.inr e), h.not⟩) (givA_init T L x.1) (fun w1 h1 h2 h3 => ?_)).mono ?_
    · refine (hB w1 h1 h2 h3 (x :: xs) hR).mono ?_
      rintro e w2 ⟨rfl, SLn, h, -⟩
      obtain ⟨A2, c2, pb', q', SG, h⟩ := h x xs rfl
      exact ⟨rfl, _, pb', q', SG, A2, c2, SLn, rfl, h⟩
    · rintro e w' ⟨rfl, w1, w2, rest', pb', q', SG, k1, k2, k3, ⟨A2, c2, SLn, rfl, k4⟩, k5, k6, k7, k8⟩
      exact ⟨⟨_, rfl⟩, went_became (f := f) k4 hs (by show xs.length + 1 = ((allL LL).filter (ripeB f)).length; rw [hR]; rfl) hnn hp hlt hltL h0 k2 k3 k5 k6 k7 k8 hxs⟩
/-- .. its giver being done. -/
theorem next_given {s : GiM.St} {xs : List R2} {c0 : Int} (hF : HeadAt w p (some pb) 0 (restV T N L G l k A n c m) 70) (hP : PartAt w pb (itf 120 q) (meth 47 p) false) (hI : GiveI T N L G r q w SS s) (hd : givA T L r s = none) (hf : p ≠ pb ∧ ¬ SS p ∧ ¬ SS pb) (hL : Lim w l SL0 (amidL LL c0 3)) (h0 : ∀ j, SL0 j → SL j) (hs : Sane LL) (hm : m = ((allL LL).filter (ripeB c0)).length)
    (hn : n = xs.length) (hc : n ≤ c) (hR : Row w w.heap.size A (flat encR xs)) (hA : ∀ a, A = some a → SL a.block) (hx : ∀ y ∈ xs, 0 ≤ y.1 ∧ y.1 < 18446744073709551616)
    (hp : S p) (hap : ∀ j, S j → ¬ SL j) (hlt : ∀ j, S j → j < w.heap.size) (hltL : ∀ j, SL j → j < w.heap.size) {nn : Nat} (hnn : nn ≤ w.heap.size) :
    Calls Tryz.prog 27 #[.pointer (some ⟨p, 0, none⟩)] w fun e w' => (∃ o, e = .returned (ansV o)) ∧ Became nn S SL p l T N L G LL (.at c0 (nxt (xs.map Prod.fst))) w w' := by
  have hlp := hlt p hp
  have hpA : ∀ a, A = some a → a.block ≠ p := fun a e z => hap p hp (z ▸ hA a e)
  cases xs with
  | nil =>
    refine (FNext_stop (give_task T N L G r) (R := fun j => j = p ∨ SL j) (G := fun w1 w2 rest' => rest' = restV T N L G l k A 0 c m ∧ Halts SL w1 p 1 l k m T N L G (amidL LL c0 3) w2 A c SL) hF (by decide) hP hI hd hf goOn_enter
      (fun j e => e.elim (fun e => e ▸ hlp) (hltL j)) (fun w1 w2 rest' h => by obtain ⟨rfl, h⟩ := h; exact ⟨h.head, h.only⟩) (fun w1 h1 h2 h3 => ?_)).mono ?_
    · refine (goOn_none h1 hn).mono ?_
      rintro e w2 ⟨rfl, rfl⟩
      obtain rfl : n = 0 := hn
      exact ⟨rfl, _, rfl, h1, ⟨SL0, hL.only h2 (fun j e z => hap p hp (h0 p (e ▸ z))), h0⟩, hap p hp, fun j e => .inl e, fun j e => Nat.lt_of_lt_of_le (hltL j e) h2.size, Only.refl _ _⟩
    · rintro e w' ⟨rfl, w1, w2, rest', k1, k2, k3, ⟨rfl, k4⟩, k5, k6⟩
      exact ⟨⟨_, rfl⟩, halts_became (f := c0) k4 hs hm hnn hp hlt hltL (fun j e => e) k2 k3 k5 k6⟩
  | cons x xs =>
    have hx1 := hx x (by simp)
    have hxs : ∀ y ∈ xs, 0 ≤ y.1 ∧ y.1 < 18446744073709551616 := fun y hy => hx y (by simp [hy])
    refine (FNext_pass (give_task T N L G r) (give_task T N L G x.1) (R := fun j => j = p ∨ SL j) (fv2 := meth 47 p) (s2 := GiM.init (genR x.1)) (G := fun w1 w2 rest' pb' q' SG => ∃ A2 c2, rest' = restV T N L G l k A2 xs.length c2 m ∧ Went SL w1 p 1 l k m T N L G (amidL LL c0 3) x xs w2 A2 c2 pb' q' SG SL) hF (by decide) hP hI hd hf goOn_enter
      (fun j e => e.elim (fun e => e ▸ hlp) (hltL j)) (fun w1 w2 rest' pb' q' SG h => by obtain ⟨A2, c2, rfl, h⟩ := h; exact ⟨h.head, h.only, h.part, h.task, h.new _ (.inl rfl), fun j e => h.new j (.inr e), h.not⟩) (givA_init T L x.1) (fun w1 h1 h2 h3 => ?_)).mono ?_
    · refine (goOn_some h1 (h2.row hR (fun _ a e => hpA a e)) (show n = xs.length + 1 from hn) hc hx1 hpA).mono ?_
      rintro e w2 ⟨rfl, A2, c2, pb', q', SG, h⟩
      exact ⟨rfl, _, pb', q', SG, A2, c2, rfl, went_goOn h (hL.only h2 (fun j e z => hap p hp (h0 p (e ▸ z)))) h0 (hap p hp) (fun j e => Nat.lt_of_lt_of_le (hltL j e) h2.size) hA⟩
    · rintro e w' ⟨rfl, w1, w2, rest', pb', q', SG, k1, k2, k3, ⟨A2, c2, rfl, k4⟩, k5, k6, k7, k8⟩
      exact ⟨⟨_, rfl⟩, went_became (f := c0) k4 hs hm hnn hp hlt hltL (fun j e => e) k2 k3 k5 k6 k7 k8 hxs⟩
end
theorem Flow_tell {w : World} {p l : Nat} {S SL : Nat → Prop} {T N L G f : Int} {LL : Ls} {s : CoM.St} (h : Colls w p l S SL T N L G LL s) (hv : 0 ≤ f ∧ f < 18446744073709551616) : Calls Tryz.prog 28 #[.pointer (some ⟨p, 0, none⟩), .int .u64 f] w fun e w' => e = .returned (.tuple #[]) ∧ Became w.heap.size S SL p l T N L G LL (colT T L LL s f) w w' := by
  have hcl := h
  obtain ⟨hs, nv, k, A, n, c, hF, hst, hp, ⟨SL0, hL, h0⟩, hap, hok, hlt, hltL⟩ := h
  cases s with
  | look =>
    obtain ⟨pb, SS, rfl, h2, h3, h4, h5, h6, h7, h8⟩ := hst
    refine (FTell_any (scr_task [((1 : Int), (0 : Int), (0 : Int), (0 : Int), (0 : Int))]) hF h2 h3 (x := (1, 0, 0, 0, 0)) rfl ⟨h6, h7, h8⟩ hv (Q := fun w2 w' => Became w.heap.size S SL p l T N L G LL (.at f (nxt (ripes LL f))) w w') (fun w2 S' hM hn => ?_)).mono ?_
    · have ho : Only S w w2 := hM.only.wide fun j e => .inl (e.elim (fun e => e ▸ h5) (h4 j))
      have hown : ∀ j, S' j → S j ∨ (w.heap.size ≤ j ∧ j < w2.heap.size) := fun j e => (hM.own j e).imp (h4 j) id
      refine (next_look (S := fun j => S j ∨ (w.heap.size ≤ j ∧ j < w2.heap.size)) (SL := SL) (nn := w.heap.size) hM.head hM.part hM.task ⟨h6, hn⟩ hv (hL.only ho (fun j e z => hap j e (h0 j z))) h0 hs (.inl hp) (fun j e z => e.elim (fun e => hap j e z) (fun e => by have := hltL j z; omega)) hown (fun j e => e.elim (fun e => Nat.lt_of_lt_of_le (hlt j e) ho.size) (fun e => e.2)) (fun j e => Nat.lt_of_lt_of_le (hltL j e) ho.size) ho.size).mono ?_
      rintro e w' ⟨he, S1, SL1, k1, k2, k3, k4⟩
      exact ⟨he, S1, SL1, k1, (ho.wide fun j e => .inl (.inl e)).more k2 (fun j e => e.elim (fun e => e.elim (fun e => .inl (.inl e)) (fun e => .inr e.1)) (fun e => .inl (.inr e))), fun j e => (k3 j e).elim (fun e => e.imp id (fun e => e.1)) .inr, k4⟩
    · rintro e w' ⟨rfl, w2, S', -, hQ⟩
      exact ⟨rfl, hQ⟩
  | «at» c0 o =>
    cases o with
    | none =>
      obtain rfl : nv = none := hst
      refine (FTell_none hF).mono ?_
      rintro e w' ⟨rfl, hb⟩
      exact ⟨rfl, S, SL, hcl.later hb, only_below _ hb, fun j e => .inl e, fun j e => .inl e⟩
    | some z =>
      obtain ⟨r, s, rs⟩ := z
      obtain ⟨pb, q, SG, xs, rfl, h2, h3, h4, h5, h6, h7, h8, h9, h10, h11, h12, h13, h14⟩ := hst
      obtain ⟨x, hx⟩ := Option.isSome_iff_exists.1 hok.2
      subst h9
      refine (FTell_any (give_task T N L G r) hF h2 h3 hx ⟨h6, h7, h8⟩ hv (Q := fun w2 w' => Became w.heap.size S SL p l T N L G LL (colT T L LL (.at c0 (some (r, s, xs.map Prod.fst))) f) w w') (fun w2 S' hM hn => ?_)).mono ?_
      · have ho : Only S w w2 := hM.only.wide fun j e => .inl (e.elim (fun e => e ▸ h5) (h4 j))
        have hown : ∀ j, S' j → S j ∨ (w.heap.size ≤ j ∧ j < w2.heap.size) := fun j e => (hM.own j e).imp (h4 j) id
        have hL2 := hL.only ho (fun j e z => hap j e (h0 j z))
        have hR2 := ho.row h12 (fun _ a e z => hap _ z (h13 a e))
        have hap2 : ∀ j, S j ∨ (w.heap.size ≤ j ∧ j < w2.heap.size) → ¬ SL j := fun j e z => e.elim (fun e => hap j e z) (fun e => by have := hltL j z; omega)
        have hlt2 : ∀ j, S j ∨ (w.heap.size ≤ j ∧ j < w2.heap.size) → j < w2.heap.size := fun j e => e.elim (fun e => Nat.lt_of_lt_of_le (hlt j e) ho.size) (fun e => e.2)
        have hltL2 : ∀ j, SL j → j < w2.heap.size := fun j e => Nat.lt_of_lt_of_le (hltL j e) ho.size
        cases hd : givA T L r (giveT s f) with
        | some y =>
          have e1 : colT T L LL (.at c0 (some (r, s, xs.map Prod.fst))) f = .at c0 (some (r, giveT s f, xs.map Prod.fst)) := by
            show (if _ then _ else _) = _
            rw [hd, Option.isSome_some, if_pos rfl]
          rw [e1]
          refine (FNext_more (give_task T N L G r) hM.head hM.part hM.task hd ⟨h6, hn⟩).mono ?_
          rintro e w' ⟨rfl, -, k1, k2, hb⟩
          refine ⟨⟨_, rfl⟩, fun j => S j ∨ (w.heap.size ≤ j ∧ j < w2.heap.size), SL, ⟨hs, some pb, k, A, n, c, hM.head.later hb, ⟨pb, q, S', xs, rfl, k1, k2, hown, .inl h5, h6, hn.1, hn.2, rfl, h10, h11, hR2.later hb, h13, h14⟩, .inl hp, ⟨SL0, hL2.later hb, h0⟩, hap2, ⟨giveT_ok hok.1 hv, by rw [hd]; rfl⟩, fun j e => Nat.lt_of_lt_of_le (hlt2 j e) hb.size, fun j e => Nat.lt_of_lt_of_le (hltL2 j e) hb.size⟩, (ho.wide fun j e => .inl (.inl e)).then_below hb, fun j e => e.imp id (fun e => e.1), fun j e => .inl e⟩
        | none =>
          have e1 : colT T L LL (.at c0 (some (r, s, xs.map Prod.fst))) f = .at c0 (nxt (xs.map Prod.fst)) := by
            show (if _ then _ else _) = _
            rw [hd, Option.isSome_none, if_neg (by simp)]
          rw [e1]
          refine (next_given (S := fun j => S j ∨ (w.heap.size ≤ j ∧ j < w2.heap.size)) (SL := SL) (nn := w.heap.size) hM.head hM.part hM.task hd ⟨h6, hn⟩ hL2 h0 hs rfl h10 h11 hR2 h13 h14 (.inl hp) hap2 hlt2 hltL2 ho.size).mono ?_
          rintro e w' ⟨he, S1, SL1, k1, k2, k3, k4⟩
          exact ⟨he, S1, SL1, k1, (ho.wide fun j e => .inl (.inl e)).more k2 (fun j e => e.elim (fun e => e.elim (fun e => .inl (.inl e)) (fun e => .inr e.1)) (fun e => .inl (.inr e))), fun j e => (k3 j e).elim (fun e => e.imp id (fun e => e.1)) .inr, k4⟩
      · rintro e w' ⟨rfl, w2, S', -, hQ⟩
        exact ⟨rfl, hQ⟩
theorem Tell_any {w : World} {p l : Nat} {S SL : Nat → Prop} {T N L G f : Int} {LL : Ls} {s : CoM.St} (h : Colls w p l S SL T N L G LL s) (hv : 0 ≤ f ∧ f < 18446744073709551616) : Calls Tryz.prog 9 #[.pointer (some ⟨p, 0, none⟩), .int .u64 f] w fun e w' => e = .returned (.tuple #[]) ∧ Became w.heap.size S SL p l T N L G LL (colT T L LL s f) w w' := by
  have HT := Lib.hid (Flow_tell h hv)
  generalize colT T L LL s f = s' at HT ⊢
  clear h hv
  go_enter Tryz.func9, Tryz.ntmps9
  go_wp2_with fail
  refine HT.out.mono ?_
  rintro e w1 ⟨rfl, hb⟩
  have HB := Lib.hid hb
  clear hb
  go_wp2
  refine bodyPost_end (results_none rfl _ _ _) rfl ?_
  exact ⟨rfl, HB.out⟩
end Go.Proofs.YtafjokjmogadnaaGreatDoor.Collect

/- Package collect (layer 17): how a collector is made. -/
namespace Go.Proofs.YtafjokjmogadnaaGreatDoor.Collect
set_option maxRecDepth 20000
open Go.ChangeShapes Go.WideShapes Go.RowKit CM DM PM GiM CoM SM LM Lay Limbo Go.Proofs.YtafjokjmogadnaaGreatDoor.Flows Go.Proofs.YtafjokjmogadnaaGreatDoor.Give
open Go.Proofs.YtafjokjmogadnaaGreatDoor.Task (Scr encD res5 set5)
open Go.Proofs.YtafjokjmogadnaaGreatDoor.Plan (box4 box_below box4_later)
set_option linter.unusedVariables false
set_option linter.unusedSimpArgs false

theorem load_row (w : World) (b : Nat) (hb : b = w.heap.size) (t : TypeId) : Row (w.alloc (.cells #[.int .i64 1, .int .i64 0, .int .u64 0, .int .u64 0, .int .u64 0] t)) (w.alloc (.cells #[.int .i64 1, .int .i64 0, .int .u64 0, .int .u64 0, .int .u64 0] t)).heap.size (some ⟨b, 0, none⟩) (flat encD [((1 : Int), (0 : Int), (0 : Int), (0 : Int), (0 : Int))]) := hb ▸ Cells.row_new w #[.int .i64 1, .int .i64 0, .int .u64 0, .int .u64 0, .int .u64 0] t
theorem Collect_any {w : World} {l : Nat} {SL : Nat → Prop} (T N L G : Int) {LL : Ls} (hL : Lim w l SL LL) (hs : Sane LL) : Calls Tryz.prog 7 #[.agg #[.int .i64 T, .int .i64 N, .int .i64 L, .int .u64 G], .pointer (some ⟨l, 0, none⟩)] w fun e w' =>
    ∃ p S, e = .returned (.pointer (some ⟨p, 0, none⟩)) ∧ Colls w' p l S SL T N L G LL .look ∧ (∀ k, S k → w.heap.size ≤ k ∧ k < w'.heap.size) ∧ Below w.heap.size w w' := by
  have HL := Lib.hid (And.intro hL hs)
  have HB0 := Lib.hid (box_below w (.cells #[.int .i64 T, .int .i64 N, .int .i64 L, .int .u64 G] 24))
  have HC := Lib.hid (box4 w (.int .i64 T) (.int .i64 N) (.int .i64 L) (.int .u64 G) 24)
  have HR := Lib.hid (fun t => load_row (w.alloc (.cells #[.int .i64 T, .int .i64 N, .int .i64 L, .int .u64 G] 24)) (w.heap.size + 1) (by simp) t)
  obtain ⟨c_0, c_1, c_2, c_3⟩ := HC.out
  have hf := Flows.hmf
  clear hL hs
  go_enter Tryz.func7, Tryz.ntmps7
  go_wp2_with fail
  refine (Task.NewScript_any (ds := [((1 : Int), (0 : Int), (0 : Int), (0 : Int), (0 : Int))]) (HR.out _) rfl (by decide)).mono ?_
  rintro e w2 ⟨k, qd, rfl, hk, hkk, hq, hb2⟩
  have HB2 := Lib.hid hb2
  have HK := Lib.hid (And.intro hk (And.intro hkk hq))
  clear hk hkk hq hb2
  have hbc : Below (w.heap.size + 1) (w.alloc (.cells #[.int .i64 T, .int .i64 N, .int .i64 L, .int .u64 G] 24)) w2 := (show Below (w.heap.size + 1) (w.alloc (.cells #[.int .i64 T, .int .i64 N, .int .i64 L, .int .u64 G] 24)) ((w.alloc (.cells #[.int .i64 T, .int .i64 N, .int .i64 L, .int .u64 G] 24)).alloc (.cells #[.int .i64 1, .int .i64 0, .int .u64 0, .int .u64 0, .int .u64 0] 34)) from by have := box_below (w.alloc (.cells #[.int .i64 T, .int .i64 N, .int .i64 L, .int .u64 G] 24)) (.cells #[.int .i64 1, .int .i64 0, .int .u64 0, .int .u64 0, .int .u64 0] 34); rwa [World.size_alloc] at this).trans (HB2.out.mono (by simp))
  have HC2 := Lib.hid (box4_later hbc)
  have HBW := Lib.hid (show Below w.heap.size w w2 from HB0.out.trans (hbc.mono (by simp)))
  clear hbc c_0 c_1 c_2 c_3
  obtain ⟨c_0, c_1, c_2, c_3⟩ := HC2.out
  obtain ⟨p, hp⟩ : ∃ p, p = w2.heap.size := ⟨_, rfl⟩
  have hF : HeadAt (w2.alloc (.cells #[.pointer none, .int .i64 0, .int .i64 T, .int .i64 N, .int .i64 L, .int .u64 G, .pointer (some ⟨l, 0, none⟩), .pointer (some ⟨k, 0, none⟩), .slice none 0 0, .int .i64 0] 70)) p none 0 (restV T N L G l k none 0 0 0) 70 := hp ▸ new_heap w2 _
  have hI : ScrI [((1 : Int), (0 : Int), (0 : Int), (0 : Int), (0 : Int))] k (w2.alloc (.cells #[.pointer none, .int .i64 0, .int .i64 T, .int .i64 N, .int .i64 L, .int .u64 G, .pointer (some ⟨l, 0, none⟩), .pointer (some ⟨k, 0, none⟩), .slice none 0 0, .int .i64 0] 70)) (fun j => j = k ∨ j = qd) [] :=
    ⟨qd, k, HK.out.1.later (box_below _ _), .inl rfl, .inr rfl, .inl rfl, fun j e => by have := HK.out.1.apart; simp; omega⟩
  have HTO := Lib.hid (To_more (scr_task [((1 : Int), (0 : Int), (0 : Int), (0 : Int), (0 : Int))]) (fn := 26) (first := #[.pointer (some ⟨p, 0, none⟩)]) (cap := #[]) (x := (1, 0, 0, 0, 0)) hF hI rfl (fun e => by have := HK.out.1.apart; omega))
  subst hp
  clear hF hI
  go_wp2_with fail
  refine HTO.out.mono ?_
  rintro e w4 ⟨rfl, h1, h2, h3, ho⟩
  have HT := Lib.hid (And.intro h1 (And.intro h2 (And.intro h3 ho)))
  clear h1 h2 h3 ho
  go_wp2
  go_ret
  obtain ⟨h1, h2, h3, ho⟩ := HT.out
  obtain ⟨k1, k2, k3⟩ := HK.out
  obtain ⟨hL, hs⟩ := HL.out
  have ha := k1.apart
  have hsz := HBW.out.size
  have hs4 := ho.size
  simp only [World.size_alloc] at h1 h2 hs4 k2 k3
  have hlw : ∀ j, SL j → j < w.heap.size := hL.lt
  have hb3 := HBW.out.trans ((box_below w2 (.cells #[.pointer none, .int .i64 0, .int .i64 T, .int .i64 N, .int .i64 L, .int .u64 G, .pointer (some ⟨l, 0, none⟩), .pointer (some ⟨k, 0, none⟩), .slice none 0 0, .int .i64 0] 70)).mono hsz)
  have hlt2 := h2.lt
  refine ⟨w2.heap.size, fun j => j = w2.heap.size ∨ j = w2.heap.size + 1 ∨ j = k ∨ j = qd, rfl, ⟨hs, some (w2.heap.size + 1), k, none, 0, 0, h1, ⟨w2.heap.size + 1, fun j => j = k ∨ j = qd, rfl, h2, h3, fun j e => .inr (.inr e), .inr (.inl rfl), by omega, fun e => by omega, fun e => by omega⟩, .inl rfl, ⟨SL, (hL.later hb3).only ho (fun j e z => by have := hlw j z; omega), fun j e => e⟩, fun j e z => by have := hlw j z; omega, True.intro, fun j e => by omega, fun j e => by have := hlw j e; omega⟩, fun j e => by omega, hb3.trans (ho.below hb3.size (fun j e => by omega))⟩
end Go.Proofs.YtafjokjmogadnaaGreatDoor.Collect
