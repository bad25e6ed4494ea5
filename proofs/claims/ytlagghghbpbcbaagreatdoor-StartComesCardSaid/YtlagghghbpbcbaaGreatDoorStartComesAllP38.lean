import Derived.Test.YtlagghghbpbcbaaGreatDoorStartComesAllP25
import Derived.Test.YtlagghghbpbcbaaGreatDoorStartComesAllP37
import Derived.Test.YtlagghghbpbcbaaGreatDoorStartComesAllP26
import Derived.Test.YtlagghghbpbcbaaGreatDoorStartComesAllP32
import Derived.Test.YtlagghghbpbcbaaGreatDoorStartComesAllP19
import Derived.Test.YtlagghghbpbcbaaGreatDoorStartComesAllP4
import Derived.Test.YtlagghghbpbcbaaGreatDoorStartComesAllP33
import Derived.Deep.RegionHeld3
import Derived.Deep.RegionWith
import Derived.Deep.DeepCutAuto
import Derived.Test.YtlagghghbpbcbaaGreatDoorStartComesAllP14
import Derived.Test.YtlagghghbpbcbaaGreatDoorStartComesAllP9
import Derived.Test.YtlagghghbpbcbaaGreatDoorStartComesAllP31
import Derived.Test.YtlagghghbpbcbaaGreatDoorStartComesAllP17
/- Package link (layer 20): what a linker tells at its end; a linker as a task of a flow. So a maker, a lifter, a settler, a waker. -/
namespace Go.Proofs.YtlagghghbpbcbaaGreatDoor.Ins
set_option maxRecDepth 20000
open Go.ChangeShapes Go.WideShapes Go.RowKit CM DM PM KM InM Lay Ints Plan Go.Proofs.YtlagghghbpbcbaaGreatDoor.Flows
open Go.Proofs.YtlagghghbpbcbaaGreatDoor.Task (Clone_words Cloned)
open Go.Proofs.YtlagghghbpbcbaaGreatDoor.Link (Links Link_next Link_tell)
open Go.Proofs.YtlagghghbpbcbaaGreatDoor.Lift (Lifts Lift_next Lift_tell)
open Go.Proofs.YtlagghghbpbcbaaGreatDoor.Mint (Makes Make_next Make_tell)
open Go.Proofs.YtlagghghbpbcbaaGreatDoor.Stl (Settles Settle_next Settle_tell)
open Go.Proofs.YtlagghghbpbcbaaGreatDoor.Wkr (Wakes Wake_next Wake_tell)
open MiM (minA minT)
open LiM (linkA linkT)
open LfM (liftA liftT)
open StM (settleA settleT)
open WkM (wakeA wakeT)
set_option linter.unusedVariables false
set_option linter.unusedSimpArgs false
theorem Preds_any {w : World} {p k n : Nat} {S : Nat → Prop} {T N L G r dl sq tall : Int} {s : LiM.St} (h : Links w p S T N L G r dl sq tall k s) (hn : n = s.ps.length) (hl : n ≤ 1000000) (h0 : s.st = 0) : Calls Tryz.prog 147 #[.pointer (some ⟨p, 0, none⟩)] w (Cloned (encZ .u64) w n s.ps) := by
  obtain ⟨ho, -, -, -, q, Q, A1, c1, A2, c2, k1, -, -, k4, k5, -⟩ := h
  have HC := Lib.hid (Clone_words (n := n) (c := c1) (w := w) (show Row w w.heap.size A1 (flat (encZ .u64) s.ps) from k4) hn hl)
  rw [h0, ← hn] at k1
  have c1 := k1.cells.2.1
  have c2 := k1.cells.2.2.1
  have c11 := k1.cells.2.2.2.2.2.2.2.2.2.2.2.1
  clear k1 k4 k5 ho hn h0
  go_enter Tryz.func147, Tryz.ntmps147
  go_wp2_with fail
  refine HC.out.mono ?_
  rintro e w1 h
  obtain ⟨A, c, rfl, h2, h3, h4⟩ := h
  have HE := Lib.hid (And.intro h2 (And.intro h3 h4))
  clear h2 h3 h4
  go_wp2
  go_ret
  exact ⟨A, c, rfl, HE.out.1, HE.out.2.1, HE.out.2.2⟩
theorem Succs_any {w : World} {p k n : Nat} {S : Nat → Prop} {T N L G r dl sq tall : Int} {s : LiM.St} (h : Links w p S T N L G r dl sq tall k s) (hn : n = s.ss.length) (hl : n ≤ 1000000) (h0 : s.st = 0) : Calls Tryz.prog 148 #[.pointer (some ⟨p, 0, none⟩)] w (Cloned (encZ .u64) w n s.ss) := by
  obtain ⟨ho, -, -, -, q, Q, A1, c1, A2, c2, k1, -, -, k4, k5, -⟩ := h
  have HC := Lib.hid (Clone_words (n := n) (c := c2) (w := w) (show Row w w.heap.size A2 (flat (encZ .u64) s.ss) from k5) hn hl)
  rw [h0, ← hn] at k1
  have c1 := k1.cells.2.1
  have c2 := k1.cells.2.2.1
  have c11 := k1.cells.2.2.2.2.2.2.2.2.2.2.2.1
  clear k1 k4 k5 ho hn h0
  go_enter Tryz.func148, Tryz.ntmps148
  go_wp2_with fail
  refine HC.out.mono ?_
  rintro e w1 h
  obtain ⟨A, c, rfl, h2, h3, h4⟩ := h
  have HE := Lib.hid (And.intro h2 (And.intro h3 h4))
  clear h2 h3 h4
  go_wp2
  go_ret
  exact ⟨A, c, rfl, HE.out.1, HE.out.2.1, HE.out.2.2⟩

theorem mint_next (q n : Nat) (w : World) : (method (n + 1) 131 (.pointer (some ⟨q, 0, none⟩)) "Next").run Tryz.prog w = .ok (193, .pointer (some ⟨q, 0, none⟩)) w := by kernel_rfl
theorem mint_tell (q n : Nat) (w : World) : (method (n + 1) 131 (.pointer (some ⟨q, 0, none⟩)) "Tell").run Tryz.prog w = .ok (194, .pointer (some ⟨q, 0, none⟩)) w := by kernel_rfl
theorem mint_nextE (args : Array Value) (w : World) : (callFunc 193 args).run Tryz.prog w = .ok (.enter 193 args) w := by kernel_rfl
theorem mint_tellE (args : Array Value) (w : World) : (callFunc 194 args).run Tryz.prog w = .ok (.enter 194 args) w := by kernel_rfl
theorem link_next (q n : Nat) (w : World) : (method (n + 1) 132 (.pointer (some ⟨q, 0, none⟩)) "Next").run Tryz.prog w = .ok (197, .pointer (some ⟨q, 0, none⟩)) w := by kernel_rfl
theorem link_tell (q n : Nat) (w : World) : (method (n + 1) 132 (.pointer (some ⟨q, 0, none⟩)) "Tell").run Tryz.prog w = .ok (198, .pointer (some ⟨q, 0, none⟩)) w := by kernel_rfl
theorem link_nextE (args : Array Value) (w : World) : (callFunc 197 args).run Tryz.prog w = .ok (.enter 197 args) w := by kernel_rfl
theorem link_tellE (args : Array Value) (w : World) : (callFunc 198 args).run Tryz.prog w = .ok (.enter 198 args) w := by kernel_rfl
theorem lift_next (q n : Nat) (w : World) : (method (n + 1) 194 (.pointer (some ⟨q, 0, none⟩)) "Next").run Tryz.prog w = .ok (225, .pointer (some ⟨q, 0, none⟩)) w := by kernel_rfl
theorem lift_tell (q n : Nat) (w : World) : (method (n + 1) 194 (.pointer (some ⟨q, 0, none⟩)) "Tell").run Tryz.prog w = .ok (226, .pointer (some ⟨q, 0, none⟩)) w := by kernel_rfl
theorem lift_nextE (args : Array Value) (w : World) : (callFunc 225 args).run Tryz.prog w = .ok (.enter 225 args) w := by kernel_rfl
theorem lift_tellE (args : Array Value) (w : World) : (callFunc 226 args).run Tryz.prog w = .ok (.enter 226 args) w := by kernel_rfl
theorem sett_next (q n : Nat) (w : World) : (method (n + 1) 133 (.pointer (some ⟨q, 0, none⟩)) "Next").run Tryz.prog w = .ok (217, .pointer (some ⟨q, 0, none⟩)) w := by kernel_rfl
theorem sett_tell (q n : Nat) (w : World) : (method (n + 1) 133 (.pointer (some ⟨q, 0, none⟩)) "Tell").run Tryz.prog w = .ok (218, .pointer (some ⟨q, 0, none⟩)) w := by kernel_rfl
theorem sett_nextE (args : Array Value) (w : World) : (callFunc 217 args).run Tryz.prog w = .ok (.enter 217 args) w := by kernel_rfl
theorem sett_tellE (args : Array Value) (w : World) : (callFunc 218 args).run Tryz.prog w = .ok (.enter 218 args) w := by kernel_rfl
theorem wake_next (q n : Nat) (w : World) : (method (n + 1) 216 (.pointer (some ⟨q, 0, none⟩)) "Next").run Tryz.prog w = .ok (232, .pointer (some ⟨q, 0, none⟩)) w := by kernel_rfl
theorem wake_tell (q n : Nat) (w : World) : (method (n + 1) 216 (.pointer (some ⟨q, 0, none⟩)) "Tell").run Tryz.prog w = .ok (233, .pointer (some ⟨q, 0, none⟩)) w := by kernel_rfl
theorem wake_nextE (args : Array Value) (w : World) : (callFunc 232 args).run Tryz.prog w = .ok (.enter 232 args) w := by kernel_rfl
theorem wake_tellE (args : Array Value) (w : World) : (callFunc 233 args).run Tryz.prog w = .ok (.enter 233 args) w := by kernel_rfl
/-- A maker, a linker, a lifter, a settler (told k words at most), a waker, as tasks. -/
def MintI (T L i dl dw tw : Int) (q : Nat) (w : World) (S : Nat → Prop) (s : MiM.St) : Prop := Makes w q T L i dl dw tw s ∧ S q ∧ ∀ j, S j → j < w.heap.size
def LinkI (T N L G r dl sq tall : Int) (k : Nat) (q : Nat) (w : World) (S : Nat → Prop) (s : LiM.St) : Prop := ∃ j, j ≤ k ∧ Links w q S T N L G r dl sq tall j s
def LiftI (T N L G r dl sq tall : Int) (k : Nat) (q : Nat) (w : World) (S : Nat → Prop) (s : LfM.St) : Prop := ∃ j, j ≤ k ∧ Lifts w q S T N L G r dl sq tall j s
def SettI (T N L G r dl sq : Int) (k : Nat) (q : Nat) (w : World) (S : Nat → Prop) (s : StM.St) : Prop := ∃ j, j ≤ k ∧ Settles w q S T N L G r dl sq j s
def WakeI (T N L G dl : Int) (q : Nat) (w : World) (S : Nat → Prop) (s : WkM.St) : Prop := Wakes w q T N L G dl s ∧ S q ∧ ∀ j, S j → j < w.heap.size
theorem mint_task (T L i dl dw tw : Int) : IsTask 131 193 194 (MintI T L i dl dw tw) (minA T L i dw tw) (minT i) where
  mnext := mint_next
  mtell := mint_tell
  enext := mint_nextE
  etell := mint_tellE
  only := fun h ho hn => ⟨h.1.only ho (hn _ h.2.1), h.2.1, fun k e => Nat.lt_of_lt_of_le (h.2.2 k e) ho.size⟩
  lt := fun h => h.2.2
  next := fun {q w S s} h => by
    refine (Make_next h.1).mono ?_
    rintro e w' ⟨rfl, hb⟩
    exact ⟨rfl, ⟨h.1.only (only_below (fun _ => False) hb) id, h.2.1, fun k e => Nat.lt_of_lt_of_le (h.2.2 k e) hb.size⟩, hb⟩
  tell := fun {q w S s v} h hv => by
    refine (Make_tell h.1 hv).mono ?_
    rintro e w' ⟨rfl, h1, ho⟩
    exact ⟨rfl, S, ⟨h1, h.2.1, fun k e => Nat.lt_of_lt_of_le (h.2.2 k e) ho.size⟩, ho.wide fun k e => .inl (e ▸ h.2.1), fun k e => .inl e⟩
theorem wake_task (T N L G dl : Int) : IsTask 216 232 233 (WakeI T N L G dl) (wakeA T) (wakeT T dl) where
  mnext := wake_next
  mtell := wake_tell
  enext := wake_nextE
  etell := wake_tellE
  only := fun h ho hn => ⟨h.1.only ho (hn _ h.2.1), h.2.1, fun k e => Nat.lt_of_lt_of_le (h.2.2 k e) ho.size⟩
  lt := fun h => h.2.2
  next := fun {q w S s} h => by
    refine (Wake_next h.1).mono ?_
    rintro e w' ⟨rfl, hb⟩
    exact ⟨rfl, ⟨h.1.only (only_below (fun _ => False) hb) id, h.2.1, fun k e => Nat.lt_of_lt_of_le (h.2.2 k e) hb.size⟩, hb⟩
  tell := fun {q w S s v} h hv => by
    refine (Wake_tell h.1 hv).mono ?_
    rintro e w' ⟨rfl, h1, ho⟩
    exact ⟨rfl, S, ⟨h1, h.2.1, fun k e => Nat.lt_of_lt_of_le (h.2.2 k e) ho.size⟩, ho.wide fun k e => .inl (e ▸ h.2.1), fun k e => .inl e⟩
theorem link_ask (T N L G r dl sq tall : Int) (k : Nat) : IsAsk 132 197 198 (LinkI T N L G r dl sq tall k) (linkA T L r) where
  mnext := link_next
  mtell := link_tell
  enext := link_nextE
  etell := link_tellE
  only := fun h ho hn => by
    obtain ⟨j, hj, h⟩ := h
    exact ⟨j, hj, h.only ho hn⟩
  lt := fun h => by
    obtain ⟨j, hj, h⟩ := h
    exact h.2.2.2.1
  next := fun {q w S s} h => by
    obtain ⟨j, hj, h⟩ := h
    refine (Link_next h).mono ?_
    rintro e w' ⟨rfl, hb⟩
    exact ⟨rfl, ⟨j, hj, h.later hb⟩, hb⟩
theorem link_told {T N L G r dl sq tall : Int} {k q : Nat} {w : World} {S : Nat → Prop} {s : LiM.St} {v : Int} (h : LinkI T N L G r dl sq tall k q w S s) (hk : k + 1 ≤ 1000000) (hv : Word v) :
    Calls Tryz.prog 198 #[.pointer (some ⟨q, 0, none⟩), .int .u64 v] w fun e w' => e = .returned (.tuple #[]) ∧ ∃ S' : Nat → Prop, (LinkI T N L G r dl sq tall (k + 1)) q w' S' (linkT L dl sq tall s v) ∧ Only S w w' ∧ ∀ j, S' j → S j ∨ (w.heap.size ≤ j ∧ j < w'.heap.size) := by
  obtain ⟨j, hj, h⟩ := h
  refine (Link_tell h (by omega) hv).mono ?_
  rintro e w' ⟨rfl, S', h1, h2, h3⟩
  exact ⟨rfl, S', ⟨j + 1, by omega, h1⟩, h2, h3⟩
theorem lift_ask (T N L G r dl sq tall : Int) (k : Nat) : IsAsk 194 225 226 (LiftI T N L G r dl sq tall k) (liftA T L r) where
  mnext := lift_next
  mtell := lift_tell
  enext := lift_nextE
  etell := lift_tellE
  only := fun h ho hn => by
    obtain ⟨j, hj, h⟩ := h
    exact ⟨j, hj, h.only ho hn⟩
  lt := fun h => by
    obtain ⟨j, hj, h⟩ := h
    exact h.2.2.2.1
  next := fun {q w S s} h => by
    obtain ⟨j, hj, h⟩ := h
    refine (Lift_next h).mono ?_
    rintro e w' ⟨rfl, hb⟩
    exact ⟨rfl, ⟨j, hj, h.later hb⟩, hb⟩
theorem lift_told {T N L G r dl sq tall : Int} {k q : Nat} {w : World} {S : Nat → Prop} {s : LfM.St} {v : Int} (h : LiftI T N L G r dl sq tall k q w S s) (hk : k + 1 ≤ 1000000) (hv : Word v) :
    Calls Tryz.prog 226 #[.pointer (some ⟨q, 0, none⟩), .int .u64 v] w fun e w' => e = .returned (.tuple #[]) ∧ ∃ S' : Nat → Prop, (LiftI T N L G r dl sq tall (k + 1)) q w' S' (liftT L dl sq tall s v) ∧ Only S w w' ∧ ∀ j, S' j → S j ∨ (w.heap.size ≤ j ∧ j < w'.heap.size) := by
  obtain ⟨j, hj, h⟩ := h
  refine (Lift_tell h (by omega) hv).mono ?_
  rintro e w' ⟨rfl, S', h1, h2, h3⟩
  exact ⟨rfl, S', ⟨j + 1, by omega, h1⟩, h2, h3⟩
theorem sett_ask (T N L G r dl sq : Int) (k : Nat) : IsAsk 133 217 218 (SettI T N L G r dl sq k) (settleA T L r) where
  mnext := sett_next
  mtell := sett_tell
  enext := sett_nextE
  etell := sett_tellE
  only := fun h ho hn => by
    obtain ⟨j, hj, h⟩ := h
    exact ⟨j, hj, h.only ho hn⟩
  lt := fun h => by
    obtain ⟨j, hj, h⟩ := h
    exact h.2.2.2.1
  next := fun {q w S s} h => by
    obtain ⟨j, hj, h⟩ := h
    refine (Settle_next h).mono ?_
    rintro e w' ⟨rfl, hb⟩
    exact ⟨rfl, ⟨j, hj, h.later hb⟩, hb⟩
theorem sett_told {T N L G r dl sq : Int} {k q : Nat} {w : World} {S : Nat → Prop} {s : StM.St} {v : Int} (h : SettI T N L G r dl sq k q w S s) (hk : k + 1 ≤ 1000000) (hv : Word v) :
    Calls Tryz.prog 218 #[.pointer (some ⟨q, 0, none⟩), .int .u64 v] w fun e w' => e = .returned (.tuple #[]) ∧ ∃ S' : Nat → Prop, SettI T N L G r dl sq (k + 1) q w' S' (settleT L dl sq s v) ∧ Only S w w' ∧ ∀ j, S' j → S j ∨ (w.heap.size ≤ j ∧ j < w'.heap.size) := by
  obtain ⟨j, hj, h⟩ := h
  refine (Settle_tell h (by omega) hv).mono ?_
  rintro e w' ⟨rfl, S', h1, h2, h3⟩
  exact ⟨rfl, S', ⟨j + 1, by omega, h1⟩, h2, h3⟩
end Go.Proofs.YtlagghghbpbcbaaGreatDoor.Ins

/- Package start (layer 31): where an inserter stands, and how it goes on from one of its steps to the next. -/
namespace Go.Proofs.YtlagghghbpbcbaaGreatDoor.Ins
set_option maxRecDepth 20000
open Go.ChangeShapes Go.WideShapes Go.RowKit CM DM PM KM InM Lay Ints Plan Go.Proofs.YtlagghghbpbcbaaGreatDoor.Flows
open Go.Proofs.YtlagghghbpbcbaaGreatDoor.Limbo (Lim)
open LM (Ls lenL addL R2)
open Go.Proofs.YtlagghghbpbcbaaGreatDoor.Mint (Makes)
open Go.Proofs.YtlagghghbpbcbaaGreatDoor.Link (Links)
set_option linter.unusedVariables false
set_option linter.unusedSimpArgs false

/-- What an inserter keeps beside its task: amid the making; behind it (with what V says of the linker's and the settler's cells). -/
def Bm (T N L G : Int) (l : Nat) (i tall : Int) (lb : Ls) : Beside := fun w X rest q => ∃ SL, rest = [.int .i64 T, .int .i64 N, .int .i64 L, .int .u64 G, .pointer (some ⟨l, 0, none⟩), .int .i64 i, .int .i64 tall, .pointer (some ⟨q, 0, none⟩), .pointer none, .pointer none, .bool false] ∧ Lim w l SL lb ∧ ∀ j, SL j → X j
abbrev Rest := World → (Nat → Prop) → Nat → Value → Value → Prop
def Bd (T N L G : Int) (l : Nat) (i dl dw tw tall : Int) (lb : Ls) (m : MiM.St) (b : Bool) (Z : Rest) : Beside := fun w X rest q => ∃ qm U V SL, rest = [.int .i64 T, .int .i64 N, .int .i64 L, .int .u64 G, .pointer (some ⟨l, 0, none⟩), .int .i64 i, .int .i64 tall, .pointer (some ⟨qm, 0, none⟩), U, V, .bool b] ∧ Z w X q U V ∧ Makes w qm T L i dl dw tw m ∧ X qm ∧ Lim w l SL lb ∧ (∀ j, SL j → X j) ∧ ¬ SL qm
def Zl : Rest := fun w X q U V => U = .pointer (some ⟨q, 0, none⟩) ∧ V = .pointer none
def Zv (T N L G dl tall : Int) (m : MiM.St) (s : LiM.St) (k : Nat) : Rest := fun w X q U V => ∃ ql SK, U = .pointer (some ⟨ql, 0, none⟩) ∧ V = .pointer none ∧ LinkI T N L G m.r dl m.sq tall k ql w SK s ∧ ∀ j, SK j → X j
def Zf : Rest := fun w X q U V => (∃ ql : Nat, U = .pointer (some ⟨ql, 0, none⟩)) ∧ V = .pointer none
def Zs : Rest := fun w X q U V => (∃ ql : Nat, U = .pointer (some ⟨ql, 0, none⟩)) ∧ V = .pointer (some ⟨q, 0, none⟩)
def Zw : Rest := fun w X q U V => (∃ ql : Nat, U = .pointer (some ⟨ql, 0, none⟩)) ∧ ∃ qs : Nat, V = .pointer (some ⟨qs, 0, none⟩)
structure Stays (Z : Rest) : Prop where
  only : ∀ {w w' : World} {X R : Nat → Prop} {q : Nat} {U V : Value}, Z w X q U V → Only R w w' → (∀ k, X k → ¬ R k) → Z w' X q U V
section
variable {T N L G i dl dw tw tall : Int} {l : Nat} {lb : Ls} {m : MiM.St} {b : Bool} {Z : Rest}
theorem Zl_stays : Stays Zl := ⟨fun h _ _ => h⟩
theorem Zf_stays : Stays Zf := ⟨fun h _ _ => h⟩
theorem Zs_stays : Stays Zs := ⟨fun h _ _ => h⟩
theorem Zw_stays : Stays Zw := ⟨fun h _ _ => h⟩
theorem Zv_stays {s : LiM.St} {k : Nat} : Stays (Zv T N L G dl tall m s k) := ⟨fun h ho hR => by
  obtain ⟨ql, SK, h1, h2, h3, h4⟩ := h
  exact ⟨ql, SK, h1, h2, (link_ask T N L G m.r dl m.sq tall k).only h3 ho fun j e => hR j (h4 j e), h4⟩⟩
theorem Bm_keeps : Keeps (Bm T N L G l i tall lb) := ⟨fun h ho hR => by
  obtain ⟨SL, h1, h2, h3⟩ := h
  exact ⟨SL, h1, h2.only ho fun k e z => hR k (h3 k z) e, h3⟩⟩
theorem Bd_keeps (hZ : Stays Z) : Keeps (Bd T N L G l i dl dw tw tall lb m b Z) := ⟨fun h ho hR => by
  obtain ⟨qm, U, V, SL, h1, h2, h3, h4, h5, h6, h7⟩ := h
  exact ⟨qm, U, V, SL, h1, hZ.only h2 ho hR, h3.only ho (hR _ h4), h4, h5.only ho fun k e z => hR k (h6 k z) e, h6, h7⟩⟩
end
theorem bringIn_enter (args : Array Value) (w : World) : (callFunc 116 args).run Tryz.prog w = .ok (.enter 116 args) w := by kernel_rfl
theorem enliven_enter (args : Array Value) (w : World) : (callFunc 130 args).run Tryz.prog w = .ok (.enter 130 args) w := by kernel_rfl
theorem raise_enter (args : Array Value) (w : World) : (callFunc 137 args).run Tryz.prog w = .ok (.enter 137 args) w := by kernel_rfl
theorem letGo_enter (args : Array Value) (w : World) : (callFunc 149 args).run Tryz.prog w = .ok (.enter 149 args) w := by kernel_rfl
theorem wakeOthers_enter (args : Array Value) (w : World) : (callFunc 159 args).run Tryz.prog w = .ok (.enter 159 args) w := by kernel_rfl
/-- The cells of an inserter. -/
theorem cells_rs {w : World} {p d : Nat} {nv : Option Nat} {T N L G i tall : Int} {l qm : Nat} {U V : Value} {b : Bool} (h : HeadAt w p nv d [.int .i64 T, .int .i64 N, .int .i64 L, .int .u64 G, .pointer (some ⟨l, 0, none⟩), .int .i64 i, .int .i64 tall, .pointer (some ⟨qm, 0, none⟩), U, V, .bool b] 135) :
    (w.cell? ⟨p, 2, none⟩ = some (.int .i64 T) ∧ w.cell? ⟨p, 3, none⟩ = some (.int .i64 N) ∧ w.cell? ⟨p, 4, none⟩ = some (.int .i64 L) ∧ w.cell? ⟨p, 5, none⟩ = some (.int .u64 G)) ∧ w.cell? ⟨p, 6, none⟩ = some (.pointer (some ⟨l, 0, none⟩)) ∧ w.cell? ⟨p, 7, none⟩ = some (.int .i64 i) ∧
    w.cell? ⟨p, 8, none⟩ = some (.int .i64 tall) ∧ w.cell? ⟨p, 9, none⟩ = some (.pointer (some ⟨qm, 0, none⟩)) ∧ w.cell? ⟨p, 10, none⟩ = some U ∧ w.cell? ⟨p, 11, none⟩ = some V ∧ w.cell? ⟨p, 12, none⟩ = some (.bool b) := by
  have hc := fun j => (cell_heap h j).1
  exact ⟨⟨hc 2, hc 3, hc 4, hc 5⟩, hc 6, hc 7, hc 8, hc 9, hc 10, hc 11, hc 12⟩
theorem thawed_rs {w : World} {p d : Nat} {nv : Option Nat} {rest : List Value} (h : HeadAt w p nv d rest 135) (j : Nat) : w.frozen? ⟨p, j, none⟩ = false := (cell_heap h j).2
section
variable {w : World} {p d : Nat} {nv : Option Nat} {T N L G i tall : Int} {l qm : Nat} {U V : Value} {b : Bool}
theorem set_link (h : HeadAt w p nv d [.int .i64 T, .int .i64 N, .int .i64 L, .int .u64 G, .pointer (some ⟨l, 0, none⟩), .int .i64 i, .int .i64 tall, .pointer (some ⟨qm, 0, none⟩), U, V, .bool b] 135) (q : Value) : HeadAt (w.setCell ⟨p, 10, none⟩ q) p nv d [.int .i64 T, .int .i64 N, .int .i64 L, .int .u64 G, .pointer (some ⟨l, 0, none⟩), .int .i64 i, .int .i64 tall, .pointer (some ⟨qm, 0, none⟩), q, V, .bool b] 135 := set_heap (j := 10) h q
theorem set_settle (h : HeadAt w p nv d [.int .i64 T, .int .i64 N, .int .i64 L, .int .u64 G, .pointer (some ⟨l, 0, none⟩), .int .i64 i, .int .i64 tall, .pointer (some ⟨qm, 0, none⟩), U, V, .bool b] 135) (q : Value) : HeadAt (w.setCell ⟨p, 11, none⟩ q) p nv d [.int .i64 T, .int .i64 N, .int .i64 L, .int .u64 G, .pointer (some ⟨l, 0, none⟩), .int .i64 i, .int .i64 tall, .pointer (some ⟨qm, 0, none⟩), U, q, .bool b] 135 := set_heap (j := 11) h q
theorem set_lives (h : HeadAt w p nv d [.int .i64 T, .int .i64 N, .int .i64 L, .int .u64 G, .pointer (some ⟨l, 0, none⟩), .int .i64 i, .int .i64 tall, .pointer (some ⟨qm, 0, none⟩), U, V, .bool b] 135) (c : Bool) : HeadAt (w.setCell ⟨p, 12, none⟩ (.bool c)) p nv d [.int .i64 T, .int .i64 N, .int .i64 L, .int .u64 G, .pointer (some ⟨l, 0, none⟩), .int .i64 i, .int .i64 tall, .pointer (some ⟨qm, 0, none⟩), U, V, .bool c] 135 := set_heap (j := 12) h (.bool c)
end
/-- The timer is made: it is linked. -/
theorem bringIn_any {w : World} {p d : Nat} {S : Nat → Prop} {T N L G i dl dw tw tall : Int} {l k : Nat} {lb : Ls} {m : MiM.St} (h : Freed (MintI T L i dl dw tw) (Bm T N L G l i tall lb) 135 w p d S m) (hm : InM.Done m) (hL : 1 ≤ L ∧ L ≤ 9223372036854775807) :
    Calls Tryz.prog 116 #[.pointer (some ⟨p, 0, none⟩)] w fun e w2 => e = .returned (.tuple #[]) ∧ ∃ S2, Phase 132 (meth 130 p) (LinkI T N L G m.r dl m.sq tall k) (Bd T N L G l i dl dw tw tall lb m false Zl) 135 w2 p d S2 (LiM.begin L 0) ∧ Grown w w2 S S2 ∧ Anew 135 p d w w2 := by
  obtain ⟨h1, h2, q, SM, X, rest, hF, hI, ⟨SL, rfl, hlim, hSL⟩, h3, h4⟩ := h
  obtain ⟨hk, h7⟩ := hm
  have HR := Lib.hid (fun (W : World) (hb : Below w.heap.size w W) => Mint.Ref_any (hI.1.only (only_below (fun _ => False) hb) id))
  have HY := Lib.hid (fun (W : World) (hb : Below w.heap.size w W) => Mint.Key_any (hI.1.only (only_below (fun _ => False) hb) id))
  rw [show MiM.refI m = m.r from if_pos h7] at HR
  rw [show MiM.keyI dl m = (dl, m.sq) from if_pos h7] at HY
  have HLK := Lib.hid (fun W : World => Link.Link_any T N L G m.r dl m.sq tall hL hk.2.2.1 W)
  have HK := Lib.hid (show ∀ W, Below w.heap.size w W → (W.cell? ⟨p, 2, none⟩ = some (.int .i64 T) ∧ W.cell? ⟨p, 3, none⟩ = some (.int .i64 N) ∧ W.cell? ⟨p, 4, none⟩ = some (.int .i64 L) ∧ W.cell? ⟨p, 5, none⟩ = some (.int .u64 G)) ∧ W.cell? ⟨p, 8, none⟩ = some (.int .i64 tall) ∧ W.cell? ⟨p, 9, none⟩ = some (.pointer (some ⟨q, 0, none⟩)) ∧ W.frozen? ⟨p, 10, none⟩ = false from fun W hb => by
    have g := hF.later hb
    obtain ⟨k1, k2, k3, k4, k5, -⟩ := cells_rs g
    exact ⟨k1, k4, k5, thawed_rs g 10⟩)
  have HF := Lib.hid (fun W (v : Value) (hb : Below w.heap.size w W) => set_link (hF.later hb) v)
  have HS := Lib.hid (show ∀ W0 v, Below w.heap.size w W0 → (fun W => (W.cell? ⟨p, 2, none⟩ = some (.int .i64 T) ∧ W.cell? ⟨p, 3, none⟩ = some (.int .i64 N) ∧ W.cell? ⟨p, 4, none⟩ = some (.int .i64 L) ∧ W.cell? ⟨p, 5, none⟩ = some (.int .u64 G)) ∧ W.cell? ⟨p, 8, none⟩ = some (.int .i64 tall) ∧ W.cell? ⟨p, 9, none⟩ = some (.pointer (some ⟨q, 0, none⟩)) ∧ W.frozen? ⟨p, 10, none⟩ = false) (W0.setCell ⟨p, 10, none⟩ v) from fun W0 v hb => by
    have g := set_link (hF.later hb) v
    obtain ⟨k1, k2, k3, k4, k5, -⟩ := cells_rs g
    exact ⟨k1, k4, k5, thawed_rs g 10⟩)
  have HC := Lib.hid (show ∀ W, Below w.heap.size w W → W.cell? ⟨p, 10, none⟩ = some (.pointer none) from fun W hb => (cells_rs (hF.later hb)).2.2.2.2.2.1)
  have HEND := Lib.hid (show ∀ w3 ql SK, Links w3 ql SK T N L G m.r dl m.sq tall 0 (LiM.begin L 0) → (∀ j, SK j → w.heap.size ≤ j ∧ j < w3.heap.size) → Below w.heap.size w w3 →
      Calls Tryz.prog 42 #[.pointer (some ⟨p, 0, none⟩), itf 132 ql, meth 130 p] (w3.setCell ⟨p, 10, none⟩ (.pointer (some ⟨ql, 0, none⟩))).drew fun e w2 => e = .returned (.tuple #[]) ∧ ∃ S2, Phase 132 (meth 130 p) (LinkI T N L G m.r dl m.sq tall k) (Bd T N L G l i dl dw tw tall lb m false Zl) 135 w2 p d S2 (LiM.begin L 0) ∧ Grown w w2 S S2 ∧ Anew 135 p d w w2 from fun w3 ql SK g1 g2 g3 => by
    have ho : Only (fun j => j = p) w3 (w3.setCell ⟨p, 10, none⟩ (.pointer (some ⟨ql, 0, none⟩))).drew := (only_setCell (R := fun j => j = p) w3 (p := ⟨p, 10, none⟩) rfl _).then_below (Below.refl _ _).drew
    have hpw := h2 p h1
    have hz := g3.size
    have hz2 := ho.size
    have hI3 := (mint_task T L i dl dw tw).only hI (only_below (fun _ => False) g3) (fun _ _ => id)
    have hL3 := hlim.later g3
    have g4 : LinkI T N L G m.r dl m.sq tall k ql w3 SK (LiM.begin L 0) := ⟨0, Nat.zero_le k, g1⟩
    have hnp : ∀ j, SK j → j ≠ p := fun j e z => by have := (g2 j e).1; omega
    have hlt : ∀ j, SM j ∨ X j → j < w.heap.size := fun j e => h2 j (h3 j e).1
    refine (Phase.made (link_ask T N L G m.r dl m.sq tall k) (Bd_keeps Zl_stays) (meth_then _ p) (S := fun j => S j ∨ SK j) (X2 := fun j => SM j ∨ X j) ((set_link (hF.later g3) (.pointer (some ⟨ql, 0, none⟩))).later (Below.refl _ _).drew) ((link_ask T N L G m.r dl m.sq tall k).only g4 ho hnp)
      ⟨q, _, _, SL, rfl, ⟨rfl, rfl⟩, hI3.1.only ho (fun e => (h3 q (.inl hI.2.1)).2 e), .inl hI.2.1, hL3.only ho (fun j e z => (h3 j (.inr (hSL j z))).2 e), fun j e => .inr (hSL j e), fun e => h4 q hI.2.1 (hSL q e)⟩
      (begin_step hL).choose_spec (.inl h1) (fun j e => e.elim (fun e => by have := h2 j e; omega) fun e => by have := (g2 j e).2; omega) (fun j e => e.elim (fun e => ⟨.inr e, hnp j e⟩) fun e => ⟨.inl (h3 j e).1, (h3 j e).2⟩) (fun j e z => by have h5 := (g2 j e).1; have h6 := hlt j z; omega)).mono ?_
    rintro e w5 ⟨rfl, S2, k1, k2, k3, k4⟩
    exact ⟨rfl, S2, k1, ⟨((only_below S g3).more ho fun j e => .inl (e ▸ h1)).more k2.1 fun j e => e.imp id fun e => by have := (g2 j e).1; omega, fun j e => (k2.2 j e).elim (fun e => e.imp id fun e => by have h5 := g2 j e; have h6 := k2.1.size; omega) fun e => .inr (by omega)⟩, k3.more (by omega)⟩)
  clear hF hI hlim hL hk h3 h4
  go_enter Tryz.func116, Tryz.ntmps116
  go_upto_region 0 with fail
  go_region_held3 (fun W => (W.cell? ⟨p, 2, none⟩ = some (.int .i64 T) ∧ W.cell? ⟨p, 3, none⟩ = some (.int .i64 N) ∧ W.cell? ⟨p, 4, none⟩ = some (.int .i64 L) ∧ W.cell? ⟨p, 5, none⟩ = some (.int .u64 G)) ∧ W.cell? ⟨p, 8, none⟩ = some (.int .i64 tall) ∧ W.cell? ⟨p, 9, none⟩ = some (.pointer (some ⟨q, 0, none⟩)) ∧ W.frozen? ⟨p, 10, none⟩ = false)
    ((first | (with_reducible exact HK.out _ (Below.refl _ _).drew) | (with_reducible assumption) | (with_reducible exact HK.out _ HB2.out) | (with_reducible exact HK.out _ HB3.out.2.2) | exact HS.out _ _ HB3.out.2.2))
    (first
      | (go_at_call 81; refine (HR.out _ ((Below.refl w.heap.size w).drew)).mono ?_; rintro e w' ⟨rfl, rfl⟩)
      | (go_at_call 129; refine (HY.out _ ((Below.refl w.heap.size w).drew)).mono ?_; rintro e w2 ⟨rfl, hb⟩; have HB2 := Lib.hid ((Below.refl w.heap.size w).drew.trans (hb.mono (Nat.le_refl _))); clear hb)
      | (go_at_call 128; refine (HLK.out _).mono ?_; rintro e w3 ⟨ql, SK, rfl, g1, g2, g3⟩; have HB3 := Lib.hid (And.intro g1 (And.intro g2 (HB2.out.trans (g3.mono HB2.out.size)))); have hc10 := HC.out _ HB3.out.2.2; clear g1 g2 g3))
  obtain ⟨g1, g2, g3⟩ := HB3.out
  have HTO := Lib.hid (HEND.out w3 ql SK g1 (fun j e => ⟨Nat.le_trans HB2.out.size (g2 j e).1, (g2 j e).2⟩) g3)
  have c10 := (cells_rs (HF.out w3 (.pointer (some ⟨ql, 0, none⟩)) g3)).2.2.2.2.2.1
  have hf := hmf
  clear g1 g2 g3 hc10
  go_upto_region 1 with fail
  go_region_with (go_at_call 42; refine HTO.out.mono ?_; rintro e w5 ⟨rfl, h⟩; have HE := Lib.hid h; clear h)
  all_goals go_wp2
  all_goals exact bodyPost_end (results_none rfl _ _ _) rfl ⟨rfl, HE.out⟩
end Go.Proofs.YtlagghghbpbcbaaGreatDoor.Ins

/- Package start (layer 31): how an inserter goes on from linking to letting its timer live. -/
namespace Go.Proofs.YtlagghghbpbcbaaGreatDoor.Ins
set_option maxRecDepth 20000
open Go.ChangeShapes Go.WideShapes Go.RowKit CM DM PM KM InM Lay Ints Plan Go.Proofs.YtlagghghbpbcbaaGreatDoor.Flows
open Go.Proofs.YtlagghghbpbcbaaGreatDoor.Limbo (Lim)
open LM (Ls lenL addL R2)
open Go.Proofs.YtlagghghbpbcbaaGreatDoor.Mint (Makes)
open Go.Proofs.YtlagghghbpbcbaaGreatDoor.Task (Scr encD)
set_option linter.unusedVariables false
set_option linter.unusedSimpArgs false

theorem row1 (W : World) (q v : Int) : Row (W.alloc (.cells #[.int .i64 2, .int .i64 q, .int .u64 v, .int .u64 0, .int .u64 0] 63)) (W.alloc (.cells #[.int .i64 2, .int .i64 q, .int .u64 v, .int .u64 0, .int .u64 0] 63)).heap.size (some ⟨W.heap.size, 0, none⟩) (flat encD [((2 : Int), q, v, (0 : Int), (0 : Int))]) :=
  Cells.row_new W #[.int .i64 2, .int .i64 q, .int .u64 v, .int .u64 0, .int .u64 0] 63
theorem row1d (W : World) (q v : Int) : Row (W.alloc (.cells #[.int .i64 2, .int .i64 q, .int .u64 v, .int .u64 0, .int .u64 0] 63)).drew (W.alloc (.cells #[.int .i64 2, .int .i64 q, .int .u64 v, .int .u64 0, .int .u64 0] 63)).drew.heap.size (some ⟨W.heap.size, 0, none⟩) (flat encD [((2 : Int), q, v, (0 : Int), (0 : Int))]) := (row1 W q v).later (Below.refl _ _).drew
theorem five_in {W : World} {k : Nat} {q v : Int} (h : W.heap[k]? = some (.cells #[.int .i64 2, .int .i64 q, .int .u64 v, .int .u64 0, .int .u64 0] 63)) : W.cell? ⟨k, 0, none⟩ = some (.int .i64 2) ∧ W.cell? ⟨k, 1, none⟩ = some (.int .i64 q) ∧ W.cell? ⟨k, 2, none⟩ = some (.int .u64 v) ∧ W.cell? ⟨k, 3, none⟩ = some (.int .u64 0) ∧ W.cell? ⟨k, 4, none⟩ = some (.int .u64 0) :=
  ⟨(cell_heap h 0).1, (cell_heap h 1).1, (cell_heap h 2).1, (cell_heap h 3).1, (cell_heap h 4).1⟩
/-- The store's variable, laid. -/
theorem var_laid {w W : World} {k : Nat} (q v : Int) (hz : W.heap[k]? = some (.cells #[.int .i64 0, .int .i64 0, .int .u64 0, .int .u64 0, .int .u64 0] 63)) (hk : w.heap.size ≤ k) (hb : Below w.heap.size w W) : ∃ k', (Value.pointer (some ⟨k, 0, none⟩)) = .pointer (some ⟨k', 0, none⟩) ∧
    (((((W.setCell ⟨k, 0, none⟩ (.int .i64 2)).setCell ⟨k, 1, none⟩ (.int .i64 q)).setCell ⟨k, 2, none⟩ (.int .u64 v)).setCell ⟨k, 3, none⟩ (.int .u64 0)).setCell ⟨k, 4, none⟩ (.int .u64 0)).heap[k']? = some (.cells #[.int .i64 2, .int .i64 q, .int .u64 v, .int .u64 0, .int .u64 0] 63) ∧ w.heap.size ≤ k' ∧
    Below w.heap.size w (((((W.setCell ⟨k, 0, none⟩ (.int .i64 2)).setCell ⟨k, 1, none⟩ (.int .i64 q)).setCell ⟨k, 2, none⟩ (.int .u64 v)).setCell ⟨k, 3, none⟩ (.int .u64 0)).setCell ⟨k, 4, none⟩ (.int .u64 0)) :=
  ⟨k, rfl, set_heap (j := 4) (set_heap (j := 3) (set_heap (j := 2) (set_heap (j := 1) (set_heap (j := 0) hz (.int .i64 2)) (.int .i64 q)) (.int .u64 v)) (.int .u64 0)) (.int .u64 0), hk,
    ((((hb.setCell (p := ⟨k, 0, none⟩) hk _).setCell (p := ⟨k, 1, none⟩) hk _).setCell (p := ⟨k, 2, none⟩) hk _).setCell (p := ⟨k, 3, none⟩) hk _).setCell (p := ⟨k, 4, none⟩) hk _⟩
theorem set5_below {w W : World} {k : Nat} {v0 v1 v2 v3 v4 : Value} (hb : Below w.heap.size w W) (hk : w.heap.size ≤ k) : Below w.heap.size w (((((W.setCell ⟨k, 0, none⟩ v0).setCell ⟨k, 1, none⟩ v1).setCell ⟨k, 2, none⟩ v2).setCell ⟨k, 3, none⟩ v3).setCell ⟨k, 4, none⟩ v4) :=
  ((((hb.setCell (p := ⟨k, 0, none⟩) hk _).setCell (p := ⟨k, 1, none⟩) hk _).setCell (p := ⟨k, 2, none⟩) hk _).setCell (p := ⟨k, 3, none⟩) hk _).setCell (p := ⟨k, 4, none⟩) hk _
theorem bl_a {w W : World} {o : Obj} (hb : Below w.heap.size w W) : Below w.heap.size w (W.alloc o) := hb.alloc hb.size o
theorem bl_b {w W W' : World} (hb : Below w.heap.size w W) (h : Below W.heap.size W W') : Below w.heap.size w W' := hb.trans (h.mono hb.size)
theorem bl_d {w W : World} (h : Below w.drew.heap.size w.drew W) : Below w.heap.size w W := bl_b (Below.refl w.heap.size w).drew h
theorem bl_e {w W : World} {o : Obj} (h : Below (w.alloc o).drew.heap.size (w.alloc o).drew W) : Below w.heap.size w W ∧ W.heap[w.heap.size]? = some o :=
  ⟨bl_b (bl_a (Below.refl w.heap.size w)).drew h, (h.block _ (by simp [World.drew])).trans (new_heap w o)⟩
/-- The timer is linked: it is let live. -/
theorem enliven_any {w : World} {p d : Nat} {S : Nat → Prop} {T N L G i dl dw tw tall : Int} {l k : Nat} {lb : Ls} {m : MiM.St} {s : LiM.St} (h : Freed (LinkI T N L G m.r dl m.sq tall k) (Bd T N L G l i dl dw tw tall lb m false Zl) 135 w p d S s) (hm : InM.Done m) :
    Calls Tryz.prog 130 #[.pointer (some ⟨p, 0, none⟩)] w fun e w2 => e = .returned (.tuple #[]) ∧ ∃ S2, Phase 180 (meth 137 p) (ScrI [(2, atI T L i 0, SM.stI (m.r / 4294967296) 2, 0, 0)]) (Bd T N L G l i dl dw tw tall lb m false (Zv T N L G dl tall m s k)) 135 w2 p d S2 [] ∧ Grown w w2 S S2 ∧ Anew 135 p d w w2 := by
  obtain ⟨h1, h2, q0, SM', X, rest, hF, hI, ⟨qm, U, V, SL, rfl, ⟨rfl, rfl⟩, hmk, hqm, hlim, hSL, hqs⟩, h3, h4⟩ := h
  obtain ⟨hk, h7⟩ := hm
  have HR := Lib.hid (Mint.Ref_any hmk)
  rw [show MiM.refI m = m.r from if_pos h7] at HR
  have HGN := Lib.hid (fun W : World => Refer.Gen_any m.r hk.2.2.1.1 hk.2.2.1.2 W)
  have HST := Lib.hid (fun W : World => State.Of_any (m.r / 4294967296) 2 (Int.ediv_nonneg hk.2.2.1.1 (by decide)) W)
  have HSA := Lib.hid (fun W : World => Plan.State_any T N L G i W)
  have HK := Lib.hid (show ∀ W, Below w.heap.size w W → (W.cell? ⟨p, 2, none⟩ = some (.int .i64 T) ∧ W.cell? ⟨p, 3, none⟩ = some (.int .i64 N) ∧ W.cell? ⟨p, 4, none⟩ = some (.int .i64 L) ∧ W.cell? ⟨p, 5, none⟩ = some (.int .u64 G)) ∧ W.cell? ⟨p, 7, none⟩ = some (.int .i64 i) from fun W hb => by
    obtain ⟨k1, k2, k3, -⟩ := cells_rs (hF.later hb)
    exact ⟨k1, k3⟩)
  obtain ⟨q, hq⟩ : ∃ q, q = atI T L i 0 := ⟨_, rfl⟩
  obtain ⟨v, hv⟩ : ∃ v, v = SM.stI (m.r / 4294967296) 2 := ⟨_, rfl⟩
  rw [← hq] at HSA ⊢
  rw [← hv] at HST ⊢
  have HONE := Lib.hid (show 1 = [((2 : Int), q, v, (0 : Int), (0 : Int))].length from rfl)
  have HMIL := Lib.hid (show 1 ≤ 1000000 by decide)
  have HEND := Lib.hid (show ∀ w3 kk qd, Scr w3 kk qd kk [((2 : Int), q, v, (0 : Int), (0 : Int))] [] → w.heap.size ≤ kk → w.heap.size ≤ qd → Below w.heap.size w w3 →
      Calls Tryz.prog 42 #[.pointer (some ⟨p, 0, none⟩), itf 180 kk, meth 137 p] w3 fun e w2 => e = .returned (.tuple #[]) ∧ Only (fun j => S j ∨ j = kk ∨ j = qd) w3 w2 ∧ ∃ S2, Phase 180 (meth 137 p) (ScrI [((2 : Int), q, v, (0 : Int), (0 : Int))]) (Bd T N L G l i dl dw tw tall lb m false (Zv T N L G dl tall m s k)) 135 w2 p d S2 [] ∧ Grown w w2 S S2 ∧ Anew 135 p d w w2 from fun w3 kk qd g1 g2 g3 g4 => by
    have hpw := h2 p h1
    have hz := g4.size
    have ha := g1.apart
    have hlt : ∀ j, SM' j ∨ X j → j < w.heap.size := fun j e => h2 j (h3 j e).1
    have hI3 : LinkI T N L G m.r dl m.sq tall k q0 w3 SM' s := (link_ask T N L G m.r dl m.sq tall k).only hI (only_below (fun _ => False) g4) (fun _ _ => id)
    refine (Given.made (scr_task [((2 : Int), q, v, (0 : Int), (0 : Int))]).asks (E2 := Bd T N L G l i dl dw tw tall lb m false (Zv T N L G dl tall m s k)) (Bd_keeps Zv_stays) (meth_then _ p) (S := fun j => S j ∨ j = kk ∨ j = qd) (s2 := []) ⟨.inl h1, fun j e => by
        rcases e with e | e | e
        · have := h2 j e; omega
        · omega
        · omega, none, _, fun j => j = kk ∨ j = qd, fun j => SM' j ∨ X j, hF.later g4, ⟨qd, kk, g1, .inl rfl, .inr rfl, .inl rfl, fun j e => by omega⟩,
        ⟨qm, _, _, SL, rfl, ⟨q0, SM', rfl, rfl, hI3, fun j e => .inl e⟩, hmk.only (only_below (fun _ => False) g4) id, .inr hqm, hlim.later g4, fun j e => .inr (hSL j e), hqs⟩,
        fun j e => e.elim (fun e => ⟨.inr e, by omega⟩) (fun e => ⟨.inl (h3 j e).1, (h3 j e).2⟩), fun j e z => by have := hlt j z; omega⟩ (x := (2, q, v, 0, 0)) rfl).mono ?_
    rintro e w5 ⟨rfl, S2, k1, k2, k3, k4⟩
    exact ⟨rfl, k2.1, S2, k1, ⟨(only_below S g4).more k2.1 fun j e => e.imp id fun e => by omega, fun j e => (k2.2 j e).elim (fun e => e.imp id fun e => by have h6 := k2.1.size; omega) fun e => .inr (by omega)⟩, k3.more (by omega)⟩)
  have hcm := (cells_rs hF).2.2.2.2.1
  have HQV := Lib.hid (And.intro hq hv)
  clear hq hv hF hI hmk hlim hk h3 h4 hSL hqs
  go_enter Tryz.func130, Tryz.ntmps130
  go_wp2_with fail
  refine (HR.out).mono ?_
  rintro e w' ⟨rfl, rfl⟩
  go_wp2_with fail
  refine (HGN.out _).mono ?_
  rintro e w' ⟨rfl, rfl⟩
  go_wp2_with fail
  refine (HST.out _).mono ?_
  rintro e w' ⟨rfl, rfl⟩
  go_upto_region 1 with fail
  have HD1 := Lib.hid (HK.out _ (Below.refl w.heap.size w).drew)
  have HD2 := Lib.hid (HK.out _ (bl_a (o := .cells #[.int .i64 0, .int .i64 0, .int .u64 0, .int .u64 0, .int .u64 0] 63) (Below.refl w.heap.size w)).drew)
  go_cut [3] (fun s3 wx => ∃ k0, s3 = .pointer (some ⟨k0, 0, none⟩) ∧ wx.heap[k0]? = some (.cells #[.int .i64 2, .int .i64 q, .int .u64 v, .int .u64 0, .int .u64 0] 63) ∧ w.heap.size ≤ k0 ∧ Below w.heap.size w wx)
  case first =>
    go_region_held3 (fun W => (W.cell? ⟨p, 2, none⟩ = some (.int .i64 T) ∧ W.cell? ⟨p, 3, none⟩ = some (.int .i64 N) ∧ W.cell? ⟨p, 4, none⟩ = some (.int .i64 L) ∧ W.cell? ⟨p, 5, none⟩ = some (.int .u64 G)) ∧ W.cell? ⟨p, 7, none⟩ = some (.int .i64 i))
      ((first | (with_reducible exact HD1.out) | (with_reducible exact HD2.out) | (with_reducible assumption) | (with_reducible exact HK.out _ HP2.out) | (with_reducible exact HK.out _ (bl_a HP2.out)) | (with_reducible exact HK.out _ (set5_below (bl_a HP2.out) HP2.out.size)) | (with_reducible exact HK.out _ (set5_below HP2.out (Nat.le_refl _)))))
      (first
        | (go_at_call 19; refine (HSA.out _).mono ?_; rintro e w2 ⟨rfl, hb⟩; have hp2 : Below w.heap.size w w2 := (by with_reducible exact bl_d hb); have HP2 := Lib.hid hp2; clear hb hp2)
        | (go_at_call 19; refine (HSA.out _).mono ?_; rintro e w2 ⟨rfl, hb⟩; have hp2 : Below w.heap.size w w2 ∧ w2.heap[w.heap.size]? = some (.cells #[.int .i64 0, .int .i64 0, .int .u64 0, .int .u64 0, .int .u64 0] 63) := (by with_reducible exact bl_e hb); have HP2 := Lib.hid hp2.1; have HZ2 := Lib.hid hp2.2; have r0 := (cell_heap hp2.2 0).1; have r1 := (cell_heap hp2.2 1).1; have r2 := (cell_heap hp2.2 2).1; have r3 := (cell_heap hp2.2 3).1; have r4 := (cell_heap hp2.2 4).1; have g0 := (cell_heap hp2.2 0).2; have g1 := (cell_heap hp2.2 1).2; have g2 := (cell_heap hp2.2 2).2; have g3 := (cell_heap hp2.2 3).2; have g4 := (cell_heap hp2.2 4).2; clear hb hp2)
        | fail)
    all_goals go_wp2_with fail
    all_goals go_meet
    all_goals (case rel => first | (with_reducible exact ⟨_, rfl, new_heap _ _, HP2.out.size, bl_a HP2.out⟩) | (with_reducible exact var_laid q v HZ2.out (Nat.le_refl _) HP2.out))
  case rest =>
    obtain ⟨k0, rfl, hk0, hkw, hbc⟩ := hcut
    have HB := Lib.hid hbc
    have HK2 := Lib.hid (show ∀ W, Below wc.heap.size wc W → W.cell? ⟨k0, 0, none⟩ = some (.int .i64 2) ∧ W.cell? ⟨k0, 1, none⟩ = some (.int .i64 q) ∧ W.cell? ⟨k0, 2, none⟩ = some (.int .u64 v) ∧ W.cell? ⟨k0, 3, none⟩ = some (.int .u64 0) ∧ W.cell? ⟨k0, 4, none⟩ = some (.int .u64 0) from fun W hb => five_in ((only_below (fun _ => False) hb).heap hk0 id))
    have HK3 := Lib.hid (show ∀ w5 w6 kk qd, Below wc.heap.size wc w5 → wc.heap.size ≤ kk → wc.heap.size ≤ qd → Only (fun j => S j ∨ j = kk ∨ j = qd) w5 w6 → (fun W => W.cell? ⟨k0, 0, none⟩ = some (.int .i64 2) ∧ W.cell? ⟨k0, 1, none⟩ = some (.int .i64 q) ∧ W.cell? ⟨k0, 2, none⟩ = some (.int .u64 v) ∧ W.cell? ⟨k0, 3, none⟩ = some (.int .u64 0) ∧ W.cell? ⟨k0, 4, none⟩ = some (.int .u64 0)) w6 from fun w5 w6 kk qd hb q1 q2 ho => five_in (ho.heap ((only_below (fun _ => False) hb).heap hk0 id) (by have h5 := (Array.getElem?_eq_some_iff.1 hk0).1; rintro (e | e | e); have h6 := h2 _ e; omega; omega; omega)))
    have HD3 := Lib.hid (HK2.out _ (Below.refl wc.heap.size wc).drew)
    have HD4 := Lib.hid (HK2.out _ (bl_a (o := .cells #[.int .i64 2, .int .i64 q, .int .u64 v, .int .u64 0, .int .u64 0] 63) (Below.refl wc.heap.size wc)).drew)
    have HD5 := Lib.hid (HK2.out _ (bl_a (o := .cells #[.int .i64 2, .int .i64 q, .int .u64 v, .int .u64 0, .int .u64 0] 63) (Below.refl wc.heap.size wc)))
    have hf := hmf
    clear hk0 hkw hbc HD1 HD2 HK HR HGN HST HSA
    go_upto_region 2 with fail
    go_region_held3 (fun W => W.cell? ⟨k0, 0, none⟩ = some (.int .i64 2) ∧ W.cell? ⟨k0, 1, none⟩ = some (.int .i64 q) ∧ W.cell? ⟨k0, 2, none⟩ = some (.int .u64 v) ∧ W.cell? ⟨k0, 3, none⟩ = some (.int .u64 0) ∧ W.cell? ⟨k0, 4, none⟩ = some (.int .u64 0))
      ((first | (with_reducible exact HD3.out) | (with_reducible exact HD4.out) | (with_reducible exact HD5.out) | (with_reducible assumption) | (with_reducible exact HE.out.2) | (with_reducible exact HK2.out _ HP5.out.2.2.2)))
      (first
        | (go_at_call 136; (with_reducible refine (Task.NewScript_any (row1d _ q v) HONE.out HMIL.out).mono ?_); rintro e w5 ⟨kk, qd, rfl, h1, h2, h3, hb⟩; have HP5 := Lib.hid (And.intro h1 (And.intro (Nat.le_trans (bl_a (Below.refl wc.heap.size wc)).drew.size h2) (And.intro (Nat.le_trans (bl_a (Below.refl wc.heap.size wc)).drew.size h3) (bl_b (bl_a (Below.refl wc.heap.size wc)).drew hb)))); clear h1 h2 h3 hb)
        | (go_at_call 42; refine (HEND.out _ _ _ HP5.out.1 (Nat.le_trans HB.out.size HP5.out.2.1) (Nat.le_trans HB.out.size HP5.out.2.2.1) (bl_b HB.out HP5.out.2.2.2)).mono ?_; rintro e w6 ⟨rfl, h8, h⟩; have HE := Lib.hid (And.intro h (HK3.out _ _ _ _ HP5.out.2.2.2 HP5.out.2.1 HP5.out.2.2.1 h8)); clear h h8)
        | fail)
    all_goals go_wp2
    all_goals exact bodyPost_end (results_none rfl _ _ _) rfl ⟨rfl, HE.out.1⟩
end Go.Proofs.YtlagghghbpbcbaaGreatDoor.Ins

/- Package start (layer 31): how an inserter goes on from letting its timer live to lifting it, to letting go of it, and to waking who sleeps too long. -/
namespace Go.Proofs.YtlagghghbpbcbaaGreatDoor.Ins
set_option maxRecDepth 20000
open Go.ChangeShapes Go.WideShapes Go.RowKit CM DM PM KM InM Lay Ints Plan Go.Proofs.YtlagghghbpbcbaaGreatDoor.Flows
open Go.Proofs.YtlagghghbpbcbaaGreatDoor.Limbo (Lim)
open LM (Ls lenL addL R2)
open Go.Proofs.YtlagghghbpbcbaaGreatDoor.Mint (Makes)
open Go.Proofs.YtlagghghbpbcbaaGreatDoor.Stl (Settles)
open Go.Proofs.YtlagghghbpbcbaaGreatDoor.Lift (Lifts)
open Go.Proofs.YtlagghghbpbcbaaGreatDoor.Task (Cloned)
set_option linter.unusedVariables false
set_option linter.unusedSimpArgs false

theorem bm_b {w W W' : World} (hb : Below w.heap.size w W) (h : Below W.heap.size W W') : Below w.heap.size w W' := hb.trans (h.mono hb.size)
/-- The timer is lifted: it is let go of. -/
theorem letGo_any {w : World} {p d : Nat} {S : Nat → Prop} {T N L G i dl dw tw tall : Int} {l k : Nat} {lb : Ls} {m : MiM.St} {s : LfM.St} (h : Freed (LiftI T N L G m.r dl m.sq tall k) (Bd T N L G l i dl dw tw tall lb m true Zf) 135 w p d S s) (hm : InM.Done m) (hL : L ≤ 9223372036854775807) :
    Calls Tryz.prog 149 #[.pointer (some ⟨p, 0, none⟩)] w fun e w2 => e = .returned (.tuple #[]) ∧ ∃ S2, Phase 133 (meth 159 p) (SettI T N L G m.r dl m.sq k) (Bd T N L G l i dl dw tw tall lb m true Zs) 135 w2 p d S2 StM.new ∧ Grown w w2 S S2 ∧ Anew 135 p d w w2 ∧ Same p 11 w w2 := by
  obtain ⟨h1, h2, q0, SM, X, rest, hF, hI, ⟨qm, U, V, SL, rfl, ⟨⟨ql, rfl⟩, rfl⟩, hmk, hqm, hlim, hSL, hqs⟩, h3, h4⟩ := h
  obtain ⟨hk, h7⟩ := hm
  have HR := Lib.hid (fun (W : World) (hb : Below w.heap.size w W) => Mint.Ref_any (hmk.only (only_below (fun _ => False) hb) id))
  have HY := Lib.hid (fun (W : World) (hb : Below w.heap.size w W) => Mint.Key_any (hmk.only (only_below (fun _ => False) hb) id))
  rw [show MiM.refI m = m.r from if_pos h7] at HR
  rw [show MiM.keyI dl m = (dl, m.sq) from if_pos h7] at HY
  have HSE := Lib.hid (fun W : World => Stl.Settle_any T N L G m.r dl m.sq hL hk.2.2.1 W)
  have HK := Lib.hid (show ∀ W, Below w.heap.size w W → (W.cell? ⟨p, 2, none⟩ = some (.int .i64 T) ∧ W.cell? ⟨p, 3, none⟩ = some (.int .i64 N) ∧ W.cell? ⟨p, 4, none⟩ = some (.int .i64 L) ∧ W.cell? ⟨p, 5, none⟩ = some (.int .u64 G)) ∧ W.cell? ⟨p, 9, none⟩ = some (.pointer (some ⟨qm, 0, none⟩)) ∧ W.frozen? ⟨p, 11, none⟩ = false from fun W hb => by
    have g := hF.later hb
    obtain ⟨k1, k2, k3, k4, k5, -⟩ := cells_rs g
    exact ⟨k1, k5, thawed_rs g 11⟩)
  have HF := Lib.hid (fun W (v : Value) (hb : Below w.heap.size w W) => set_settle (hF.later hb) v)
  have HS := Lib.hid (show ∀ W0 v, Below w.heap.size w W0 → (fun W => (W.cell? ⟨p, 2, none⟩ = some (.int .i64 T) ∧ W.cell? ⟨p, 3, none⟩ = some (.int .i64 N) ∧ W.cell? ⟨p, 4, none⟩ = some (.int .i64 L) ∧ W.cell? ⟨p, 5, none⟩ = some (.int .u64 G)) ∧ W.cell? ⟨p, 9, none⟩ = some (.pointer (some ⟨qm, 0, none⟩)) ∧ W.frozen? ⟨p, 11, none⟩ = false) (W0.setCell ⟨p, 11, none⟩ v) from fun W0 v hb => by
    have g := set_settle (hF.later hb) v
    obtain ⟨k1, k2, k3, k4, k5, -⟩ := cells_rs g
    exact ⟨k1, k5, thawed_rs g 11⟩)
  have HC := Lib.hid (show ∀ W, Below w.heap.size w W → W.cell? ⟨p, 11, none⟩ = some (.pointer none) from fun W hb => (cells_rs (hF.later hb)).2.2.2.2.2.2.1)
  have HEND := Lib.hid (show ∀ w3 qs SB, Settles w3 qs SB T N L G m.r dl m.sq 0 StM.new → (∀ j, SB j → w.heap.size ≤ j ∧ j < w3.heap.size) → Below w.heap.size w w3 →
      Calls Tryz.prog 42 #[.pointer (some ⟨p, 0, none⟩), itf 133 qs, meth 159 p] (w3.setCell ⟨p, 11, none⟩ (.pointer (some ⟨qs, 0, none⟩))).drew fun e w2 => e = .returned (.tuple #[]) ∧ ∃ S2, Phase 133 (meth 159 p) (SettI T N L G m.r dl m.sq k) (Bd T N L G l i dl dw tw tall lb m true Zs) 135 w2 p d S2 StM.new ∧ Grown w w2 S S2 ∧ Anew 135 p d w w2 ∧ Same p 11 w w2 from fun w3 qs SB g1 g2 g3 => by
    have ho : Only (fun j => j = p) w3 (w3.setCell ⟨p, 11, none⟩ (.pointer (some ⟨qs, 0, none⟩))).drew := (only_setCell (R := fun j => j = p) w3 (p := ⟨p, 11, none⟩) rfl _).then_below (Below.refl _ _).drew
    have hpw := h2 p h1
    have hz := g3.size
    have hz2 := ho.size
    have g4 : SettI T N L G m.r dl m.sq k qs w3 SB StM.new := ⟨0, Nat.zero_le k, g1⟩
    have hnp : ∀ j, SB j → j ≠ p := fun j e z => by have := (g2 j e).1; omega
    have hlt : ∀ j, X j → j < w.heap.size := fun j e => h2 j (h3 j (.inr e)).1
    refine (Given.made (sett_ask T N L G m.r dl m.sq k) (E2 := Bd T N L G l i dl dw tw tall lb m true Zs) (Bd_keeps Zs_stays) (meth_then _ p) (S := fun j => S j ∨ SB j) (s2 := StM.new) ⟨.inl h1, fun j e => e.elim (fun e => by have := h2 j e; omega) fun e => by have := (g2 j e).2; omega,
        none, _, SB, X, (set_settle (hF.later g3) (.pointer (some ⟨qs, 0, none⟩))).later (Below.refl _ _).drew, (sett_ask T N L G m.r dl m.sq k).only g4 ho hnp,
        ⟨qm, _, _, SL, rfl, ⟨⟨ql, rfl⟩, rfl⟩, (hmk.only (only_below (fun _ => False) g3) id).only ho (fun e => (h3 qm (.inr hqm)).2 e), hqm, (hlim.later g3).only ho (fun j e z => (h3 j (.inr (hSL j z))).2 e), hSL, hqs⟩,
        fun j e => e.elim (fun e => ⟨.inr e, hnp j e⟩) fun e => ⟨.inl (h3 j (.inr e)).1, (h3 j (.inr e)).2⟩, fun j e z => by have h5 := (g2 j e).1; have h6 := hlt j z; omega⟩ (new_step)).mono ?_
    rintro e w5 ⟨rfl, S2, k1, k2, k3, k4⟩
    exact ⟨rfl, S2, k1, ⟨((only_below S g3).more ho fun j e => .inl (e ▸ h1)).more k2.1 fun j e => e.imp id fun e => by have := (g2 j e).1; omega, fun j e => (k2.2 j e).elim (fun e => e.imp id fun e => by have h5 := g2 j e; have h6 := k2.1.size; omega) fun e => .inr (by omega)⟩, k3.more (by omega), ((((Same.heads hF (hF.later g3)).trans (Same.set (hF.later g3) (Nat.le_refl 11) (.pointer (some ⟨qs, 0, none⟩))))).trans (Same.heads (set_settle (hF.later g3) (.pointer (some ⟨qs, 0, none⟩))) ((set_settle (hF.later g3) (.pointer (some ⟨qs, 0, none⟩))).later (Below.refl _ _).drew))).trans (k4 11)⟩)
  clear hF hI hmk hlim hL hk h3 h4 hSL hqs
  go_enter Tryz.func149, Tryz.ntmps149
  go_upto_region 0 with fail
  go_region_held3 (fun W => (W.cell? ⟨p, 2, none⟩ = some (.int .i64 T) ∧ W.cell? ⟨p, 3, none⟩ = some (.int .i64 N) ∧ W.cell? ⟨p, 4, none⟩ = some (.int .i64 L) ∧ W.cell? ⟨p, 5, none⟩ = some (.int .u64 G)) ∧ W.cell? ⟨p, 9, none⟩ = some (.pointer (some ⟨qm, 0, none⟩)) ∧ W.frozen? ⟨p, 11, none⟩ = false)
    ((first | (with_reducible exact HK.out _ (Below.refl _ _).drew) | (with_reducible assumption) | (with_reducible exact HK.out _ HB2.out) | (with_reducible exact HK.out _ HB3.out.2.2) | exact HS.out _ _ HB3.out.2.2))
    (first
      | (go_at_call 81; refine (HR.out _ ((Below.refl w.heap.size w).drew)).mono ?_; rintro e w' ⟨rfl, rfl⟩)
      | (go_at_call 129; refine (HY.out _ ((Below.refl w.heap.size w).drew)).mono ?_; rintro e w2 ⟨rfl, hb⟩; have HB2 := Lib.hid ((Below.refl w.heap.size w).drew.trans (hb.mono (Nat.le_refl _))); clear hb)
      | (go_at_call 158; refine (HSE.out _).mono ?_; rintro e w3 ⟨qs, SB, rfl, g1, g2, g3⟩; have HB3 := Lib.hid (And.intro g1 (And.intro g2 (HB2.out.trans (g3.mono HB2.out.size)))); have hc11 := HC.out _ HB3.out.2.2; clear g1 g2 g3))
  obtain ⟨g1, g2, g3⟩ := HB3.out
  have HTO := Lib.hid (HEND.out w3 qs SB g1 (fun j e => ⟨Nat.le_trans HB2.out.size (g2 j e).1, (g2 j e).2⟩) g3)
  have c11 := (cells_rs (HF.out w3 (.pointer (some ⟨qs, 0, none⟩)) g3)).2.2.2.2.2.2.1
  have hf := hmf
  clear g1 g2 g3 hc11
  go_upto_region 1 with fail
  go_region_with (go_at_call 42; refine HTO.out.mono ?_; rintro e w5 ⟨rfl, h⟩; have HE := Lib.hid h; clear h)
  all_goals go_wp2
  all_goals exact bodyPost_end (results_none rfl _ _ _) rfl ⟨rfl, HE.out⟩
theorem same_keep {w w' : World} {p : Nat} {T N L G tall : Int} {qm ql : Nat} (h : (fun W => (W.cell? ⟨p, 2, none⟩ = some (.int .i64 T) ∧ W.cell? ⟨p, 3, none⟩ = some (.int .i64 N) ∧ W.cell? ⟨p, 4, none⟩ = some (.int .i64 L) ∧ W.cell? ⟨p, 5, none⟩ = some (.int .u64 G)) ∧ W.cell? ⟨p, 8, none⟩ = some (.int .i64 tall) ∧ W.cell? ⟨p, 9, none⟩ = some (.pointer (some ⟨qm, 0, none⟩)) ∧ W.cell? ⟨p, 10, none⟩ = some (.pointer (some ⟨ql, 0, none⟩))) w) (hs : Same p 11 w w') : (fun W => (W.cell? ⟨p, 2, none⟩ = some (.int .i64 T) ∧ W.cell? ⟨p, 3, none⟩ = some (.int .i64 N) ∧ W.cell? ⟨p, 4, none⟩ = some (.int .i64 L) ∧ W.cell? ⟨p, 5, none⟩ = some (.int .u64 G)) ∧ W.cell? ⟨p, 8, none⟩ = some (.int .i64 tall) ∧ W.cell? ⟨p, 9, none⟩ = some (.pointer (some ⟨qm, 0, none⟩)) ∧ W.cell? ⟨p, 10, none⟩ = some (.pointer (some ⟨ql, 0, none⟩))) w' := by
  obtain ⟨⟨k1, k2, k3, k4⟩, k5, k6, k7⟩ := h
  exact ⟨⟨(hs 2 (by omega) (by omega)).trans k1, (hs 3 (by omega) (by omega)).trans k2, (hs 4 (by omega) (by omega)).trans k3, (hs 5 (by omega) (by omega)).trans k4⟩, (hs 8 (by omega) (by omega)).trans k5, (hs 9 (by omega) (by omega)).trans k6, (hs 10 (by omega) (by omega)).trans k7⟩
set_option maxHeartbeats 1000000 in
/-- The timer is let live: it is lifted. -/
theorem raise_any {w : World} {p d : Nat} {S : Nat → Prop} {T N L G i dl dw tw tall : Int} {l k : Nat} {lb : Ls} {m : MiM.St} {s : LiM.St} {fs : List Int} {dv : D} {Q : World → Prop} (h : Freed (ScrI [dv]) (Bd T N L G l i dl dw tw tall lb m false (Zv T N L G dl tall m s k)) 135 w p d S fs) (hm : InM.Done m) (hL : 1 ≤ L ∧ L ≤ 9223372036854775807) (hk1 : k ≤ 1000000) (h0 : s.st = 0)
    (HTO : ∀ w3 q S3, Given (LiftI T N L G m.r dl m.sq tall k) (Bd T N L G l i dl dw tw tall lb m true Zf) 135 w3 p d q S3 (LfM.reach tall 1 0 s.ps s.ss) → Grown w w3 S S3 →
      Calls Tryz.prog 42 #[.pointer (some ⟨p, 0, none⟩), itf 194 q, meth 149 p] w3 fun e w' => e = .returned (.tuple #[]) ∧ Same p 11 w3 w' ∧ Q w') :
    Calls Tryz.prog 137 #[.pointer (some ⟨p, 0, none⟩)] w fun e w2 => e = .returned (.tuple #[]) ∧ Q w2 := by
  obtain ⟨h1, h2, q0, SM, X, rest, hF, hI, ⟨qm, U, V, SL, rfl, ⟨ql, SK, rfl, rfl, ⟨j0, hj0, hlk⟩, hSK⟩, hmk, hqm, hlim, hSL, hqs⟩, h3, h4⟩ := h
  obtain ⟨hk, h7⟩ := hm
  have hXp : ∀ j, X j → j ≠ p := fun j e => (h3 j (.inr e)).2
  have hlkk := hlk.1
  have hfew := hlkk.few
  have hlen := hlkk.len (by rw [h0]; decide)
  obtain ⟨n1, hn1⟩ : ∃ n1, n1 = s.ps.length := ⟨_, rfl⟩
  obtain ⟨n2, hn2⟩ : ∃ n2, n2 = s.ss.length := ⟨_, rfl⟩
  have HN := Lib.hid (show (n1 = s.ps.length ∧ n1 ≤ 1000000) ∧ (n2 = s.ss.length ∧ n2 ≤ 1000000) from ⟨⟨hn1, by omega⟩, hn2, by omega⟩)
  have HLF := Lib.hid (fun (W : World) {A1 A2 : Option Addr} (c1 c2 : Nat) (hQ : Row W W.heap.size A1 (flat (encZ .u64) s.ps)) (hR : Row W W.heap.size A2 (flat (encZ .u64) s.ss)) => Lift.Lift_any T N L G m.r dl m.sq tall hL hk.2.2.1 c1 c2 hQ hR HN.out.1.1 HN.out.2.1 HN.out.1.2 HN.out.2.2 hlkk.ps hlkk.ss)
  have HW1 := Lib.hid (show ∀ W1, W1 = w.setCell ⟨p, 12, none⟩ (.bool true) →
      (∀ W, Below W1.heap.size W1 W → Calls Tryz.prog 81 #[.pointer (some ⟨qm, 0, none⟩)] W fun e w' => e = .returned (.int .u64 m.r) ∧ W = w') ∧
      (∀ W, Below W1.heap.size W1 W → Calls Tryz.prog 129 #[.pointer (some ⟨qm, 0, none⟩)] W (Mint.Keyed W (dl, m.sq))) ∧
      (∀ W, Below W1.heap.size W1 W → Calls Tryz.prog 147 #[.pointer (some ⟨ql, 0, none⟩)] W (Cloned (encZ .u64) W n1 s.ps)) ∧
      (∀ W, Below W1.heap.size W1 W → Calls Tryz.prog 148 #[.pointer (some ⟨ql, 0, none⟩)] W (Cloned (encZ .u64) W n2 s.ss)) ∧
      (∀ W, Below W1.heap.size W1 W → (W.cell? ⟨p, 2, none⟩ = some (.int .i64 T) ∧ W.cell? ⟨p, 3, none⟩ = some (.int .i64 N) ∧ W.cell? ⟨p, 4, none⟩ = some (.int .i64 L) ∧ W.cell? ⟨p, 5, none⟩ = some (.int .u64 G)) ∧ W.cell? ⟨p, 8, none⟩ = some (.int .i64 tall) ∧ W.cell? ⟨p, 9, none⟩ = some (.pointer (some ⟨qm, 0, none⟩)) ∧ W.cell? ⟨p, 10, none⟩ = some (.pointer (some ⟨ql, 0, none⟩))) ∧
      (∀ w5 q S', Lifts w5 q S' T N L G m.r dl m.sq tall 0 (LfM.reach tall 1 0 s.ps s.ss) → (∀ j, S' j → W1.heap.size ≤ j ∧ j < w5.heap.size) → Below W1.heap.size W1 w5 →
        Calls Tryz.prog 42 #[.pointer (some ⟨p, 0, none⟩), itf 194 q, meth 149 p] w5 fun e w' => e = .returned (.tuple #[]) ∧ Same p 11 w5 w' ∧ Q w') from fun W1 eW => by
    have ho : Only (fun j => j = p) w W1 := by rw [eW]; exact only_setCell (R := fun j => j = p) w (p := ⟨p, 12, none⟩) rfl _
    have hF1 := set_lives hF true
    rw [← eW] at hF1
    have hmk1 := hmk.only ho (hXp _ hqm)
    have hlk1 := hlk.only ho fun j e z => hXp j (hSK j e) z
    have hlim1 := hlim.only ho fun j e z => hXp j (hSL j z) e
    have hz := ho.size
    refine ⟨fun W hb => ?_, fun W hb => ?_, fun W hb => Preds_any (hlk1.later hb) HN.out.1.1 HN.out.1.2 h0, fun W hb => Succs_any (hlk1.later hb) HN.out.2.1 HN.out.2.2 h0, fun W hb => ?_, fun w5 q S' g1 g2 g3 => ?_⟩
    · have := Mint.Ref_any (hmk1.only (only_below (fun _ => False) hb) id)
      rwa [show MiM.refI m = m.r from if_pos h7] at this
    · have := Mint.Key_any (hmk1.only (only_below (fun _ => False) hb) id)
      rwa [show MiM.keyI dl m = (dl, m.sq) from if_pos h7] at this
    · obtain ⟨k1, k2, k3, k4, k5, k6, -⟩ := cells_rs (hF1.later hb)
      exact ⟨k1, k4, k5, k6⟩
    · have hz3 := g3.size
      have hpw := h2 p h1
      have hlt : ∀ j, X j → j < w.heap.size := fun j e => h2 j (h3 j (.inr e)).1
      refine HTO w5 q (fun j => S j ∨ S' j) ⟨.inl h1, fun j e => e.elim (fun e => by have := h2 j e; omega) fun e => (g2 j e).2, none, _, S', X, hF1.later g3, ⟨0, Nat.zero_le k, g1⟩, ⟨qm, _, _, SL, rfl, ⟨⟨ql, rfl⟩, rfl⟩, hmk1.only (only_below (fun _ => False) g3) id, hqm, hlim1.later g3, hSL, hqs⟩,
        fun j e => e.elim (fun e => ⟨.inr e, by have := (g2 j e).1; omega⟩) (fun e => ⟨.inl (h3 j (.inr e)).1, hXp j e⟩), fun j e z => by have h5 := (g2 j e).1; have h6 := hlt j z; omega⟩ ⟨(ho.wide fun j e => .inl (e ▸ h1)).more (only_below S g3) fun j e => .inl e, fun j e => e.imp id fun e => ⟨by have := (g2 j e).1; omega, (g2 j e).2⟩⟩)
  have c12 := (cells_rs hF).2.2.2.2.2.2.2
  have f12 := thawed_rs hF 12
  clear hF hI hmk hlk hlim hL hk h3 h4 hSL hqs hXp hlkk hfew hlen hSK hn1 hn2 HTO
  go_enter Tryz.func137, Tryz.ntmps137
  go_upto_region 1 with fail
  generalize hW1 : w.setCell ⟨p, 12, none⟩ (.bool true) = W1
  have HX := Lib.hid (HW1.out W1 hW1.symm)
  clear hW1 HW1 c12 f12
  have HD1 := Lib.hid (HX.out.2.2.2.2.1 _ (Below.refl W1.heap.size W1).drew)
  have hf := hmf
  go_region_held3 (fun W => (W.cell? ⟨p, 2, none⟩ = some (.int .i64 T) ∧ W.cell? ⟨p, 3, none⟩ = some (.int .i64 N) ∧ W.cell? ⟨p, 4, none⟩ = some (.int .i64 L) ∧ W.cell? ⟨p, 5, none⟩ = some (.int .u64 G)) ∧ W.cell? ⟨p, 8, none⟩ = some (.int .i64 tall) ∧ W.cell? ⟨p, 9, none⟩ = some (.pointer (some ⟨qm, 0, none⟩)) ∧ W.cell? ⟨p, 10, none⟩ = some (.pointer (some ⟨ql, 0, none⟩)))
    ((first | (with_reducible exact HD1.out) | (with_reducible assumption) | (with_reducible exact HE.out.1) | (with_reducible exact HX.out.2.2.2.2.1 _ HB2.out) | (with_reducible exact HX.out.2.2.2.2.1 _ HB3.out.2) | (with_reducible exact HX.out.2.2.2.2.1 _ HB4.out.2.2) | (with_reducible exact HX.out.2.2.2.2.1 _ HB5.out.2.2)))
    (first
      | (go_at_call 81; refine (HX.out.1 _ (Below.refl W1.heap.size W1).drew).mono ?_; rintro e w' ⟨rfl, rfl⟩)
      | (go_at_call 129; refine (HX.out.2.1 _ (Below.refl W1.heap.size W1).drew).mono ?_; rintro e w2 ⟨rfl, hb⟩; have HB2 := Lib.hid (bm_b (Below.refl W1.heap.size W1).drew hb); clear hb)
      | (go_at_call 147; refine (HX.out.2.2.1 _ HB2.out).mono ?_; rintro e w3 ⟨A1, c1, rfl, hr, -, hb⟩; have HB3 := Lib.hid (And.intro hr (bm_b HB2.out hb)); clear hr hb)
      | (go_at_call 148; refine (HX.out.2.2.2.1 _ HB3.out.2).mono ?_; rintro e w4 ⟨A2, c2, rfl, hr, -, hb⟩; have HB4 := Lib.hid (And.intro (HB3.out.1.later hb) (And.intro hr (bm_b HB3.out.2 hb))); clear hr hb)
      | (go_at_call 146; refine (HLF.out _ c1 c2 HB4.out.1 HB4.out.2.1).mono ?_; rintro e w5 ⟨q, S', rfl, g1, g2, hb⟩; have HB5 := Lib.hid (And.intro g1 (And.intro g2 (bm_b HB4.out.2.2 hb))); clear g1 g2 hb)
      | (go_at_call 42; refine (HX.out.2.2.2.2.2 _ _ _ HB5.out.1 (fun j e => And.intro (Nat.le_trans HB4.out.2.2.size (HB5.out.2.1 j e).1) (HB5.out.2.1 j e).2) HB5.out.2.2).mono ?_; rintro e w6 ⟨rfl, h8, h⟩; have HE := Lib.hid (And.intro (same_keep (HX.out.2.2.2.2.1 _ HB5.out.2.2) h8) h); clear h h8))
  all_goals go_wp2
  all_goals exact bodyPost_end (results_none rfl _ _ _) rfl ⟨rfl, HE.out.2⟩
end Go.Proofs.YtlagghghbpbcbaaGreatDoor.Ins

/- Package start (layer 31): how an inserter goes on from letting go of its timer to waking who sleeps too long. -/
namespace Go.Proofs.YtlagghghbpbcbaaGreatDoor.Ins
set_option maxRecDepth 20000
open Go.ChangeShapes Go.WideShapes Go.RowKit CM DM PM KM InM Lay Ints Plan Go.Proofs.YtlagghghbpbcbaaGreatDoor.Flows
open Go.Proofs.YtlagghghbpbcbaaGreatDoor.Limbo (Lim Add_any Turns)
open LM (Ls lenL addL R2)
open Go.Proofs.YtlagghghbpbcbaaGreatDoor.Mint (Makes)
open Go.Proofs.YtlagghghbpbcbaaGreatDoor.Stl (Settles Retired_any)
open Go.Proofs.YtlagghghbpbcbaaGreatDoor.Wkr (Wakes Wake_any)
set_option linter.unusedVariables false
set_option linter.unusedSimpArgs false
/-- What a limbo becomes. -/
def addO (lb : Ls) : Option R2 → Ls
  | none => lb
  | some x => addL lb x
theorem bw_b {w W W' : World} (hb : Below w.heap.size w W) (h : Below W.heap.size W W') : Below w.heap.size w W' := hb.trans (h.mono hb.size)
theorem same_keep3 {w w' : World} {p : Nat} {T N L G : Int} {qm : Nat} (h : (fun W => (W.cell? ⟨p, 2, none⟩ = some (.int .i64 T) ∧ W.cell? ⟨p, 3, none⟩ = some (.int .i64 N) ∧ W.cell? ⟨p, 4, none⟩ = some (.int .i64 L) ∧ W.cell? ⟨p, 5, none⟩ = some (.int .u64 G)) ∧ W.cell? ⟨p, 9, none⟩ = some (.pointer (some ⟨qm, 0, none⟩))) w) (hs : Same p 12 w w') : (fun W => (W.cell? ⟨p, 2, none⟩ = some (.int .i64 T) ∧ W.cell? ⟨p, 3, none⟩ = some (.int .i64 N) ∧ W.cell? ⟨p, 4, none⟩ = some (.int .i64 L) ∧ W.cell? ⟨p, 5, none⟩ = some (.int .u64 G)) ∧ W.cell? ⟨p, 9, none⟩ = some (.pointer (some ⟨qm, 0, none⟩))) w' := by
  obtain ⟨⟨k1, k2, k3, k4⟩, k6⟩ := h
  exact ⟨⟨(hs 2 (by omega) (by omega)).trans k1, (hs 3 (by omega) (by omega)).trans k2, (hs 4 (by omega) (by omega)).trans k3, (hs 5 (by omega) (by omega)).trans k4⟩, (hs 9 (by omega) (by omega)).trans k6⟩
/-- What the last step of wakeOthers finds, and ends in. -/
structure Tail (w W1 : World) (p d : Nat) (S : Nat → Prop) (T N L G : Int) (l : Nat) (i dl dw tw tall : Int) (lb1 : Ls) (m : MiM.St) (qm : Nat) : Prop where
  key : ∀ W, Below W1.heap.size W1 W → Calls Tryz.prog 129 #[.pointer (some ⟨qm, 0, none⟩)] W (Mint.Keyed W (dl, m.sq))
  keep : ∀ W, Below W1.heap.size W1 W → (W.cell? ⟨p, 2, none⟩ = some (.int .i64 T) ∧ W.cell? ⟨p, 3, none⟩ = some (.int .i64 N) ∧ W.cell? ⟨p, 4, none⟩ = some (.int .i64 L) ∧ W.cell? ⟨p, 5, none⟩ = some (.int .u64 G)) ∧ W.cell? ⟨p, 9, none⟩ = some (.pointer (some ⟨qm, 0, none⟩))
  goes : ∀ w5 q, Wakes w5 q T N L G dl WkM.start → W1.heap.size ≤ q → Below W1.heap.size W1 w5 →
    Calls Tryz.prog 42 #[.pointer (some ⟨p, 0, none⟩), itf 216 q, .nilFunc] w5 fun e w' => e = .returned (.tuple #[]) ∧ Same p 12 w5 w' ∧ ∃ S2, Phase 216 .nilFunc (WakeI T N L G dl) (Bd T N L G l i dl dw tw tall lb1 m true Zw) 135 w' p d S2 WkM.start ∧ Grown w w' S S2 ∧ Anew 135 p d w w'
theorem tail_of {w : World} {p d : Nat} {S : Nat → Prop} {T N L G i dl dw tw tall : Int} {l : Nat} {m : MiM.St} {q0 qm ql : Nat} {X SL : Nat → Prop} (h1 : S p) (h2 : ∀ j, S j → j < w.heap.size) (hX : ∀ j, X j → S j ∧ j ≠ p) (hF : HeadAt w p none d [.int .i64 T, .int .i64 N, .int .i64 L, .int .u64 G, .pointer (some ⟨l, 0, none⟩), .int .i64 i, .int .i64 tall, .pointer (some ⟨qm, 0, none⟩), .pointer (some ⟨ql, 0, none⟩), .pointer (some ⟨q0, 0, none⟩), .bool true] 135)
    (hmk : Makes w qm T L i dl dw tw m) (hm : InM.Done m) (hqm : X qm) (hSL : ∀ j, SL j → X j) (hqs : ¬ SL qm) (hT : 1 ≤ T ∧ T ≤ 9223372036854775807) {W1 : World} {lb1 : Ls} {SL1 : Nat → Prop} (ho : Only SL w W1) (hl : Lim W1 l SL1 lb1) (hS1 : ∀ j, SL1 j → SL j ∨ w.heap.size ≤ j) : Tail w W1 p d S T N L G l i dl dw tw tall lb1 m qm := by
  have hpw := h2 p h1
  have hpS : ¬ SL p := fun e => (hX p (hSL p e)).2 rfl
  have hF1 := hF.only ho hpS
  have hmk1 := hmk.only ho hqs
  have hz := ho.size
  have hqw := h2 qm (hX qm hqm).1
  refine ⟨fun W hb => ?_, fun W hb => ?_, fun w5 q g1 g2 g3 => ?_⟩
  · have := Mint.Key_any (hmk1.only (only_below (fun _ => False) hb) id)
    rwa [show MiM.keyI dl m = (dl, m.sq) from if_pos hm.2] at this
  · obtain ⟨k1, k2, k3, k4, k5, -⟩ := cells_rs (hF1.later hb)
    exact ⟨k1, k5⟩
  · have hz3 := g3.size
    have hl1 := hl.lt
    have hq5 := Wakes.lt g1
    refine (Given.made (wake_task T N L G dl).asks (E2 := Bd T N L G l i dl dw tw tall lb1 m true Zw) (Bd_keeps Zw_stays) (.inl rfl) (S := fun j => S j ∨ SL1 j ∨ j = q) (s2 := WkM.start) ⟨.inl h1, fun j e => by
        rcases e with e | e | e
        · have := h2 j e; omega
        · have := hl1 j e; omega
        · omega, none, _, fun j => j = q, fun j => X j ∨ SL1 j, hF1.later g3, ⟨g1, rfl, fun j e => e ▸ hq5⟩,
        ⟨qm, _, _, SL1, rfl, ⟨⟨ql, rfl⟩, q0, rfl⟩, hmk1.only (only_below (fun _ => False) g3) id, .inl hqm, hl.later g3, fun j e => .inr e, fun e => (hS1 qm e).elim hqs fun e => by omega⟩,
        fun j e => ?_, fun j e z => ?_⟩ (wake_step hT.1)).mono ?_
    · rcases e with e | e | e
      · exact ⟨.inr (.inr e), by omega⟩
      · exact ⟨.inl (hX j e).1, (hX j e).2⟩
      · exact ⟨.inr (.inl e), fun z => by subst z; exact (hS1 _ e).elim hpS fun e => by omega⟩
    · subst e
      rcases z with z | z
      · have := h2 j (hX j z).1; omega
      · have := hl1 j z; omega
    · rintro e w' ⟨rfl, S2, k1, k2, k3, k4⟩
      have hz6 := k2.1.size
      refine ⟨rfl, k4 12, S2, k1, ⟨((ho.wide fun j e => .inl (hX j (hSL j e)).1).more (only_below S g3) fun j e => .inl e).more k2.1 fun j e => ?_, fun j e => ?_⟩, k3.more (by omega)⟩
      · rcases e with e | e | e
        · exact .inl e
        · exact (hS1 j e).imp (fun e => (hX j (hSL j e)).1) id
        · exact .inr (by omega)
      · rcases k2.2 j e with e | e
        · rcases e with e | e | e
          · exact .inl e
          · exact (hS1 j e).imp (fun e => (hX j (hSL j e)).1) fun z => ⟨z, by have := hl1 j e; omega⟩
          · exact .inr (by omega)
        · exact .inr (by omega)
set_option maxHeartbeats 1000000 in
/-- The timer is let go of: who sleeps too long is woken. -/
theorem wakeOthers_any {w : World} {p d : Nat} {S : Nat → Prop} {T N L G i dl dw tw tall : Int} {l k : Nat} {lb : Ls} {m : MiM.St} {s : StM.St} (h : Freed (SettI T N L G m.r dl m.sq k) (Bd T N L G l i dl dw tw tall lb m true Zs) 135 w p d S s) (hm : InM.Done m) (h0 : s.st = 0) (hok : StM.Ok L k s) (hT : 1 ≤ T ∧ T ≤ 9223372036854775807) (hlb : lenL lb ≤ 1000000) :
    Calls Tryz.prog 159 #[.pointer (some ⟨p, 0, none⟩)] w fun e w2 => e = .returned (.tuple #[]) ∧ ∃ S2, Phase 216 .nilFunc (WakeI T N L G dl) (Bd T N L G l i dl dw tw tall (addO lb (retS L dl m s)) m true Zw) 135 w2 p d S2 WkM.start ∧ Grown w w2 S S2 ∧ Anew 135 p d w w2 := by
  obtain ⟨h1, h2, q0, SM, X, rest, hF, ⟨j0, hj0, hse⟩, ⟨qm, U, V, SL, rfl, ⟨⟨ql, rfl⟩, rfl⟩, hmk, hqm, hlim, hSL, hqs⟩, h3, h4⟩ := h
  have HRE := Lib.hid (Retired_any hse)
  have HTL := Lib.hid (fun (W1 : World) (lb1 : Ls) (SL1 : Nat → Prop) (ho : Only SL w W1) (hl : Lim W1 l SL1 lb1) hS1 => tail_of h1 h2 (fun j e => h3 j (.inr e)) hF hmk hm hqm hSL hqs hT ho hl hS1)
  have HWK := Lib.hid (fun W : World => Wake_any hT.2 N L G dl W)
  have c11 := (cells_rs hF).2.2.2.2.2.2.1
  by_cases hw : s.wt = true
  · have hr : retS L dl m s = some (m.r, s.ep) := if_pos ⟨h0, hw⟩
    rw [hr]
    rw [hw] at HRE
    simp only [if_true] at HRE
    have HADD := Lib.hid (fun (W : World) (hb : Below w.heap.size w W) => Add_any (r := m.r) (hlim.later hb) hlb hok.ep.1)
    have HPS := Lib.hid (show ¬ SL p ∧ ∀ j, SL j → j < w.heap.size from ⟨fun e => (h3 p (.inr (hSL p e))).2 rfl, fun j e => h2 j (h3 j (.inr (hSL j e))).1⟩)
    have HC6 := Lib.hid (fun (W : World) (ho : Only SL w W) => (cells_rs (hF.only ho HPS.out.1)).2.1)
    clear hF hse hmk hm hqm hlim hSL hqs h3 h4 hT hok hr hw
    go_enter Tryz.func159, Tryz.ntmps159
    go_wp2_with fail
    refine HRE.out.mono ?_
    rintro e w1 ⟨rfl, hb⟩
    have HB1 := Lib.hid hb
    clear c11 hb
    go_upto_region 2 with fail
    generalize hW0 : w1.alloc (.cells #[.int .u64 m.r, .int .u64 s.ep] 208) = W0
    have HB0 := Lib.hid (show W0.heap[w1.heap.size]? = some (.cells #[.int .u64 m.r, .int .u64 s.ep] 208) ∧ w.heap.size ≤ w1.heap.size ∧ Below w.heap.size w W0 from by
      rw [← hW0]
      exact ⟨new_heap _ _, HB1.out.size, bw_b HB1.out (box_below _ _)⟩)
    clear hW0 HB1
    have HK6 := Lib.hid (show ∀ W, Only SL W0 W → W.cell? ⟨p, 6, none⟩ = some (.pointer (some ⟨l, 0, none⟩)) ∧ W.cell? ⟨w1.heap.size, 0, none⟩ = some (.int .u64 m.r) ∧ W.cell? ⟨w1.heap.size, 1, none⟩ = some (.int .u64 s.ep) from fun W ho => by
      have g := ho.heap HB0.out.1 fun e => by have h5 := HPS.out.2 _ e; have h6 := HB0.out.2.1; omega
      exact ⟨HC6.out _ ((only_below SL HB0.out.2.2).trans ho), (cell_heap g 0).1, (cell_heap g 1).1⟩)
    have HD6 := Lib.hid (HK6.out _ (only_below SL (Below.refl W0.heap.size W0).drew))
    go_region_held3 (fun W => W.cell? ⟨p, 6, none⟩ = some (.pointer (some ⟨l, 0, none⟩)) ∧ W.cell? ⟨w1.heap.size, 0, none⟩ = some (.int .u64 m.r) ∧ W.cell? ⟨w1.heap.size, 1, none⟩ = some (.int .u64 s.ep))
      ((first | (with_reducible exact HD6.out) | (with_reducible assumption) | (with_reducible exact HE2.out.1)))
      (first | (go_at_call 164; refine (HADD.out _ HB0.out.2.2.drew).mono ?_; rintro e W1 ⟨SL1, rfl, g1, g2, g3⟩; have ho1 := (only_below SL (Below.refl W0.heap.size W0).drew).trans g3; have HE2 := Lib.hid (And.intro (HK6.out _ ho1) (And.intro g1 (And.intro (fun j e => (g2 j e).imp id (Nat.le_trans HB0.out.2.2.drew.size)) ((only_below SL HB0.out.2.2).trans ho1)))); clear g1 g2 g3 ho1) | fail)
    have HX := Lib.hid (HTL.out W1 (addL lb (m.r, s.ep)) SL1 HE2.out.2.2.2 HE2.out.2.1 HE2.out.2.2.1)
    clear HTL
    go_upto_region 3 with fail
    have HD1 := Lib.hid (HX.out.keep _ (Below.refl W1.heap.size W1).drew)
    have hfd : ∀ W : World, (Instr.field 58 (.agg #[.int .i64 dl, .int .u64 m.sq]) 0).run Tryz.prog W = .ok (.int .i64 dl) W := fun _ => by kernel_rfl
    go_region_held3 (fun W => (W.cell? ⟨p, 2, none⟩ = some (.int .i64 T) ∧ W.cell? ⟨p, 3, none⟩ = some (.int .i64 N) ∧ W.cell? ⟨p, 4, none⟩ = some (.int .i64 L) ∧ W.cell? ⟨p, 5, none⟩ = some (.int .u64 G)) ∧ W.cell? ⟨p, 9, none⟩ = some (.pointer (some ⟨qm, 0, none⟩)))
      ((first | (with_reducible exact HD1.out) | (with_reducible assumption) | (with_reducible exact HE.out.1) | (with_reducible exact HX.out.keep _ HB2.out) | (with_reducible exact HX.out.keep _ HB3.out.2.2)))
      (first
        | (go_at_call 129; refine (HX.out.key _ (Below.refl W1.heap.size W1).drew).mono ?_; rintro e w2 ⟨rfl, hb⟩; have HB2 := Lib.hid (bw_b (Below.refl W1.heap.size W1).drew hb); clear hb)
        | (go_at_call 165; refine (HWK.out _).mono ?_; rintro e w3 ⟨q, rfl, g1, g2, g3⟩; have HB3 := Lib.hid (And.intro g1 (And.intro (Nat.le_trans HB2.out.size g2) (bw_b HB2.out g3))); clear g1 g2 g3)
        | (go_at_call 42; refine (HX.out.goes _ _ HB3.out.1 HB3.out.2.1 HB3.out.2.2).mono ?_; rintro e w6 ⟨rfl, h8, h⟩; have HE := Lib.hid (And.intro (same_keep3 (HX.out.keep _ HB3.out.2.2) h8) h); clear h h8))
    all_goals go_wp2
    all_goals exact bodyPost_end (results_none rfl _ _ _) rfl ⟨rfl, HE.out.2⟩
  · have hr : retS L dl m s = none := if_neg fun e => hw e.2
    rw [hr]
    have hw2 : s.wt = false := by simpa using hw
    rw [hw2] at HRE
    simp only [Bool.false_eq_true, if_false] at HRE
    have HB0 := Lib.hid hlim
    clear hF hse hmk hm hqm hlim hSL hqs h3 h4 hT hok hr hw hw2
    go_enter Tryz.func159, Tryz.ntmps159
    go_wp2_with fail
    refine HRE.out.mono ?_
    rintro e w1 ⟨rfl, hb⟩
    go_upto_region 3 with fail
    generalize hW1 : w1.alloc (.cells #[.int .u64 0, .int .u64 0] 208) = W1
    have HX := Lib.hid (HTL.out W1 lb SL (by rw [← hW1]; exact only_below _ (bw_b hb (box_below _ _))) (by rw [← hW1]; exact HB0.out.later (bw_b hb (box_below _ _))) (fun j e => .inl e))
    clear hW1 HTL hb
    have HD1 := Lib.hid (HX.out.keep _ (Below.refl W1.heap.size W1).drew)
    have hfd : ∀ W : World, (Instr.field 58 (.agg #[.int .i64 dl, .int .u64 m.sq]) 0).run Tryz.prog W = .ok (.int .i64 dl) W := fun _ => by kernel_rfl
    go_region_held3 (fun W => (W.cell? ⟨p, 2, none⟩ = some (.int .i64 T) ∧ W.cell? ⟨p, 3, none⟩ = some (.int .i64 N) ∧ W.cell? ⟨p, 4, none⟩ = some (.int .i64 L) ∧ W.cell? ⟨p, 5, none⟩ = some (.int .u64 G)) ∧ W.cell? ⟨p, 9, none⟩ = some (.pointer (some ⟨qm, 0, none⟩)))
      ((first | (with_reducible exact HD1.out) | (with_reducible assumption) | (with_reducible exact HE.out.1) | (with_reducible exact HX.out.keep _ HB2.out) | (with_reducible exact HX.out.keep _ HB3.out.2.2)))
      (first
        | (go_at_call 129; refine (HX.out.key _ (Below.refl W1.heap.size W1).drew).mono ?_; rintro e w2 ⟨rfl, hb⟩; have HB2 := Lib.hid (bw_b (Below.refl W1.heap.size W1).drew hb); clear hb)
        | (go_at_call 165; refine (HWK.out _).mono ?_; rintro e w3 ⟨q, rfl, g1, g2, g3⟩; have HB3 := Lib.hid (And.intro g1 (And.intro (Nat.le_trans HB2.out.size g2) (bw_b HB2.out g3))); clear g1 g2 g3)
        | (go_at_call 42; refine (HX.out.goes _ _ HB3.out.1 HB3.out.2.1 HB3.out.2.2).mono ?_; rintro e w6 ⟨rfl, h8, h⟩; have HE := Lib.hid (And.intro (same_keep3 (HX.out.keep _ HB3.out.2.2) h8) h); clear h h8))
    all_goals go_wp2
    all_goals exact bodyPost_end (results_none rfl _ _ _) rfl ⟨rfl, HE.out.2⟩
end Go.Proofs.YtlagghghbpbcbaaGreatDoor.Ins

/- Package start (layer 31): what an inserter asks for, and what it becomes when it is told a word. -/
namespace Go.Proofs.YtlagghghbpbcbaaGreatDoor.Ins
set_option maxRecDepth 20000
open Go.ChangeShapes Go.WideShapes Go.RowKit CM DM PM KM InM Lay Ints Plan Go.Proofs.YtlagghghbpbcbaaGreatDoor.Flows
open Go.Proofs.YtlagghghbpbcbaaGreatDoor.Limbo (Lim)
open LM (Ls lenL addL R2)
open Go.Proofs.YtlagghghbpbcbaaGreatDoor.Mint (Makes)
open Go.Proofs.YtlagghghbpbcbaaGreatDoor.Task (res5 set5)
open MiM (minA minT)
open LiM (linkA linkT)
open LfM (liftA liftT)
open StM (settleA settleT)
open WkM (wakeA wakeT)
set_option linter.unusedVariables false
set_option linter.unusedSimpArgs false

/-- Where the flow of an inserter stands. -/
def Stand (w : World) (p : Nat) (S : Nat → Prop) (T N L G : Int) (l : Nat) (i dl dw tw tall : Int) (k : Nat) (lb : Ls) : InM.St → Prop
  | .mint m => Phase 131 (meth 116 p) (MintI T L i dl dw tw) (Bm T N L G l i tall lb) 135 w p 0 S m
  | .link m s => Phase 132 (meth 130 p) (LinkI T N L G m.r dl m.sq tall k) (Bd T N L G l i dl dw tw tall lb m false Zl) 135 w p 0 S s
  | .live m s => Phase 180 (meth 137 p) (ScrI [(2, atI T L i 0, SM.stI (m.r / 4294967296) 2, 0, 0)]) (Bd T N L G l i dl dw tw tall lb m false (Zv T N L G dl tall m s k)) 135 w p 0 S []
  | .lift m s => Phase 194 (meth 149 p) (LiftI T N L G m.r dl m.sq tall k) (Bd T N L G l i dl dw tw tall lb m true Zf) 135 w p 0 S s
  | .settle m s => Phase 133 (meth 159 p) (SettI T N L G m.r dl m.sq k) (Bd T N L G l i dl dw tw tall lb m true Zs) 135 w p 0 S s
  | .wake m s => if s.th < T then Phase 216 .nilFunc (WakeI T N L G dl) (Bd T N L G l i dl dw tw tall lb m true Zw) 135 w p 0 S s else Idle (Bd T N L G l i dl dw tw tall lb m true Zw) 135 w p 0 S
/-- How many slots its limbo may keep. -/
def Room (lb : Ls) : InM.St → Prop
  | .wake _ _ => True
  | _ => lenL lb ≤ 1000000
/-- An inserter in block p, told k words at most: S are all its blocks; lb is what its limbo, in block l, keeps. -/
def Inserts (w : World) (p : Nat) (S : Nat → Prop) (T N L G : Int) (l : Nat) (i dl dw tw tall : Int) (k : Nat) (lb : Ls) (s : InM.St) : Prop :=
  InM.Ok T L tall k s ∧ ((1 ≤ T ∧ T ≤ 9223372036854775807) ∧ 1 ≤ L ∧ L ≤ 9223372036854775807) ∧ Room lb s ∧ Stand w p S T N L G l i dl dw tw tall k lb s
theorem Stand.only {w : World} {p k : Nat} {S : Nat → Prop} {T N L G i dl dw tw tall : Int} {l : Nat} {lb : Ls} {s : InM.St} {w' : World} {R : Nat → Prop} (h : Stand w p S T N L G l i dl dw tw tall k lb s) (ho : Only R w w') (hR : ∀ j, S j → ¬ R j) : Stand w' p S T N L G l i dl dw tw tall k lb s := by
  cases s with
  | mint m => exact Phase.only (mint_task T L i dl dw tw).asks Bm_keeps h ho hR
  | link m s => exact Phase.only (link_ask ..) (Bd_keeps Zl_stays) h ho hR
  | live m s => exact Phase.only (scr_task _).asks (Bd_keeps Zv_stays) h ho hR
  | lift m s => exact Phase.only (lift_ask ..) (Bd_keeps Zf_stays) h ho hR
  | settle m s => exact Phase.only (sett_ask ..) (Bd_keeps Zs_stays) h ho hR
  | wake m s =>
    unfold Stand at h ⊢
    simp only at h ⊢
    split at h
    · rw [if_pos ‹_›]; exact Phase.only (wake_task T N L G dl).asks (Bd_keeps Zw_stays) h ho hR
    · rw [if_neg ‹_›]; exact Idle.only (Bd_keeps Zw_stays) h ho hR
theorem Stand.own {w : World} {p k : Nat} {S : Nat → Prop} {T N L G i dl dw tw tall : Int} {l : Nat} {lb : Ls} {s : InM.St} (h : Stand w p S T N L G l i dl dw tw tall k lb s) : S p ∧ ∀ j, S j → j < w.heap.size := by
  cases s with
  | mint m => exact ⟨Phase.base h, Phase.lt h⟩
  | link m s => exact ⟨Phase.base h, Phase.lt h⟩
  | live m s => exact ⟨Phase.base h, Phase.lt h⟩
  | lift m s => exact ⟨Phase.base h, Phase.lt h⟩
  | settle m s => exact ⟨Phase.base h, Phase.lt h⟩
  | wake m s =>
    unfold Stand at h
    simp only at h
    split at h
    · exact ⟨h.base, h.lt⟩
    · exact ⟨h.base, h.lt⟩
theorem Inserts.only {w : World} {p k : Nat} {S : Nat → Prop} {T N L G i dl dw tw tall : Int} {l : Nat} {lb : Ls} {s : InM.St} {w' : World} {R : Nat → Prop} (h : Inserts w p S T N L G l i dl dw tw tall k lb s) (ho : Only R w w') (hR : ∀ j, S j → ¬ R j) : Inserts w' p S T N L G l i dl dw tw tall k lb s := ⟨h.1, h.2.1, h.2.2.1, h.2.2.2.only ho hR⟩
theorem Inserts.later {w : World} {p k : Nat} {S : Nat → Prop} {T N L G i dl dw tw tall : Int} {l : Nat} {lb : Ls} {s : InM.St} {w' : World} (h : Inserts w p S T N L G l i dl dw tw tall k lb s) (hb : Below w.heap.size w w') : Inserts w' p S T N L G l i dl dw tw tall k lb s := h.only (only_below (fun _ => False) hb) fun _ _ => id
theorem Inserts.base {w : World} {p k : Nat} {S : Nat → Prop} {T N L G i dl dw tw tall : Int} {l : Nat} {lb : Ls} {s : InM.St} (h : Inserts w p S T N L G l i dl dw tw tall k lb s) : S p := h.2.2.2.own.1
theorem Inserts.lt {w : World} {p k : Nat} {S : Nat → Prop} {T N L G i dl dw tw tall : Int} {l : Nat} {lb : Ls} {s : InM.St} (h : Inserts w p S T N L G l i dl dw tw tall k lb s) : ∀ j, S j → j < w.heap.size := h.2.2.2.own.2
theorem some_of {o : Option D} (h : ¬ o = none) : ∃ x, o = some x := Option.ne_none_iff_exists'.1 h
theorem Flow_next {w : World} {p k : Nat} {S : Nat → Prop} {T N L G i dl dw tw tall : Int} {l : Nat} {lb : Ls} {s : InM.St} (h : Inserts w p S T N L G l i dl dw tw tall k lb s) : Calls Tryz.prog 57 #[.pointer (some ⟨p, 0, none⟩)] w fun e w' => e = .returned (ansV (insA T L i dw tw s)) ∧ Below w.heap.size w w' := by
  obtain ⟨ho, ⟨hT, hL⟩, hr, h⟩ := h
  cases s with
  | mint m =>
    obtain ⟨x, hx⟩ := some_of (fun e => by have h2 := ho.2; have := (mint_none (T := T) (L := L) (i := i) (dw := dw) (tw := tw) ho.1).1 e; omega)
    refine (Phase.asked (mint_task T L i dl dw tw).asks Bm_keeps h hx).mono ?_
    rintro e w' ⟨rfl, -, hb⟩
    exact ⟨by rw [show insA T L i dw tw (.mint m) = some x from hx], hb⟩
  | link m s =>
    obtain ⟨x, hx⟩ := some_of (fun e => ho.2.2 ((link_none (T := T) (r := m.r) ho.2.1).1 e))
    refine (Phase.asked (link_ask ..) (Bd_keeps Zl_stays) h hx).mono ?_
    rintro e w' ⟨rfl, -, hb⟩
    exact ⟨by rw [show insA T L i dw tw (.link m s) = some x from hx], hb⟩
  | live m s =>
    refine (Phase.asked (scr_task _).asks (Bd_keeps Zv_stays) h (x := (2, atI T L i 0, SM.stI (m.r / 4294967296) 2, 0, 0)) rfl).mono ?_
    rintro e w' ⟨rfl, -, hb⟩
    exact ⟨rfl, hb⟩
  | lift m s =>
    obtain ⟨x, hx⟩ := some_of (fun e => ho.2.2 ((lift_none (T := T) (r := m.r) ho.2.1).1 e))
    refine (Phase.asked (lift_ask ..) (Bd_keeps Zf_stays) h hx).mono ?_
    rintro e w' ⟨rfl, -, hb⟩
    exact ⟨by rw [show insA T L i dw tw (.lift m s) = some x from hx], hb⟩
  | settle m s =>
    obtain ⟨x, hx⟩ := some_of (fun e => ho.2.2 ((settle_none (T := T) (r := m.r) ho.2.1).1 e))
    refine (Phase.asked (sett_ask ..) (Bd_keeps Zs_stays) h hx).mono ?_
    rintro e w' ⟨rfl, -, hb⟩
    exact ⟨by rw [show insA T L i dw tw (.settle m s) = some x from hx], hb⟩
  | wake m s =>
    unfold Stand at h
    simp only at h
    split at h
    · obtain ⟨x, hx⟩ : ∃ x, wakeA T s = some x := by unfold wakeA; rw [if_pos ‹_›]; exact ⟨_, rfl⟩
      refine (Phase.asked (wake_task T N L G dl).asks (Bd_keeps Zw_stays) h hx).mono ?_
      rintro e w' ⟨rfl, -, hb⟩
      exact ⟨by rw [show insA T L i dw tw (.wake m s) = some x from hx], hb⟩
    · have hx : wakeA T s = none := by unfold wakeA; rw [if_neg ‹_›]
      refine (Idle.asked (Bd_keeps Zw_stays) h).mono ?_
      rintro e w' ⟨rfl, -, hb⟩
      exact ⟨by rw [show insA T L i dw tw (.wake m s) = none from hx], hb⟩
theorem Ins_next {w : World} {p k : Nat} {S : Nat → Prop} {T N L G i dl dw tw tall : Int} {l : Nat} {lb : Ls} {s : InM.St} (h : Inserts w p S T N L G l i dl dw tw tall k lb s) : Calls Tryz.prog 186 #[.pointer (some ⟨p, 0, none⟩)] w fun e w' => e = .returned (ansV (insA T L i dw tw s)) ∧ Below w.heap.size w w' := by
  have HN := Lib.hid (Flow_next (h.later (box_below w (.cells #[.int .i64 0, .int .i64 0, .int .u64 0, .int .u64 0, .int .u64 0] 63))))
  unfold ansV ansD at HN ⊢
  generalize (insA T L i dw tw s).isSome = bo at HN ⊢
  generalize (insA T L i dw tw s).getD (0, 0, 0, 0, 0) = d at HN ⊢
  clear h
  go_enter Tryz.func186, Tryz.ntmps186
  go_wp2_with fail
  refine HN.out.mono ?_
  rintro e w1 ⟨rfl, hb⟩
  obtain ⟨⟨r0, r1, r2, r3, r4⟩, g0, g1, g2, g3, g4⟩ := res5 hb
  obtain ⟨⟨s0, s1, s2, s3, s4⟩, hB⟩ := set5 hb (.int .i64 d.1) (.int .i64 d.2.1) (.int .u64 d.2.2.1) (.int .u64 d.2.2.2.1) (.int .u64 d.2.2.2.2)
  have HB := Lib.hid hB
  clear hB hb
  go_wp2
  exact bodyPost_ret (v := .tuple #[.agg #[.int .i64 d.1, .int .i64 d.2.1, .int .u64 d.2.2.1, .int .u64 d.2.2.2.1, .int .u64 d.2.2.2.2], .bool bo]) (by simp [results, Tryz.results186, go_sem, s0, s1, s2, s3, s4]) rfl ⟨rfl, HB.out⟩
/-- What it has become. -/
def Became (w : World) (S : Nat → Prop) (p : Nat) (T N L G : Int) (l : Nat) (i dl dw tw tall : Int) (k : Nat) (lb : Ls) (s : InM.St) (w' : World) : Prop := ∃ S', Inserts w' p S' T N L G l i dl dw tw tall k lb s ∧ Grown w w' S S'
section
variable {w : World} {p k d : Nat} {S : Nat → Prop} {T N L G i dl dw tw tall : Int} {l : Nat} {lb : Ls}
theorem pass_mint {m : MiM.St} (h : Phase 131 (meth 116 p) (MintI T L i dl dw tw) (Bm T N L G l i tall lb) 135 w p 0 S m) (hm : InM.Done m) (hL : 1 ≤ L ∧ L ≤ 9223372036854775807) :
    Calls Tryz.prog 57 #[.pointer (some ⟨p, 0, none⟩)] w fun e w' => (∃ o, e = .returned (ansV o)) ∧ ∃ S2, Phase 132 (meth 130 p) (LinkI T N L G m.r dl m.sq tall k) (Bd T N L G l i dl dw tw tall lb m false Zl) 135 w' p 0 S2 (LiM.begin L 0) ∧ Grown w w' S S2 := by
  refine (Phase.passed (n := 0) (fv2 := (meth 130 p)) (E2 := Bd T N L G l i dl dw tw tall lb m false Zl) (mint_task T L i dl dw tw).asks (link_ask T N L G m.r dl m.sq tall k) Bm_keeps (Bd_keeps Zl_stays) h (by decide) ((mint_none hm.1).2 hm.2) (begin_step hL).choose_spec bringIn_enter fun w1 hF => (bringIn_any (k := k) hF hm hL).mono ?_).mono ?_
  · rintro e w2 ⟨rfl, S2, k1, k2, k3⟩
    exact ⟨rfl, S2, k1, k2, k3, Same.zero _ _ _⟩
  · rintro e w2 ⟨rfl, S2, k1, k2, -, -⟩
    exact ⟨⟨_, rfl⟩, S2, k1, k2⟩
theorem pass_link {m : MiM.St} {s : LiM.St} (h : Phase 132 (meth 130 p) (LinkI T N L G m.r dl m.sq tall k) (Bd T N L G l i dl dw tw tall lb m false Zl) 135 w p 0 S s) (hm : InM.Done m) (hs : LiM.Ok L tall k s) (h0 : s.st = 0) :
    Calls Tryz.prog 57 #[.pointer (some ⟨p, 0, none⟩)] w fun e w' => (∃ o, e = .returned (ansV o)) ∧ ∃ S2, Phase 180 (meth 137 p) (ScrI [(2, atI T L i 0, SM.stI (m.r / 4294967296) 2, 0, 0)]) (Bd T N L G l i dl dw tw tall lb m false (Zv T N L G dl tall m s k)) 135 w' p 0 S2 [] ∧ Grown w w' S S2 := by
  refine (Phase.passed (n := 0) (fv2 := (meth 137 p)) (E2 := Bd T N L G l i dl dw tw tall lb m false (Zv T N L G dl tall m s k)) (s2 := []) (link_ask T N L G m.r dl m.sq tall k) (scr_task [(2, atI T L i 0, SM.stI (m.r / 4294967296) 2, 0, 0)]).asks (Bd_keeps Zl_stays) (Bd_keeps Zv_stays) h (by decide) ((link_none hs).2 h0) (x := (2, atI T L i 0, SM.stI (m.r / 4294967296) 2, 0, 0)) rfl enliven_enter fun w1 hF => (enliven_any hF hm).mono ?_).mono ?_
  · rintro e w2 ⟨rfl, S2, k1, k2, k3⟩
    exact ⟨rfl, S2, k1, k2, k3, Same.zero _ _ _⟩
  · rintro e w2 ⟨rfl, S2, k1, k2, -, -⟩
    exact ⟨⟨_, rfl⟩, S2, k1, k2⟩
theorem pass_lift {n : Nat} {m : MiM.St} {s : LfM.St} (h : Phase 194 (meth 149 p) (LiftI T N L G m.r dl m.sq tall k) (Bd T N L G l i dl dw tw tall lb m true Zf) 135 w p d S s) (hd : d < 65535) (hn : n ≤ 11) (hm : InM.Done m) (hL : L ≤ 9223372036854775807) (hs : LfM.Ok L tall k s) (h0 : s.st = 0) :
    Calls Tryz.prog 57 #[.pointer (some ⟨p, 0, none⟩)] w fun e w' => e = .returned (ansV (some (4, atI T L (idx m.r) 4, 18446744073709551615, 0, m.r))) ∧ ∃ S2, Phase 133 (meth 159 p) (SettI T N L G m.r dl m.sq k) (Bd T N L G l i dl dw tw tall lb m true Zs) 135 w' p d S2 StM.new ∧ Grown w w' S S2 ∧ Anew 135 p d w w' ∧ Same p n w w' := by
  refine Phase.passed (n := n) (fv2 := (meth 159 p)) (E2 := Bd T N L G l i dl dw tw tall lb m true Zs) (lift_ask T N L G m.r dl m.sq tall k) (sett_ask T N L G m.r dl m.sq k) (Bd_keeps Zf_stays) (Bd_keeps Zs_stays) h hd ((lift_none hs).2 h0) new_step letGo_enter fun w1 hF => (letGo_any hF hm hL).mono ?_
  rintro e w2 ⟨rfl, S2, k1, k2, k3, k4⟩
  exact ⟨rfl, S2, k1, k2, k3, fun j a b => k4 j a (Nat.lt_of_lt_of_le b hn)⟩
theorem pass_live_up {m : MiM.St} {s : LiM.St} {fs : List Int} {dv : D} (h : Phase 180 (meth 137 p) (ScrI [dv]) (Bd T N L G l i dl dw tw tall lb m false (Zv T N L G dl tall m s k)) 135 w p 0 S fs) (hf : askS [dv] fs = none) (hm : InM.Done m) (hL : 1 ≤ L ∧ L ≤ 9223372036854775807) (hk : k ≤ 1000000) (hs : LiM.Ok L tall k s) (h0 : s.st = 0) (hu : ¬ (LfM.reach tall 1 0 s.ps s.ss).st = 0) :
    Calls Tryz.prog 57 #[.pointer (some ⟨p, 0, none⟩)] w fun e w' => (∃ o, e = .returned (ansV o)) ∧ ∃ S2, Phase 194 (meth 149 p) (LiftI T N L G m.r dl m.sq tall k) (Bd T N L G l i dl dw tw tall lb m true Zf) 135 w' p 0 S2 (LfM.reach tall 1 0 s.ps s.ss) ∧ Grown w w' S S2 := by
  have hro := live_reach hs hk h0 k
  obtain ⟨x, hx⟩ := some_of (fun e => hu ((lift_none (T := T) (r := m.r) hro).1 e))
  refine (Phase.passed (n := 0) (fv2 := (meth 149 p)) (E2 := Bd T N L G l i dl dw tw tall lb m true Zf) (scr_task [dv]).asks (lift_ask T N L G m.r dl m.sq tall k) (Bd_keeps Zv_stays) (Bd_keeps Zf_stays) h (by decide) hf hx raise_enter fun w1 hF => (raise_any (Q := fun w' => ∃ S2, Phase 194 (meth 149 p) (LiftI T N L G m.r dl m.sq tall k) (Bd T N L G l i dl dw tw tall lb m true Zf) 135 w' p 1 S2 (LfM.reach tall 1 0 s.ps s.ss) ∧ Grown w1 w' S S2 ∧ Anew 135 p 1 w1 w') hF hm hL hk h0 fun w3 q S3 hG hg => ?_).mono ?_).mono ?_
  · refine (Given.made (lift_ask T N L G m.r dl m.sq tall k) (Bd_keeps Zf_stays) (meth_then _ p) hG hx).mono ?_
    rintro e w' ⟨rfl, S4, k1, k2, k3, k4⟩
    exact ⟨rfl, k4 11, S4, k1, hg.trans k2, k3.more hg.1.size⟩
  · rintro e w2 ⟨rfl, S2, k1, k2, k3⟩
    exact ⟨rfl, S2, k1, k2, k3, Same.zero _ _ _⟩
  · rintro e w2 ⟨rfl, S2, k1, k2, -, -⟩
    exact ⟨⟨_, rfl⟩, S2, k1, k2⟩
theorem pass_live_no {m : MiM.St} {s : LiM.St} {fs : List Int} {dv : D} (h : Phase 180 (meth 137 p) (ScrI [dv]) (Bd T N L G l i dl dw tw tall lb m false (Zv T N L G dl tall m s k)) 135 w p 0 S fs) (hf : askS [dv] fs = none) (hm : InM.Done m) (hL : 1 ≤ L ∧ L ≤ 9223372036854775807) (hk : k ≤ 1000000) (hs : LiM.Ok L tall k s) (h0 : s.st = 0) (hu : (LfM.reach tall 1 0 s.ps s.ss).st = 0) :
    Calls Tryz.prog 57 #[.pointer (some ⟨p, 0, none⟩)] w fun e w' => (∃ o, e = .returned (ansV o)) ∧ ∃ S2, Phase 133 (meth 159 p) (SettI T N L G m.r dl m.sq k) (Bd T N L G l i dl dw tw tall lb m true Zs) 135 w' p 0 S2 StM.new ∧ Grown w w' S S2 := by
  have hro := live_reach hs hk h0 k
  refine (Phase.passed (n := 0) (fv2 := (meth 159 p)) (E2 := Bd T N L G l i dl dw tw tall lb m true Zs) (scr_task [dv]).asks (sett_ask T N L G m.r dl m.sq k) (Bd_keeps Zv_stays) (Bd_keeps Zs_stays) h (by decide) hf new_step raise_enter fun w1 hF => (raise_any (Q := fun w' => ∃ S2, Phase 133 (meth 159 p) (SettI T N L G m.r dl m.sq k) (Bd T N L G l i dl dw tw tall lb m true Zs) 135 w' p 1 S2 StM.new ∧ Grown w1 w' S S2 ∧ Anew 135 p 1 w1 w') hF hm hL hk h0 fun w3 q S3 hG hg => ?_).mono ?_).mono ?_
  · refine Given.asked (lift_ask T N L G m.r dl m.sq tall k) (Bd_keeps Zf_stays) (meth_then _ p) (Q := fun w' => Same p 11 w3 w' ∧ ∃ S2, Phase 133 (meth 159 p) (SettI T N L G m.r dl m.sq k) (Bd T N L G l i dl dw tw tall lb m true Zs) 135 w' p 1 S2 StM.new ∧ Grown w1 w' S S2 ∧ Anew 135 p 1 w1 w') hG fun w4 S4 hP hg4 hs4 => ?_
    refine (pass_lift (n := 11) hP (by decide) (Nat.le_refl _) hm hL.2 hro hu).mono ?_
    rintro e w' ⟨rfl, S5, k1, k2, k3, k4⟩
    exact ⟨⟨_, rfl⟩, (hs4 11).trans k4, S5, k1, (hg.trans hg4).trans k2, k3.more (Nat.le_trans hg.1.size hg4.1.size)⟩
  · rintro e w2 ⟨rfl, S2, k1, k2, k3⟩
    exact ⟨rfl, S2, k1, k2, k3, Same.zero _ _ _⟩
  · rintro e w2 ⟨rfl, S2, k1, k2, -, -⟩
    exact ⟨⟨_, rfl⟩, S2, k1, k2⟩
theorem pass_settle {m : MiM.St} {s : StM.St} (h : Phase 133 (meth 159 p) (SettI T N L G m.r dl m.sq k) (Bd T N L G l i dl dw tw tall lb m true Zs) 135 w p 0 S s) (hm : InM.Done m) (hT : 1 ≤ T ∧ T ≤ 9223372036854775807) (hs : StM.Ok L k s) (h0 : s.st = 0) (hlb : lenL lb ≤ 1000000) :
    Calls Tryz.prog 57 #[.pointer (some ⟨p, 0, none⟩)] w fun e w' => (∃ o, e = .returned (ansV o)) ∧ ∃ S2, Phase 216 .nilFunc (WakeI T N L G dl) (Bd T N L G l i dl dw tw tall (addO lb (retS L dl m s)) m true Zw) 135 w' p 0 S2 WkM.start ∧ Grown w w' S S2 := by
  refine (Phase.passed (n := 0) (fv2 := .nilFunc) (E2 := Bd T N L G l i dl dw tw tall (addO lb (retS L dl m s)) m true Zw) (sett_ask T N L G m.r dl m.sq k) (wake_task T N L G dl).asks (Bd_keeps Zs_stays) (Bd_keeps Zw_stays) h (by decide) ((settle_none hs).2 h0) (wake_step hT.1) wakeOthers_enter fun w1 hF => (wakeOthers_any hF hm h0 hs hT hlb).mono ?_).mono ?_
  · rintro e w2 ⟨rfl, S2, k1, k2, k3⟩
    exact ⟨rfl, S2, k1, k2, k3, Same.zero _ _ _⟩
  · rintro e w2 ⟨rfl, S2, k1, k2, -, -⟩
    exact ⟨⟨_, rfl⟩, S2, k1, k2⟩
end
theorem became_of {w w2 w' : World} {p k : Nat} {S S2 S3 : Nat → Prop} {T N L G i dl dw tw tall : Int} {l : Nat} {lb : Ls} {s : InM.St} (ho : InM.Ok T L tall k s) (hR : (1 ≤ T ∧ T ≤ 9223372036854775807) ∧ 1 ≤ L ∧ L ≤ 9223372036854775807) (hr : Room lb s) (h : Stand w' p S3 T N L G l i dl dw tw tall k lb s) (g : Grown w w2 S S2) (g2 : Grown w2 w' S2 S3) : Became w S p T N L G l i dl dw tw tall k lb s w' := ⟨S3, ⟨ho, hR, hr, h⟩, g.trans g2⟩
theorem link_up {T N L G r dl sq tall : Int} {k q : Nat} {w : World} {S : Nat → Prop} {s : LiM.St} (h : LinkI T N L G r dl sq tall k q w S s) : LinkI T N L G r dl sq tall (k + 1) q w S s := by
  obtain ⟨j, hj, h⟩ := h
  exact ⟨j, by omega, h⟩
theorem Zv_up {T N L G i dl dw tw tall : Int} {l k p d : Nat} {lb : Ls} {m : MiM.St} {s : LiM.St} {dv : D} {w : World} {S : Nat → Prop} {fs : List Int} {f : FuncId} (h : Phase 180 (meth f p) (ScrI [dv]) (Bd T N L G l i dl dw tw tall lb m false (Zv T N L G dl tall m s k)) 135 w p d S fs) : Phase 180 (meth f p) (ScrI [dv]) (Bd T N L G l i dl dw tw tall lb m false (Zv T N L G dl tall m s (k + 1))) 135 w p d S fs := by
  obtain ⟨h1, h2, pb, q, SM, X, rest, k1, k2, k3, ⟨qm, U, V, SL, e1, ⟨ql, SK, e2, e3, e4, e5⟩, e6⟩, k5, k6⟩ := h
  exact ⟨h1, h2, pb, q, SM, X, rest, k1, k2, k3, ⟨qm, U, V, SL, e1, ⟨ql, SK, e2, e3, link_up e4, e5⟩, e6⟩, k5, k6⟩
theorem Flow_tell {w : World} {p k : Nat} {S : Nat → Prop} {T N L G i dl dw tw tall : Int} {l : Nat} {lb : Ls} {s : InM.St} {f : Int} (h : Inserts w p S T N L G l i dl dw tw tall k lb s) (hk : k + 1 ≤ 1000000) (hf : Word f) : Calls Tryz.prog 60 #[.pointer (some ⟨p, 0, none⟩), .int .u64 f] w fun e w' => e = .returned (.tuple #[]) ∧ Became w S p T N L G l i dl dw tw tall (k + 1) (addO lb (retI L dl s f)) (insT T L i dl dw tw tall s f) w' := by
  obtain ⟨ho, hR, hr, h⟩ := h
  have hT := hR.1
  have hL := hR.2
  have hok := insT_ok (dl := dl) (dw := dw) (tw := tw) (i := i) ho hL hk hf
  cases s with
  | mint m =>
    obtain ⟨x, hx⟩ := some_of (fun e => by have h2 := ho.2; have := (mint_none (T := T) (L := L) (i := i) (dw := dw) (tw := tw) ho.1).1 e; omega)
    have hm' := MiM.minT_ok (i := i) ho.1 hf
    refine Phase.told (mint_task T L i dl dw tw).asks Bm_keeps h hx (s' := minT i m f) (I' := MintI T L i dl dw tw) (fun q SM w1 g1 g2 => (mint_task T L i dl dw tw).tell g1 hf) fun w2 S2 g1 g2 => ?_
    change InM.Ok T L tall (k + 1) (onM T L i dw tw (minT i m f)) at hok
    show Calls _ _ _ _ fun e w' => _ ∧ Became w S p T N L G l i dl dw tw tall (k + 1) lb (onM T L i dw tw (minT i m f)) w'
    by_cases h7 : (minT i m f).k = 7
    · rw [onM_done h7] at hok ⊢
      refine (pass_mint (k := k + 1) g1 ⟨hm', h7⟩ hL).mono ?_
      rintro e w' ⟨he, S3, k1, k2⟩
      exact ⟨he, became_of hok hR hr k1 g2 k2⟩
    · have h7' : (minT i m f).k < 7 := by have := hm'.1; omega
      rw [onM_more h7'] at hok ⊢
      obtain ⟨y, hy⟩ := MiM.minA_some (T := T) (L := L) (i := i) (dw := dw) (tw := tw) h7'
      refine (Phase.asked (mint_task T L i dl dw tw).asks Bm_keeps g1 hy).mono ?_
      rintro e w' ⟨rfl, k1, hb⟩
      exact ⟨⟨_, rfl⟩, became_of hok hR hr k1 g2 (Grown.below S2 hb)⟩
  | link m s =>
    obtain ⟨x, hx⟩ := some_of (fun e => ho.2.2 ((link_none (T := T) (r := m.r) ho.2.1).1 e))
    have hs' := LiM.linkT_ok (dl := dl) (sq := m.sq) ho.2.1 hL.1 hL.2 hf
    refine Phase.told (link_ask T N L G m.r dl m.sq tall k) (Bd_keeps Zl_stays) h hx (s' := linkT L dl m.sq tall s f) (I' := LinkI T N L G m.r dl m.sq tall (k + 1)) (fun q SM w1 g1 g2 => link_told g1 hk hf) fun w2 S2 g1 g2 => ?_
    change InM.Ok T L tall (k + 1) (onK T L m (linkT L dl m.sq tall s f)) at hok
    show Calls _ _ _ _ fun e w' => _ ∧ Became w S p T N L G l i dl dw tw tall (k + 1) lb (onK T L m (linkT L dl m.sq tall s f)) w'
    by_cases h7 : (linkT L dl m.sq tall s f).st = 0
    · rw [onK_done hs' h7] at hok ⊢
      refine (pass_link g1 ho.1 hs' h7).mono ?_
      rintro e w' ⟨he, S3, k1, k2⟩
      exact ⟨he, became_of hok hR hr k1 g2 k2⟩
    · rw [onK_more hs' h7] at hok ⊢
      obtain ⟨y, hy⟩ := some_of (fun e => h7 ((link_none (T := T) (r := m.r) hs').1 e))
      refine (Phase.asked (link_ask T N L G m.r dl m.sq tall (k + 1)) (Bd_keeps Zl_stays) g1 hy).mono ?_
      rintro e w' ⟨rfl, k1, hb⟩
      exact ⟨⟨_, rfl⟩, became_of hok hR hr k1 g2 (Grown.below S2 hb)⟩
  | live m s =>
    have h0 := ho.2.2
    have hs := ho.2.1.up (Nat.le_succ k)
    have hro := live_reach hs (by omega) h0 (k + 1)
    refine Phase.told (scr_task [(2, atI T L i 0, SM.stI (m.r / 4294967296) 2, 0, 0)]).asks (Bd_keeps Zv_stays) (Zv_up h) (x := (2, atI T L i 0, SM.stI (m.r / 4294967296) 2, 0, 0)) rfl (s' := [f]) (I' := ScrI [(2, atI T L i 0, SM.stI (m.r / 4294967296) 2, 0, 0)]) (fun q SM w1 g1 g2 => (scr_task _).tell g1 hf) fun w2 S2 g1 g2 => ?_
    change InM.Ok T L tall (k + 1) (onF T L m (LfM.reach tall 1 0 s.ps s.ss)) at hok
    show Calls _ _ _ _ fun e w' => _ ∧ Became w S p T N L G l i dl dw tw tall (k + 1) lb (onF T L m (LfM.reach tall 1 0 s.ps s.ss)) w'
    by_cases h7 : (LfM.reach tall 1 0 s.ps s.ss).st = 0
    · rw [onF_done hro h7] at hok ⊢
      refine (pass_live_no g1 rfl ho.1 hL hk hs h0 h7).mono ?_
      rintro e w' ⟨he, S3, k1, k2⟩
      exact ⟨he, became_of hok hR hr k1 g2 k2⟩
    · rw [onF_more hro h7] at hok ⊢
      refine (pass_live_up g1 rfl ho.1 hL hk hs h0 h7).mono ?_
      rintro e w' ⟨he, S3, k1, k2⟩
      exact ⟨he, became_of hok hR hr k1 g2 k2⟩
  | lift m s =>
    obtain ⟨x, hx⟩ := some_of (fun e => ho.2.2 ((lift_none (T := T) (r := m.r) ho.2.1).1 e))
    have hs' := LfM.liftT_ok (dl := dl) (sq := m.sq) ho.2.1 hL.1 hL.2 hk hf
    refine Phase.told (lift_ask T N L G m.r dl m.sq tall k) (Bd_keeps Zf_stays) h hx (s' := liftT L dl m.sq tall s f) (I' := LiftI T N L G m.r dl m.sq tall (k + 1)) (fun q SM w1 g1 g2 => lift_told g1 hk hf) fun w2 S2 g1 g2 => ?_
    change InM.Ok T L tall (k + 1) (onF T L m (liftT L dl m.sq tall s f)) at hok
    show Calls _ _ _ _ fun e w' => _ ∧ Became w S p T N L G l i dl dw tw tall (k + 1) lb (onF T L m (liftT L dl m.sq tall s f)) w'
    by_cases h7 : (liftT L dl m.sq tall s f).st = 0
    · rw [onF_done hs' h7] at hok ⊢
      refine (pass_lift (n := 0) g1 (by decide) (by decide) ho.1 hL.2 hs' h7).mono ?_
      rintro e w' ⟨rfl, S3, k1, k2, -⟩
      exact ⟨⟨_, rfl⟩, became_of hok hR hr k1 g2 k2⟩
    · rw [onF_more hs' h7] at hok ⊢
      obtain ⟨y, hy⟩ := some_of (fun e => h7 ((lift_none (T := T) (r := m.r) hs').1 e))
      refine (Phase.asked (lift_ask T N L G m.r dl m.sq tall (k + 1)) (Bd_keeps Zf_stays) g1 hy).mono ?_
      rintro e w' ⟨rfl, k1, hb⟩
      exact ⟨⟨_, rfl⟩, became_of hok hR hr k1 g2 (Grown.below S2 hb)⟩
  | settle m s =>
    obtain ⟨x, hx⟩ := some_of (fun e => ho.2.2 ((settle_none (T := T) (r := m.r) ho.2.1).1 e))
    have hs' := StM.settleT_ok (dl := dl) (sq := m.sq) ho.2.1 hL.2 hf
    refine Phase.told (sett_ask T N L G m.r dl m.sq k) (Bd_keeps Zs_stays) h hx (s' := settleT L dl m.sq s f) (I' := SettI T N L G m.r dl m.sq (k + 1)) (fun q SM w1 g1 g2 => sett_told g1 hk hf) fun w2 S2 g1 g2 => ?_
    change InM.Ok T L tall (k + 1) (onS T L m (settleT L dl m.sq s f)) at hok
    show Calls _ _ _ _ fun e w' => _ ∧ Became w S p T N L G l i dl dw tw tall (k + 1) (addO lb (retS L dl m (settleT L dl m.sq s f))) (onS T L m (settleT L dl m.sq s f)) w'
    by_cases h7 : (settleT L dl m.sq s f).st = 0
    · rw [onS_done hs' h7] at hok ⊢
      refine (pass_settle g1 ho.1 hT hs' h7 hr).mono ?_
      rintro e w' ⟨he, S3, k1, k2⟩
      refine ⟨he, became_of hok hR trivial ?_ g2 k2⟩
      show (if _ then _ else _)
      rw [if_pos (by show (0 : Int) < T; omega)]
      exact k1
    · rw [onS_more hs' h7] at hok ⊢
      rw [show retS L dl m (settleT L dl m.sq s f) = none from if_neg fun e => h7 e.1]
      obtain ⟨y, hy⟩ := some_of (fun e => h7 ((settle_none (T := T) (r := m.r) hs').1 e))
      refine (Phase.asked (sett_ask T N L G m.r dl m.sq (k + 1)) (Bd_keeps Zs_stays) g1 hy).mono ?_
      rintro e w' ⟨rfl, k1, hb⟩
      exact ⟨⟨_, rfl⟩, became_of hok hR hr k1 g2 (Grown.below S2 hb)⟩
  | wake m s =>
    change InM.Ok T L tall (k + 1) (.wake m (wakeT T dl s f)) at hok
    show Calls _ _ _ _ fun e w' => _ ∧ Became w S p T N L G l i dl dw tw tall (k + 1) lb (.wake m (wakeT T dl s f)) w'
    unfold Stand at h
    simp only at h
    split at h
    · obtain ⟨x, hx⟩ : ∃ x, wakeA T s = some x := by unfold wakeA; rw [if_pos ‹_›]; exact ⟨_, rfl⟩
      refine Phase.told (wake_task T N L G dl).asks (Bd_keeps Zw_stays) h hx (s' := wakeT T dl s f) (I' := WakeI T N L G dl) (fun q SM w1 g1 g2 => (wake_task T N L G dl).tell g1 hf) fun w2 S2 g1 g2 => ?_
      by_cases h7 : (wakeT T dl s f).th < T
      · obtain ⟨y, hy⟩ : ∃ y, wakeA T (wakeT T dl s f) = some y := by unfold wakeA; rw [if_pos h7]; exact ⟨_, rfl⟩
        refine (Phase.asked (wake_task T N L G dl).asks (Bd_keeps Zw_stays) g1 hy).mono ?_
        rintro e w' ⟨rfl, k1, hb⟩
        refine ⟨⟨_, rfl⟩, became_of hok hR trivial ?_ g2 (Grown.below S2 hb)⟩
        show (if _ then _ else _)
        rw [if_pos h7]
        exact k1
      · have hy : wakeA T (wakeT T dl s f) = none := by unfold wakeA; rw [if_neg h7]
        refine (Phase.ended (wake_task T N L G dl).asks (Bd_keeps Zw_stays) (E2 := Bd T N L G l i dl dw tw tall lb m true Zw) (fun {w X rest q SM} z1 z2 z3 => ⟨X, z2, fun j e => .inr e⟩) g1 (by decide) hy).mono ?_
        rintro e w' ⟨rfl, k1, hb⟩
        refine ⟨⟨_, rfl⟩, became_of hok hR trivial ?_ g2 ⟨hb, fun j e => .inl e⟩⟩
        show (if _ then _ else _)
        rw [if_neg h7]
        exact k1
    · have hs : wakeT T dl s f = s := by unfold wakeT; rw [if_neg ‹_›]
      rw [hs] at hok ⊢
      refine (Idle.told (Bd_keeps Zw_stays) h).mono ?_
      rintro e w' ⟨rfl, k1, hb⟩
      refine ⟨rfl, became_of hok hR trivial ?_ (Grown.refl w S) (Grown.below S hb)⟩
      show (if _ then _ else _)
      rw [if_neg ‹_›]
      exact k1
theorem Ins_tell {w : World} {p k : Nat} {S : Nat → Prop} {T N L G i dl dw tw tall : Int} {l : Nat} {lb : Ls} {s : InM.St} {f : Int} (h : Inserts w p S T N L G l i dl dw tw tall k lb s) (hk : k + 1 ≤ 1000000) (hf : Word f) : Calls Tryz.prog 187 #[.pointer (some ⟨p, 0, none⟩), .int .u64 f] w fun e w' => e = .returned (.tuple #[]) ∧ Became w S p T N L G l i dl dw tw tall (k + 1) (addO lb (retI L dl s f)) (insT T L i dl dw tw tall s f) w' := by
  have HT := Lib.hid (Flow_tell h hk hf)
  generalize insT T L i dl dw tw tall s f = s' at HT ⊢
  generalize addO lb (retI L dl s f) = lb' at HT ⊢
  clear h hk hf
  go_enter Tryz.func187, Tryz.ntmps187
  go_wp2_with fail
  refine HT.out.mono ?_
  rintro e w1 ⟨rfl, hb⟩
  have HB := Lib.hid hb
  clear hb
  go_wp2
  refine bodyPost_end (results_none rfl _ _ _) rfl ?_
  exact ⟨rfl, HB.out⟩
end Go.Proofs.YtlagghghbpbcbaaGreatDoor.Ins

/- Package start (layer 31): how an inserter is made; whether its timer lives, and its handle; an inserter as a task of a flow. -/
namespace Go.Proofs.YtlagghghbpbcbaaGreatDoor.Ins
set_option maxRecDepth 20000
open Go.ChangeShapes Go.WideShapes Go.RowKit CM DM PM KM InM Lay Ints Plan Go.Proofs.YtlagghghbpbcbaaGreatDoor.Flows
open Go.Proofs.YtlagghghbpbcbaaGreatDoor.Limbo (Lim)
open LM (Ls lenL addL R2)
open Go.Proofs.YtlagghghbpbcbaaGreatDoor.Mint (Makes)
set_option linter.unusedVariables false
set_option linter.unusedSimpArgs false
/-- The cells that tell of its timer. -/
theorem Stand.tells {w : World} {p k : Nat} {S : Nat → Prop} {T N L G i dl dw tw tall : Int} {l : Nat} {lb : Ls} {s : InM.St} (h : Stand w p S T N L G l i dl dw tw tall k lb s) : ∃ qm m nv d U V, HeadAt w p nv d [.int .i64 T, .int .i64 N, .int .i64 L, .int .u64 G, .pointer (some ⟨l, 0, none⟩), .int .i64 i, .int .i64 tall, .pointer (some ⟨qm, 0, none⟩), U, V, .bool (livesB s)] 135 ∧ Makes w qm T L i dl dw tw m ∧ (livesB s = true → InM.Ok T L tall k s → InM.Done m ∧ m.r = refS s) := by
  have hbd : ∀ {σ : Type} {ty : TypeId} {fv : Value} {I : Nat → World → (Nat → Prop) → σ → Prop} {m : MiM.St} {b : Bool} {Z : Rest} {t : σ}, Phase ty fv I (Bd T N L G l i dl dw tw tall lb m b Z) 135 w p 0 S t → ∃ qm nv d U V, HeadAt w p nv d [.int .i64 T, .int .i64 N, .int .i64 L, .int .u64 G, .pointer (some ⟨l, 0, none⟩), .int .i64 i, .int .i64 tall, .pointer (some ⟨qm, 0, none⟩), U, V, .bool b] 135 ∧ Makes w qm T L i dl dw tw m := by
    intro σ ty fv I m b Z t h
    obtain ⟨-, -, pb, q, SM, X, rest, k1, -, -, ⟨qm, U, V, SL, rfl, -, h3, -⟩, -⟩ := h
    exact ⟨qm, _, _, U, V, k1, h3⟩
  cases s with
  | mint m =>
    obtain ⟨-, -, pb, q, SM, X, rest, k1, -, k3, ⟨SL, rfl, -⟩, -⟩ := h
    exact ⟨q, m, _, _, _, _, k1, k3.1, fun e => by cases e⟩
  | link m s =>
    obtain ⟨qm, nv, d, U, V, k1, k2⟩ := hbd h
    exact ⟨qm, m, nv, d, U, V, k1, k2, fun e => by cases e⟩
  | live m s =>
    obtain ⟨qm, nv, d, U, V, k1, k2⟩ := hbd h
    exact ⟨qm, m, nv, d, U, V, k1, k2, fun e => by cases e⟩
  | lift m s =>
    obtain ⟨qm, nv, d, U, V, k1, k2⟩ := hbd h
    exact ⟨qm, m, nv, d, U, V, k1, k2, fun _ e => ⟨e.1, rfl⟩⟩
  | settle m s =>
    obtain ⟨qm, nv, d, U, V, k1, k2⟩ := hbd h
    exact ⟨qm, m, nv, d, U, V, k1, k2, fun _ e => ⟨e.1, rfl⟩⟩
  | wake m s =>
    unfold Stand at h
    simp only at h
    split at h
    · obtain ⟨qm, nv, d, U, V, k1, k2⟩ := hbd h
      exact ⟨qm, m, nv, d, U, V, k1, k2, fun _ e => ⟨e.1, rfl⟩⟩
    · obtain ⟨-, -, q, X, rest, k1, ⟨qm, U, V, SL, rfl, -, k2, -⟩, -⟩ := h
      exact ⟨qm, m, _, _, U, V, k1, k2, fun _ e => ⟨e.1, rfl⟩⟩
theorem Lives_any {w : World} {p k : Nat} {S : Nat → Prop} {T N L G i dl dw tw tall : Int} {l : Nat} {lb : Ls} {s : InM.St} (h : Inserts w p S T N L G l i dl dw tw tall k lb s) : Calls Tryz.prog 59 #[.pointer (some ⟨p, 0, none⟩)] w fun e w' => e = .returned (.bool (livesB s)) ∧ w = w' := by
  obtain ⟨qm, m, nv, d, U, V, h1, -, -⟩ := h.2.2.2.tells
  have c12 := (cells_rs h1).2.2.2.2.2.2.2
  generalize livesB s = b at c12 ⊢
  clear h h1
  go_enter Tryz.func59, Tryz.ntmps59
  go_wp2
  go_ret
  exact ⟨rfl, rfl⟩
theorem Lives_nil (w : World) : Calls Tryz.prog 59 #[.pointer none] w fun e w' => e = .returned (.bool false) ∧ w = w' := by
  go_enter Tryz.func59, Tryz.ntmps59
  go_wp2
  go_ret
  exact ⟨rfl, rfl⟩
/-- The handle that it tells. -/
def handS (s : InM.St) : Int := if livesB s = true then WaM.handI (refS s) else 0
theorem Handle_any {w : World} {p k : Nat} {S : Nat → Prop} {T N L G i dl dw tw tall : Int} {l : Nat} {lb : Ls} {s : InM.St} (h : Inserts w p S T N L G l i dl dw tw tall k lb s) : Calls Tryz.prog 62 #[.pointer (some ⟨p, 0, none⟩)] w fun e w' => e = .returned (.int .u64 (handS s)) ∧ w = w' := by
  have HL := Lib.hid (Lives_any h)
  obtain ⟨qm, m, nv, d, U, V, h1, h2, h3⟩ := h.2.2.2.tells
  have c9 := (cells_rs h1).2.2.2.2.1
  unfold handS
  cases hb : livesB s with
  | false =>
    rw [hb] at HL
    rw [if_neg (by simp)]
    clear h h1 h2 h3 hb c9
    go_enter Tryz.func62, Tryz.ntmps62
    go_wp2_with fail
    refine (HL.out).mono ?_
    rintro e w' ⟨rfl, rfl⟩
    go_wp2
    go_ret
    exact ⟨rfl, rfl⟩
  | true =>
    rw [hb] at HL
    rw [if_pos rfl]
    obtain ⟨k1, k2⟩ := h3 hb h.1
    have HR := Lib.hid (Mint.Ref_any h2)
    rw [show MiM.refI m = m.r from if_pos k1.2, k2] at HR
    have HO := Lib.hid (Handle.Of_any (r := refS s) (by rw [← k2]; exact k1.1.2.2.1) w)
    generalize WaM.handI (refS s) = hd at HO ⊢
    generalize refS s = r at HR HO
    clear h h1 h2 h3 hb k1 k2
    go_enter Tryz.func62, Tryz.ntmps62
    go_wp2_with fail
    refine (HL.out).mono ?_
    rintro e w' ⟨rfl, rfl⟩
    go_wp2_with fail
    go_wp2_with fail
    refine (HR.out).mono ?_
    rintro e w' ⟨rfl, rfl⟩
    go_wp2_with fail
    refine (HO.out).mono ?_
    rintro e w' ⟨rfl, rfl⟩
    go_wp2
    go_ret
    exact ⟨rfl, rfl⟩
theorem Insert_any {w : World} {T N L G i dl n : Int} {l : Nat} {SL : Nat → Prop} {lb : Ls} (hT : 1 ≤ T ∧ T ≤ 9223372036854775807) (hL : 1 ≤ L ∧ L ≤ 9223372036854775807) (hn : 0 ≤ n ∧ n < 18446744073709551616) (hl : Lim w l SL lb) (hlb : lenL lb ≤ 1000000) :
    Calls Tryz.prog 104 #[.agg #[.int .i64 T, .int .i64 N, .int .i64 L, .int .u64 G], .pointer (some ⟨l, 0, none⟩), .int .i64 i, .int .i64 dl, .int .u64 n] w fun e w' => ∃ p S, e = .returned (.pointer (some ⟨p, 0, none⟩)) ∧
      Inserts w' p S T N L G l i dl (IntKind.u64.wrap dl) (IntKind.u64.wrap (DM.heightI n L)) (DM.heightI n L) 0 lb InM.start ∧ Grown w w' SL S ∧ w.heap.size ≤ p := by
  have HH := Lib.hid (fun W : World => Draw.Height_any n L hn.1 hn.2 W)
  generalize DM.heightI n L = tall at HH ⊢
  have HMI := Lib.hid (fun W : World => Mint.Mint_any T N L G i dl tall W)
  have hlt := hl.lt
  have HEND := Lib.hid (show ∀ w3 pm, Makes w3 pm T L i dl (IntKind.u64.wrap dl) (IntKind.u64.wrap tall) ⟨0, 0, 0, 0⟩ → w.heap.size ≤ pm → Below w.heap.size w w3 →
      Calls Tryz.prog 42 #[.pointer (some ⟨w3.heap.size, 0, none⟩), itf 131 pm, meth 116 w3.heap.size] (w3.alloc (.cells #[.pointer none, .int .i64 0, .int .i64 T, .int .i64 N, .int .i64 L, .int .u64 G, .pointer (some ⟨l, 0, none⟩), .int .i64 i, .int .i64 tall, .pointer (some ⟨pm, 0, none⟩), .pointer none, .pointer none, .bool false] 135)).drew fun e w' => e = .returned (.tuple #[]) ∧ ∃ S, Inserts w' w3.heap.size S T N L G l i dl (IntKind.u64.wrap dl) (IntKind.u64.wrap tall) tall 0 lb InM.start ∧ Grown w w' SL S ∧ w.heap.size ≤ w3.heap.size from fun w3 pm g1 g2 g3 => by
    have hz := g3.size
    have hpm := Makes.lt g1
    have hb : Below w3.heap.size w3 (w3.alloc (.cells #[.pointer none, .int .i64 0, .int .i64 T, .int .i64 N, .int .i64 L, .int .u64 G, .pointer (some ⟨l, 0, none⟩), .int .i64 i, .int .i64 tall, .pointer (some ⟨pm, 0, none⟩), .pointer none, .pointer none, .bool false] 135)).drew := (box_below w3 _).drew
    have hF : HeadAt (w3.alloc (.cells #[.pointer none, .int .i64 0, .int .i64 T, .int .i64 N, .int .i64 L, .int .u64 G, .pointer (some ⟨l, 0, none⟩), .int .i64 i, .int .i64 tall, .pointer (some ⟨pm, 0, none⟩), .pointer none, .pointer none, .bool false] 135)).drew w3.heap.size none 0 [.int .i64 T, .int .i64 N, .int .i64 L, .int .u64 G, .pointer (some ⟨l, 0, none⟩), .int .i64 i, .int .i64 tall, .pointer (some ⟨pm, 0, none⟩), .pointer none, .pointer none, .bool false] 135 := new_heap w3 _
    have hz2 : (w3.alloc (.cells #[.pointer none, .int .i64 0, .int .i64 T, .int .i64 N, .int .i64 L, .int .u64 G, .pointer (some ⟨l, 0, none⟩), .int .i64 i, .int .i64 tall, .pointer (some ⟨pm, 0, none⟩), .pointer none, .pointer none, .bool false] 135)).drew.heap.size = w3.heap.size + 1 := by simp [World.drew]
    have hl3 := (hl.later g3).later hb
    refine (Given.made (mint_task T L i dl (IntKind.u64.wrap dl) (IntKind.u64.wrap tall)).asks (fv2 := meth 116 w3.heap.size) (E2 := Bm T N L G l i tall lb) Bm_keeps (meth_then _ _) (S := fun j => SL j ∨ j = pm ∨ j = w3.heap.size) (s2 := ⟨0, 0, 0, 0⟩) ⟨.inr (.inr rfl), fun j e => by
        rcases e with e | e | e
        · have := hlt j e; omega
        · omega
        · omega, none, _, fun j => j = pm, SL, hF, ⟨Makes.only g1 (only_below (fun _ => False) hb) id, rfl, fun j e => by omega⟩, ⟨SL, rfl, hl3, fun j e => e⟩, fun j e => ?_, fun j e z => by have := hlt j z; omega⟩ (x := (1, atI T L i 0, 0, 0, 0)) rfl).mono ?_
    · rcases e with e | e
      · exact ⟨.inr (.inl e), by omega⟩
      · exact ⟨.inl e, by have := hlt j e; omega⟩
    · rintro e w' ⟨rfl, S2, k1, k2, -, -⟩
      have hz3 := k2.1.size
      have hS2 : ∀ j, S2 j → SL j ∨ (w.heap.size ≤ j ∧ j < w'.heap.size) := fun j e => (k2.2 j e).elim (fun e => by
        rcases e with e | e | e
        · exact .inl e
        · exact .inr (by omega)
        · exact .inr (by omega)) fun e => .inr (by omega)
      exact ⟨rfl, S2, ⟨InM.start_ok, ⟨hT, hL⟩, hlb, k1⟩, ⟨((only_below SL g3).more (only_below SL hb) fun j e => .inl e).more k2.1 fun j e => e.imp id fun e => by omega, hS2⟩, hz⟩)
  have HB0 := Lib.hid (show Below w.heap.size w (w.alloc (.cells #[.int .i64 T, .int .i64 N, .int .i64 L, .int .u64 G] 24)) ∧ (w.alloc (.cells #[.int .i64 T, .int .i64 N, .int .i64 L, .int .u64 G] 24)).heap[w.heap.size]? = some (.cells #[.int .i64 T, .int .i64 N, .int .i64 L, .int .u64 G] 24) from ⟨box_below w _, new_heap w _⟩)
  have HK := Lib.hid (show ∀ W, Below (w.alloc (.cells #[.int .i64 T, .int .i64 N, .int .i64 L, .int .u64 G] 24)).heap.size (w.alloc (.cells #[.int .i64 T, .int .i64 N, .int .i64 L, .int .u64 G] 24)) W → (W.cell? ⟨w.heap.size, 0, none⟩ = some (.int .i64 T) ∧ W.cell? ⟨w.heap.size, 1, none⟩ = some (.int .i64 N) ∧ W.cell? ⟨w.heap.size, 2, none⟩ = some (.int .i64 L) ∧ W.cell? ⟨w.heap.size, 3, none⟩ = some (.int .u64 G)) from fun W hb => by
    have g := (only_below (fun _ => False) hb).heap (new_heap w (.cells #[.int .i64 T, .int .i64 N, .int .i64 L, .int .u64 G] 24)) id
    exact ⟨(cell_heap g 0).1, (cell_heap g 1).1, (cell_heap g 2).1, (cell_heap g 3).1⟩)
  obtain ⟨c_0, c_1, c_2, c_3⟩ := box4 w (.int .i64 T) (.int .i64 N) (.int .i64 L) (.int .u64 G) 24
  clear hl hlb hlt hT hL hn
  go_enter Tryz.func104, Tryz.ntmps104
  go_wp2_with fail
  refine (HH.out _).mono ?_
  rintro e w' ⟨rfl, rfl⟩
  go_upto_region 2 with fail
  have HD1 := Lib.hid (HK.out _ (Below.refl (w.alloc (.cells #[.int .i64 T, .int .i64 N, .int .i64 L, .int .u64 G] 24)).heap.size (w.alloc (.cells #[.int .i64 T, .int .i64 N, .int .i64 L, .int .u64 G] 24))).drew)
  go_region_held3 (fun W => (W.cell? ⟨w.heap.size, 0, none⟩ = some (.int .i64 T) ∧ W.cell? ⟨w.heap.size, 1, none⟩ = some (.int .i64 N) ∧ W.cell? ⟨w.heap.size, 2, none⟩ = some (.int .i64 L) ∧ W.cell? ⟨w.heap.size, 3, none⟩ = some (.int .u64 G)))
    ((first | (with_reducible exact HD1.out) | (with_reducible assumption) | (with_reducible exact HK.out _ HB2.out.1) | (with_reducible exact HK.out _ HB2.out.2.1)))
    (first
      | (go_at_call 115; refine (HMI.out _).mono ?_; rintro e w3 ⟨pm, rfl, g1, g2, g3⟩; have hb1 := (Below.refl (w.alloc (.cells #[.int .i64 T, .int .i64 N, .int .i64 L, .int .u64 G] 24)).heap.size (w.alloc (.cells #[.int .i64 T, .int .i64 N, .int .i64 L, .int .u64 G] 24))).drew; have HB2 := Lib.hid (And.intro (bw_b hb1 g3) (And.intro (bw_b (bw_b hb1 g3) (box_below w3 (.cells #[.pointer none, .int .i64 0, .int .i64 T, .int .i64 N, .int .i64 L, .int .u64 G, .pointer (some ⟨l, 0, none⟩), .int .i64 i, .int .i64 tall, .pointer (some ⟨pm, 0, none⟩), .pointer none, .pointer none, .bool false] 135))) (And.intro g1 (And.intro (Nat.le_trans HB0.out.1.size (Nat.le_trans hb1.size g2)) (bw_b HB0.out.1 (bw_b hb1 g3)))))); clear hb1 g1 g2 g3)
      | fail)
  have HTO := Lib.hid (HEND.out w3 pm HB2.out.2.2.1 HB2.out.2.2.2.1 HB2.out.2.2.2.2)
  have c9 := (cell_heap (new_heap w3 (.cells #[.pointer none, .int .i64 0, .int .i64 T, .int .i64 N, .int .i64 L, .int .u64 G, .pointer (some ⟨l, 0, none⟩), .int .i64 i, .int .i64 tall, .pointer (some ⟨pm, 0, none⟩), .pointer none, .pointer none, .bool false] 135)) 9).1
  replace c9 : (w3.alloc (.cells #[.pointer none, .int .i64 0, .int .i64 T, .int .i64 N, .int .i64 L, .int .u64 G, .pointer (some ⟨l, 0, none⟩), .int .i64 i, .int .i64 tall, .pointer (some ⟨pm, 0, none⟩), .pointer none, .pointer none, .bool false] 135)).cell? ⟨w3.heap.size, 9, none⟩ = some (.pointer (some ⟨pm, 0, none⟩)) := c9
  have hf := hmf
  go_upto_region 3 with fail
  go_region_with (go_at_call 42; refine HTO.out.mono ?_; rintro e w5 ⟨rfl, h⟩; have HE := Lib.hid h; clear h)
  all_goals go_wp2
  all_goals go_ret
  all_goals (obtain ⟨S, q1, q2, q3⟩ := HE.out; exact ⟨w3.heap.size, S, rfl, q1, q2, q3⟩)
theorem ins_next (q n : Nat) (w : World) : (method (n + 1) 91 (.pointer (some ⟨q, 0, none⟩)) "Next").run Tryz.prog w = .ok (186, .pointer (some ⟨q, 0, none⟩)) w := by kernel_rfl
theorem ins_tell (q n : Nat) (w : World) : (method (n + 1) 91 (.pointer (some ⟨q, 0, none⟩)) "Tell").run Tryz.prog w = .ok (187, .pointer (some ⟨q, 0, none⟩)) w := by kernel_rfl
theorem ins_nextE (args : Array Value) (w : World) : (callFunc 186 args).run Tryz.prog w = .ok (.enter 186 args) w := by kernel_rfl
theorem ins_tellE (args : Array Value) (w : World) : (callFunc 187 args).run Tryz.prog w = .ok (.enter 187 args) w := by kernel_rfl
/-- An inserter (told k words at most) as a task. -/
def InsI (T N L G : Int) (l : Nat) (i dl dw tw tall : Int) (k : Nat) (lb : Ls) (q : Nat) (w : World) (S : Nat → Prop) (s : InM.St) : Prop := Inserts w q S T N L G l i dl dw tw tall k lb s
theorem ins_ask (T N L G : Int) (l : Nat) (i dl dw tw tall : Int) (k : Nat) (lb : Ls) : IsAsk 91 186 187 (InsI T N L G l i dl dw tw tall k lb) (insA T L i dw tw) where
  mnext := ins_next
  mtell := ins_tell
  enext := ins_nextE
  etell := ins_tellE
  only := fun h ho hn => Inserts.only h ho hn
  lt := fun h => Inserts.lt h
  next := fun {q w S s} h => by
    refine (Ins_next h).mono ?_
    rintro e w' ⟨rfl, hb⟩
    exact ⟨rfl, Inserts.later h hb, hb⟩
theorem ins_told {T N L G : Int} {l : Nat} {i dl dw tw tall : Int} {k : Nat} {lb : Ls} {q : Nat} {w : World} {S : Nat → Prop} {s : InM.St} {v : Int} (h : InsI T N L G l i dl dw tw tall k lb q w S s) (hk : k + 1 ≤ 1000000) (hv : Word v) :
    Calls Tryz.prog 187 #[.pointer (some ⟨q, 0, none⟩), .int .u64 v] w fun e w' => e = .returned (.tuple #[]) ∧ ∃ S' : Nat → Prop, InsI T N L G l i dl dw tw tall (k + 1) (addO lb (retI L dl s v)) q w' S' (insT T L i dl dw tw tall s v) ∧ Only S w w' ∧ ∀ j, S' j → S j ∨ (w.heap.size ≤ j ∧ j < w'.heap.size) := by
  refine (Ins_tell h hk hv).mono ?_
  rintro e w' ⟨rfl, S', h1, h2⟩
  exact ⟨rfl, S', h1, h2.1, h2.2⟩
end Go.Proofs.YtlagghghbpbcbaaGreatDoor.Ins

/- Package start (layer 31): where a starter stands, and how it goes on from taking a slot to bringing its timer in, and to leaving. -/
namespace Go.Proofs.YtlagghghbpbcbaaGreatDoor.Srt
set_option maxRecDepth 20000
open Go.ChangeShapes Go.WideShapes Go.RowKit CM DM PM KM Lay Ints Plan Go.Proofs.YtlagghghbpbcbaaGreatDoor.Flows
open Go.Proofs.YtlagghghbpbcbaaGreatDoor.Limbo (Lim)
open LM (Ls lenL addL R2)
open Go.Proofs.YtlagghghbpbcbaaGreatDoor.Pin (Pins Unpins)
open Go.Proofs.YtlagghghbpbcbaaGreatDoor.Pool (Pops)
open Go.Proofs.YtlagghghbpbcbaaGreatDoor.Ins (Inserts InsI ins_ask ins_told Insert_any Lives_any Lives_nil Handle_any Ins_next addO)
open InM (insA insT livesB refS)
open PiM (pinA pinT)
open PoM (popA popT popI)
set_option linter.unusedVariables false
set_option linter.unusedSimpArgs false

theorem pin_mnext (q n : Nat) (w : World) : (method (n + 1) 95 (.pointer (some ⟨q, 0, none⟩)) "Next").run Tryz.prog w = .ok (189, .pointer (some ⟨q, 0, none⟩)) w := by kernel_rfl
theorem pin_mtell (q n : Nat) (w : World) : (method (n + 1) 95 (.pointer (some ⟨q, 0, none⟩)) "Tell").run Tryz.prog w = .ok (190, .pointer (some ⟨q, 0, none⟩)) w := by kernel_rfl
theorem pin_nextE (args : Array Value) (w : World) : (callFunc 189 args).run Tryz.prog w = .ok (.enter 189 args) w := by kernel_rfl
theorem pin_tellE (args : Array Value) (w : World) : (callFunc 190 args).run Tryz.prog w = .ok (.enter 190 args) w := by kernel_rfl
theorem leave_mnext (q n : Nat) (w : World) : (method (n + 1) 155 (.pointer (some ⟨q, 0, none⟩)) "Next").run Tryz.prog w = .ok (220, .pointer (some ⟨q, 0, none⟩)) w := by kernel_rfl
theorem leave_mtell (q n : Nat) (w : World) : (method (n + 1) 155 (.pointer (some ⟨q, 0, none⟩)) "Tell").run Tryz.prog w = .ok (221, .pointer (some ⟨q, 0, none⟩)) w := by kernel_rfl
theorem leave_nextE (args : Array Value) (w : World) : (callFunc 220 args).run Tryz.prog w = .ok (.enter 220 args) w := by kernel_rfl
theorem leave_tellE (args : Array Value) (w : World) : (callFunc 221 args).run Tryz.prog w = .ok (.enter 221 args) w := by kernel_rfl
theorem pop_mnext (q n : Nat) (w : World) : (method (n + 1) 90 (.pointer (some ⟨q, 0, none⟩)) "Next").run Tryz.prog w = .ok (182, .pointer (some ⟨q, 0, none⟩)) w := by kernel_rfl
theorem pop_mtell (q n : Nat) (w : World) : (method (n + 1) 90 (.pointer (some ⟨q, 0, none⟩)) "Tell").run Tryz.prog w = .ok (183, .pointer (some ⟨q, 0, none⟩)) w := by kernel_rfl
theorem pop_nextE (args : Array Value) (w : World) : (callFunc 182 args).run Tryz.prog w = .ok (.enter 182 args) w := by kernel_rfl
theorem pop_tellE (args : Array Value) (w : World) : (callFunc 183 args).run Tryz.prog w = .ok (.enter 183 args) w := by kernel_rfl
theorem takeSlot_enter (args : Array Value) (w : World) : (callFunc 44 args).run Tryz.prog w = .ok (.enter 44 args) w := by kernel_rfl
theorem bringIn_enter (args : Array Value) (w : World) : (callFunc 73 args).run Tryz.prog w = .ok (.enter 73 args) w := by kernel_rfl
theorem tellHandle_enter (args : Array Value) (w : World) : (callFunc 105 args).run Tryz.prog w = .ok (.enter 105 args) w := by kernel_rfl
/-- A pinner, an unpinner, a popper, as tasks. -/
def PinI (T N L G th : Int) (q : Nat) (w : World) (S : Nat → Prop) (s : PiM.St) : Prop := Pins w q T N L G th s ∧ S q ∧ ∀ j, S j → j < w.heap.size
def LeaveI (T N L G th : Int) (q : Nat) (w : World) (S : Nat → Prop) (s : PiM.St) : Prop := Unpins w q T N L G th s ∧ S q ∧ ∀ j, S j → j < w.heap.size
def PopI (T N L G : Int) (q : Nat) (w : World) (S : Nat → Prop) (s : PoM.St) : Prop := Pops w q T N L G s ∧ S q ∧ ∀ j, S j → j < w.heap.size
theorem pin_task (T N L G th : Int) : IsTask 95 189 190 (PinI T N L G th) pinA pinT where
  mnext := pin_mnext
  mtell := pin_mtell
  enext := pin_nextE
  etell := pin_tellE
  only := fun h ho hn => ⟨h.1.only ho (hn _ h.2.1), h.2.1, fun k e => Nat.lt_of_lt_of_le (h.2.2 k e) ho.size⟩
  lt := fun h => h.2.2
  next := fun {q w S s} h => by
    refine (Pin.Pin_next h.1).mono ?_
    rintro e w' ⟨rfl, hb⟩
    exact ⟨rfl, ⟨h.1.only (only_below (fun _ => False) hb) id, h.2.1, fun k e => Nat.lt_of_lt_of_le (h.2.2 k e) hb.size⟩, hb⟩
  tell := fun {q w S s v} h hv => by
    refine (Pin.Pin_tell h.1 hv).mono ?_
    rintro e w' ⟨rfl, h1, ho⟩
    exact ⟨rfl, S, ⟨h1, h.2.1, fun k e => Nat.lt_of_lt_of_le (h.2.2 k e) ho.size⟩, ho.wide fun k e => .inl (e ▸ h.2.1), fun k e => .inl e⟩
theorem leave_task (T N L G th : Int) : IsTask 155 220 221 (LeaveI T N L G th) pinA pinT where
  mnext := leave_mnext
  mtell := leave_mtell
  enext := leave_nextE
  etell := leave_tellE
  only := fun h ho hn => ⟨h.1.only ho (hn _ h.2.1), h.2.1, fun k e => Nat.lt_of_lt_of_le (h.2.2 k e) ho.size⟩
  lt := fun h => h.2.2
  next := fun {q w S s} h => by
    refine (Pin.Leave_next h.1).mono ?_
    rintro e w' ⟨rfl, hb⟩
    exact ⟨rfl, ⟨h.1.only (only_below (fun _ => False) hb) id, h.2.1, fun k e => Nat.lt_of_lt_of_le (h.2.2 k e) hb.size⟩, hb⟩
  tell := fun {q w S s v} h hv => by
    refine (Pin.Leave_tell h.1 hv).mono ?_
    rintro e w' ⟨rfl, h1, ho⟩
    exact ⟨rfl, S, ⟨h1, h.2.1, fun k e => Nat.lt_of_lt_of_le (h.2.2 k e) ho.size⟩, ho.wide fun k e => .inl (e ▸ h.2.1), fun k e => .inl e⟩
theorem pop_task (T N L G : Int) : IsTask 90 182 183 (PopI T N L G) (popA T L) popT where
  mnext := pop_mnext
  mtell := pop_mtell
  enext := pop_nextE
  etell := pop_tellE
  only := fun h ho hn => ⟨h.1.only ho (hn _ h.2.1), h.2.1, fun k e => Nat.lt_of_lt_of_le (h.2.2 k e) ho.size⟩
  lt := fun h => h.2.2
  next := fun {q w S s} h => by
    refine (Pool.Pop_next h.1).mono ?_
    rintro e w' ⟨rfl, hb⟩
    exact ⟨rfl, ⟨h.1.only (only_below (fun _ => False) hb) id, h.2.1, fun k e => Nat.lt_of_lt_of_le (h.2.2 k e) hb.size⟩, hb⟩
  tell := fun {q w S s v} h hv => by
    refine (Pool.Pop_tell h.1 hv).mono ?_
    rintro e w' ⟨rfl, h1, ho⟩
    exact ⟨rfl, S, ⟨h1, h.2.1, fun k e => Nat.lt_of_lt_of_le (h.2.2 k e) ho.size⟩, ho.wide fun k e => .inl (e ▸ h.2.1), fun k e => .inl e⟩
/-- What a starter keeps beside its task: its acts lie in block g; Z tells of the rest. -/
abbrev Side := Nat → World → (Nat → Prop) → Nat → Value → Value → Prop
def Ba (p : Nat) (T N L G th kd dl dr hh cn : Int) (l n : Nat) (acts : List Act4) (err : Int) (ok : Bool) (hd : Int) (Z : Side) : Beside := fun w X rest q => ∃ A g U V, rest = [.int .i64 (n : Int), A, .int .i64 T, .int .i64 N, .int .i64 L, .int .u64 G, .int .i64 th, .int .i64 kd, .int .i64 dl, .int .u64 dr, .int .u64 hh, .int .i64 cn, .pointer (some ⟨l, 0, none⟩), U, V, .int .i64 err, .bool ok, .int .u64 hd, .slice none 0 0] ∧ Acts w p g A acts ∧ (g ≠ p → X g) ∧ Z g w X q U V
/-- The limbo, in blocks of its own. -/
def Keep (l : Nat) (lb : Ls) (g : Nat) (w : World) (X : Nat → Prop) : Prop := ∃ SL, Lim w l SL lb ∧ ∀ j, SL j → X j ∧ j ≠ g
def Zp (l : Nat) (lb : Ls) : Side := fun g w X q U V => U = .pointer none ∧ V = .pointer none ∧ Keep l lb g w X
def Zo (l : Nat) (lb : Ls) : Side := fun g w X q U V => U = .pointer (some ⟨q, 0, none⟩) ∧ V = .pointer none ∧ Keep l lb g w X
def Zi : Side := fun g w X q U V => (∃ qp : Nat, U = .pointer (some ⟨qp, 0, none⟩)) ∧ V = .pointer (some ⟨q, 0, none⟩)
/-- Behind the bringing in: no timer came in, or it lives. -/
def Over (T N L G dl dw tw tall : Int) (l : Nat) (lb : Ls) (b : Bool) (g : Nat) (w : World) (X : Nat → Prop) (V : Value) : Prop :=
  (b = false ∧ V = .pointer none ∧ Keep l lb g w X) ∨ b = true ∧ ∃ qi SI k i s, V = .pointer (some ⟨qi, 0, none⟩) ∧ Inserts w qi SI T N L G l i dl dw tw tall k lb s ∧ livesB s = true ∧ ∀ j, SI j → X j ∧ j ≠ g
def Zx (T N L G dl dw tw tall : Int) (l : Nat) (lb : Ls) (b : Bool) : Side := fun g w X q U V => Over T N L G dl dw tw tall l lb b g w X V
structure Stays (Z : Side) : Prop where
  only : ∀ {w w' : World} {X R : Nat → Prop} {q g : Nat} {U V : Value}, Z g w X q U V → Only R w w' → (∀ k, X k → ¬ R k) → Z g w' X q U V
section
variable {p n : Nat} {T N L G th kd dl dr hh cn err hd dw tw tall : Int} {l : Nat} {lb : Ls} {acts : List Act4} {ok : Bool} {Z : Side}
theorem Keep.only {w w' : World} {X R : Nat → Prop} {g : Nat} (h : Keep l lb g w X) (ho : Only R w w') (hR : ∀ k, X k → ¬ R k) : Keep l lb g w' X := by
  obtain ⟨SL, h1, h2⟩ := h
  exact ⟨SL, h1.only ho fun j e z => hR j (h2 j z).1 e, h2⟩
theorem Over.only {w w' : World} {X R : Nat → Prop} {g : Nat} {b : Bool} {V : Value} (h : Over T N L G dl dw tw tall l lb b g w X V) (ho : Only R w w') (hR : ∀ k, X k → ¬ R k) : Over T N L G dl dw tw tall l lb b g w' X V := by
  rcases h with ⟨h0, h1, h2⟩ | ⟨h0, qi, SI, k, i, s, h1, h2, h3, h4⟩
  · exact .inl ⟨h0, h1, h2.only ho hR⟩
  · exact .inr ⟨h0, qi, SI, k, i, s, h1, Inserts.only h2 ho fun j e => hR j (h4 j e).1, h3, h4⟩
theorem Zp_stays : Stays (Zp l lb) := ⟨fun h ho hR => ⟨h.1, h.2.1, h.2.2.only ho hR⟩⟩
theorem Zo_stays : Stays (Zo l lb) := ⟨fun h ho hR => ⟨h.1, h.2.1, h.2.2.only ho hR⟩⟩
theorem Zi_stays : Stays Zi := ⟨fun h ho hR => h⟩
theorem Zx_stays {b : Bool} : Stays (Zx T N L G dl dw tw tall l lb b) := ⟨fun h ho hR => Over.only h ho hR⟩
theorem Ba_keeps (hZ : Stays Z) : Keeps (Ba p T N L G th kd dl dr hh cn l n acts err ok hd Z) := ⟨fun h ho hR => by
  obtain ⟨A, g, U, V, h1, h2, h3, h4⟩ := h
  exact ⟨A, g, U, V, h1, h2.only ho fun e => hR g (h3 e), h3, hZ.only h4 ho hR⟩⟩
end
/-- The cells of a starter. -/
theorem cells_st {w : World} {p d n : Nat} {nv : Option Nat} {A U V : Value} {T N L G th kd dl dr hh cn err hd : Int} {l : Nat} {ok : Bool} (h : HeadAt w p nv d [.int .i64 (n : Int), A, .int .i64 T, .int .i64 N, .int .i64 L, .int .u64 G, .int .i64 th, .int .i64 kd, .int .i64 dl, .int .u64 dr, .int .u64 hh, .int .i64 cn, .pointer (some ⟨l, 0, none⟩), U, V, .int .i64 err, .bool ok, .int .u64 hd, .slice none 0 0] 93) :
    (w.cell? ⟨p, 4, none⟩ = some (.int .i64 T) ∧ w.cell? ⟨p, 5, none⟩ = some (.int .i64 N) ∧ w.cell? ⟨p, 6, none⟩ = some (.int .i64 L) ∧ w.cell? ⟨p, 7, none⟩ = some (.int .u64 G)) ∧ w.cell? ⟨p, 8, none⟩ = some (.int .i64 th) ∧ w.cell? ⟨p, 10, none⟩ = some (.int .i64 dl) ∧ w.cell? ⟨p, 11, none⟩ = some (.int .u64 dr) ∧
    w.cell? ⟨p, 14, none⟩ = some (.pointer (some ⟨l, 0, none⟩)) ∧ w.cell? ⟨p, 15, none⟩ = some U ∧ w.cell? ⟨p, 16, none⟩ = some V ∧ w.cell? ⟨p, 17, none⟩ = some (.int .i64 err) ∧ w.cell? ⟨p, 18, none⟩ = some (.bool ok) ∧ w.cell? ⟨p, 19, none⟩ = some (.int .u64 hd) ∧ w.cell? ⟨p, 20, none⟩ = some (.slice none 0 0) := by
  have hc := fun j => (cell_heap h j).1
  exact ⟨⟨hc 4, hc 5, hc 6, hc 7⟩, hc 8, hc 10, hc 11, hc 14, hc 15, hc 16, hc 17, hc 18, hc 19, hc 20⟩
theorem thawed_st {w : World} {p d : Nat} {nv : Option Nat} {rest : List Value} (h : HeadAt w p nv d rest 93) (j : Nat) : w.frozen? ⟨p, j, none⟩ = false := (cell_heap h j).2
section
variable {w : World} {p d n : Nat} {nv : Option Nat} {A U V : Value} {T N L G th kd dl dr hh cn err hd : Int} {l : Nat} {ok : Bool}
theorem put_pop (h : HeadAt w p nv d [.int .i64 (n : Int), A, .int .i64 T, .int .i64 N, .int .i64 L, .int .u64 G, .int .i64 th, .int .i64 kd, .int .i64 dl, .int .u64 dr, .int .u64 hh, .int .i64 cn, .pointer (some ⟨l, 0, none⟩), U, V, .int .i64 err, .bool ok, .int .u64 hd, .slice none 0 0] 93) (v : Value) : HeadAt (w.setCell ⟨p, 15, none⟩ v) p nv d [.int .i64 (n : Int), A, .int .i64 T, .int .i64 N, .int .i64 L, .int .u64 G, .int .i64 th, .int .i64 kd, .int .i64 dl, .int .u64 dr, .int .u64 hh, .int .i64 cn, .pointer (some ⟨l, 0, none⟩), v, V, .int .i64 err, .bool ok, .int .u64 hd, .slice none 0 0] 93 := set_heap (j := 15) h v
theorem put_ins (h : HeadAt w p nv d [.int .i64 (n : Int), A, .int .i64 T, .int .i64 N, .int .i64 L, .int .u64 G, .int .i64 th, .int .i64 kd, .int .i64 dl, .int .u64 dr, .int .u64 hh, .int .i64 cn, .pointer (some ⟨l, 0, none⟩), U, V, .int .i64 err, .bool ok, .int .u64 hd, .slice none 0 0] 93) (v : Value) : HeadAt (w.setCell ⟨p, 16, none⟩ v) p nv d [.int .i64 (n : Int), A, .int .i64 T, .int .i64 N, .int .i64 L, .int .u64 G, .int .i64 th, .int .i64 kd, .int .i64 dl, .int .u64 dr, .int .u64 hh, .int .i64 cn, .pointer (some ⟨l, 0, none⟩), U, v, .int .i64 err, .bool ok, .int .u64 hd, .slice none 0 0] 93 := set_heap (j := 16) h v
theorem put_err (h : HeadAt w p nv d [.int .i64 (n : Int), A, .int .i64 T, .int .i64 N, .int .i64 L, .int .u64 G, .int .i64 th, .int .i64 kd, .int .i64 dl, .int .u64 dr, .int .u64 hh, .int .i64 cn, .pointer (some ⟨l, 0, none⟩), U, V, .int .i64 err, .bool ok, .int .u64 hd, .slice none 0 0] 93) (v : Int) : HeadAt (w.setCell ⟨p, 17, none⟩ (.int .i64 v)) p nv d [.int .i64 (n : Int), A, .int .i64 T, .int .i64 N, .int .i64 L, .int .u64 G, .int .i64 th, .int .i64 kd, .int .i64 dl, .int .u64 dr, .int .u64 hh, .int .i64 cn, .pointer (some ⟨l, 0, none⟩), U, V, .int .i64 v, .bool ok, .int .u64 hd, .slice none 0 0] 93 := set_heap (j := 17) h (.int .i64 v)
theorem put_ok (h : HeadAt w p nv d [.int .i64 (n : Int), A, .int .i64 T, .int .i64 N, .int .i64 L, .int .u64 G, .int .i64 th, .int .i64 kd, .int .i64 dl, .int .u64 dr, .int .u64 hh, .int .i64 cn, .pointer (some ⟨l, 0, none⟩), U, V, .int .i64 err, .bool ok, .int .u64 hd, .slice none 0 0] 93) (v : Bool) : HeadAt (w.setCell ⟨p, 18, none⟩ (.bool v)) p nv d [.int .i64 (n : Int), A, .int .i64 T, .int .i64 N, .int .i64 L, .int .u64 G, .int .i64 th, .int .i64 kd, .int .i64 dl, .int .u64 dr, .int .u64 hh, .int .i64 cn, .pointer (some ⟨l, 0, none⟩), U, V, .int .i64 err, .bool v, .int .u64 hd, .slice none 0 0] 93 := set_heap (j := 18) h (.bool v)
theorem put_hd (h : HeadAt w p nv d [.int .i64 (n : Int), A, .int .i64 T, .int .i64 N, .int .i64 L, .int .u64 G, .int .i64 th, .int .i64 kd, .int .i64 dl, .int .u64 dr, .int .u64 hh, .int .i64 cn, .pointer (some ⟨l, 0, none⟩), U, V, .int .i64 err, .bool ok, .int .u64 hd, .slice none 0 0] 93) (v : Int) : HeadAt (w.setCell ⟨p, 19, none⟩ (.int .u64 v)) p nv d [.int .i64 (n : Int), A, .int .i64 T, .int .i64 N, .int .i64 L, .int .u64 G, .int .i64 th, .int .i64 kd, .int .i64 dl, .int .u64 dr, .int .u64 hh, .int .i64 cn, .pointer (some ⟨l, 0, none⟩), U, V, .int .i64 err, .bool ok, .int .u64 v, .slice none 0 0] 93 := set_heap (j := 19) h (.int .u64 v)
end
theorem bs_b {w W W' : World} (hb : Below w.heap.size w W) (h : Below W.heap.size W W') : Below w.heap.size w W' := hb.trans (h.mono hb.size)
theorem bs_d {w W : World} (h : Below w.drew.heap.size w.drew W) : Below w.heap.size w W := bs_b (Below.refl w.heap.size w).drew h
theorem same_keepL {w w' : World} {p : Nat} {T N L G th : Int} (h : (fun W => (W.cell? ⟨p, 4, none⟩ = some (.int .i64 T) ∧ W.cell? ⟨p, 5, none⟩ = some (.int .i64 N) ∧ W.cell? ⟨p, 6, none⟩ = some (.int .i64 L) ∧ W.cell? ⟨p, 7, none⟩ = some (.int .u64 G)) ∧ W.cell? ⟨p, 8, none⟩ = some (.int .i64 th)) w) (hs : Same p 9 w w') : (fun W => (W.cell? ⟨p, 4, none⟩ = some (.int .i64 T) ∧ W.cell? ⟨p, 5, none⟩ = some (.int .i64 N) ∧ W.cell? ⟨p, 6, none⟩ = some (.int .i64 L) ∧ W.cell? ⟨p, 7, none⟩ = some (.int .u64 G)) ∧ W.cell? ⟨p, 8, none⟩ = some (.int .i64 th)) w' := by
  obtain ⟨⟨k1, k2, k3, k4⟩, k5⟩ := h
  exact ⟨⟨(hs 4 (by omega) (by omega)).trans k1, (hs 5 (by omega) (by omega)).trans k2, (hs 6 (by omega) (by omega)).trans k3, (hs 7 (by omega) (by omega)).trans k4⟩, (hs 8 (by omega) (by omega)).trans k5⟩
/-- A starter without a task, whose timer is in, or for which there was no slot. -/
structure Free (w : World) (p d : Nat) (S : Nat → Prop) (T N L G th kd dl dr hh cn : Int) (l n : Nat) (acts : List Act4) (err : Int) (ok : Bool) (hd : Int) (lb : Ls) : Prop where
  base : S p
  lt : ∀ j, S j → j < w.heap.size
  parts : ∃ A g U V X, HeadAt w p none d [.int .i64 (n : Int), A, .int .i64 T, .int .i64 N, .int .i64 L, .int .u64 G, .int .i64 th, .int .i64 kd, .int .i64 dl, .int .u64 dr, .int .u64 hh, .int .i64 cn, .pointer (some ⟨l, 0, none⟩), U, V, .int .i64 err, .bool ok, .int .u64 hd, .slice none 0 0] 93 ∧ Acts w p g A acts ∧ (g ≠ p → X g) ∧ Over T N L G dl (IntKind.u64.wrap dl) (IntKind.u64.wrap (DM.heightI dr L)) (DM.heightI dr L) l lb ok g w X V ∧ ∀ j, X j → S j ∧ j ≠ p
theorem leave_any {w : World} {p d n : Nat} {S : Nat → Prop} {T N L G th kd dl dr hh cn err hd : Int} {l : Nat} {lb : Ls} {acts : List Act4} {ok : Bool} (h : Free w p d S T N L G th kd dl dr hh cn l n acts err ok hd lb) : Calls Tryz.prog 103 #[.pointer (some ⟨p, 0, none⟩)] w fun e w' => e = .returned (.tuple #[]) ∧ ∃ S2, Phase 155 .nilFunc (LeaveI T N L G th) (Ba p T N L G th kd dl dr hh cn l n acts err ok hd (Zx T N L G dl (IntKind.u64.wrap dl) (IntKind.u64.wrap (DM.heightI dr L)) (DM.heightI dr L) l lb ok)) 93 w' p d S2 ⟨2, ofI T 0 th, 0⟩ ∧ Grown w w' S S2 ∧ Anew 93 p d w w' := by
  obtain ⟨h1, h2, A, g, U, V, X, hF, hA, hg, hO, hX⟩ := h
  have HLV := Lib.hid (fun W : World => Pin.Leave_any T N L G th W)
  have HK := Lib.hid (show ∀ W, Below w.heap.size w W → (W.cell? ⟨p, 4, none⟩ = some (.int .i64 T) ∧ W.cell? ⟨p, 5, none⟩ = some (.int .i64 N) ∧ W.cell? ⟨p, 6, none⟩ = some (.int .i64 L) ∧ W.cell? ⟨p, 7, none⟩ = some (.int .u64 G)) ∧ W.cell? ⟨p, 8, none⟩ = some (.int .i64 th) from fun W hb => by
    obtain ⟨k1, k2, -⟩ := cells_st (hF.later hb)
    exact ⟨k1, k2⟩)
  have HEND := Lib.hid (show ∀ w3 q, Unpins w3 q T N L G th ⟨2, ofI T 0 th, 0⟩ → w.heap.size ≤ q → Below w.heap.size w w3 →
      Calls Tryz.prog 42 #[.pointer (some ⟨p, 0, none⟩), itf 155 q, .nilFunc] w3 fun e w' => e = .returned (.tuple #[]) ∧ Same p 9 w3 w' ∧ ∃ S2, Phase 155 .nilFunc (LeaveI T N L G th) (Ba p T N L G th kd dl dr hh cn l n acts err ok hd (Zx T N L G dl (IntKind.u64.wrap dl) (IntKind.u64.wrap (DM.heightI dr L)) (DM.heightI dr L) l lb ok)) 93 w' p d S2 ⟨2, ofI T 0 th, 0⟩ ∧ Grown w w' S S2 ∧ Anew 93 p d w w' from fun w3 q g1 g2 g3 => by
    have hz := g3.size
    have hq := Unpins.lt g1
    have hpw := h2 p h1
    refine (Given.made (leave_task T N L G th).asks (E2 := Ba p T N L G th kd dl dr hh cn l n acts err ok hd (Zx T N L G dl (IntKind.u64.wrap dl) (IntKind.u64.wrap (DM.heightI dr L)) (DM.heightI dr L) l lb ok)) (Ba_keeps Zx_stays) (.inl rfl) (S := fun j => S j ∨ j = q) (s2 := ⟨2, ofI T 0 th, 0⟩) ⟨.inl h1, fun j e => e.elim (fun e => by have := h2 j e; omega) fun e => by omega, none, _, fun j => j = q, X, hF.later g3, ⟨g1, rfl, fun j e => by omega⟩,
      ⟨A, g, U, V, rfl, hA.only (only_below (fun _ => False) g3) (fun _ => id), hg, hO.only (only_below (fun _ => False) g3) (fun _ _ => id)⟩, fun j e => e.elim (fun e => ⟨.inr e, by omega⟩) (fun e => ⟨.inl (hX j e).1, (hX j e).2⟩), fun j e z => by have := h2 j (hX j z).1; omega⟩ (x := (2, ofI T 0 th, 0, 0, 0)) (PiM.pinA_2 _ _)).mono ?_
    rintro e w' ⟨rfl, S2, k1, k2, k3, k4⟩
    have hz3 := k2.1.size
    exact ⟨rfl, k4 9, S2, k1, ⟨(only_below S g3).more k2.1 fun j e => e.imp id fun e => by omega, fun j e => (k2.2 j e).elim (fun e => e.imp id fun e => by omega) fun e => .inr (by omega)⟩, k3.more hz⟩)
  clear hF hA hO hX h1 h2 hg
  go_enter Tryz.func103, Tryz.ntmps103
  go_upto_region 0 with fail
  have HD1 := Lib.hid (HK.out _ (Below.refl w.heap.size w).drew)
  go_region_held3 (fun W => (W.cell? ⟨p, 4, none⟩ = some (.int .i64 T) ∧ W.cell? ⟨p, 5, none⟩ = some (.int .i64 N) ∧ W.cell? ⟨p, 6, none⟩ = some (.int .i64 L) ∧ W.cell? ⟨p, 7, none⟩ = some (.int .u64 G)) ∧ W.cell? ⟨p, 8, none⟩ = some (.int .i64 th))
    ((first | (with_reducible exact HD1.out) | (with_reducible assumption) | (with_reducible exact HE.out.1) | (with_reducible exact HK.out _ HB2.out.2.2)))
    (first
      | (go_at_call 113; refine (HLV.out _).mono ?_; rintro e w2 ⟨q, rfl, g1, g2, g3⟩; have HB2 := Lib.hid (And.intro g1 (And.intro (Nat.le_trans (Below.refl w.heap.size w).drew.size g2) (bs_d g3))); clear g1 g2 g3)
      | (go_at_call 42; refine (HEND.out _ _ HB2.out.1 HB2.out.2.1 HB2.out.2.2).mono ?_; rintro e w6 ⟨rfl, h8, h⟩; have HE := Lib.hid (And.intro (same_keepL (HK.out _ HB2.out.2.2) h8) h); clear h h8))
  all_goals go_wp2
  all_goals exact bodyPost_end (results_none rfl _ _ _) rfl ⟨rfl, HE.out.2⟩
end Go.Proofs.YtlagghghbpbcbaaGreatDoor.Srt
