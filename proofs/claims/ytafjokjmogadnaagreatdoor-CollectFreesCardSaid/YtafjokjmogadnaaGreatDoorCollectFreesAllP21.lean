import Derived.Test.YtafjokjmogadnaaGreatDoorCollectFreesAllP1
import Derived.Test.YtafjokjmogadnaaGreatDoorCollectFreesAllP17
import Derived.Test.YtafjokjmogadnaaGreatDoorCollectFreesAllP19
import Derived.Test.YtafjokjmogadnaaGreatDoorCollectFreesAllP20
/- Package give (layer 16), held to plain arithmetic: what a giver asks for, what it becomes; all else in memory stays as it was. -/
namespace Go.Proofs.YtafjokjmogadnaaGreatDoor.Give
set_option maxRecDepth 20000
open Go.ChangeShapes Go.WideShapes Go.RowKit CM DM PM GiM SM Lay Plan Pool Go.Proofs.YtafjokjmogadnaaGreatDoor.Task
open PoM (pushA pushT)
set_option linter.unusedVariables false
set_option linter.unusedSimpArgs false

abbrev pushV (q : Nat) : Value := .iface 129 (.pointer (some ⟨q, 0, none⟩))
theorem methods_task : Tryz.prog.underlying 99 = some (.interface (Tryz.prog.methodsAt 99)) := by kernel_rfl
theorem push_held (q : Nat) (w : World) : (binOp .neq 99 (pushV q) .nilIface).run Tryz.prog w = .ok (.bool true) w := run_neq_held_nil w _ _ _ methods_task
theorem method_next (q : Nat) (n : Nat) (w : World) : (method (n + 1) 129 (.pointer (some ⟨q, 0, none⟩)) "Next").run Tryz.prog w = .ok (146, .pointer (some ⟨q, 0, none⟩)) w := by kernel_rfl
theorem method_tell (q : Nat) (n : Nat) (w : World) : (method (n + 1) 129 (.pointer (some ⟨q, 0, none⟩)) "Tell").run Tryz.prog w = .ok (147, .pointer (some ⟨q, 0, none⟩)) w := by kernel_rfl

/-- The words of a giver. -/
def Box (w : World) (p : Nat) (b : Bool) (a x : Int) (v : Value) : Prop := w.heap[p]? = some (.cells #[.bool b, .int .i64 2, .int .i64 a, .int .u64 x, .int .u64 0, .int .u64 0, v] 128 (0, 0))
theorem Box.cells {w : World} {p : Nat} {b : Bool} {a x : Int} {v : Value} (h : Box w p b a x v) : w.cell? ⟨p, 0, none⟩ = some (.bool b) ∧ w.cell? ⟨p, 1, none⟩ = some (.int .i64 2) ∧ w.cell? ⟨p, 2, none⟩ = some (.int .i64 a) ∧ w.cell? ⟨p, 3, none⟩ = some (.int .u64 x) ∧
    w.cell? ⟨p, 4, none⟩ = some (.int .u64 0) ∧ w.cell? ⟨p, 5, none⟩ = some (.int .u64 0) ∧ w.cell? ⟨p, 6, none⟩ = some v := by
  refine ⟨?_, ?_, ?_, ?_, ?_, ?_, ?_⟩
  · have := (cell_heap h 0).1; simpa using this
  · have := (cell_heap h 1).1; simpa using this
  · have := (cell_heap h 2).1; simpa using this
  · have := (cell_heap h 3).1; simpa using this
  · have := (cell_heap h 4).1; simpa using this
  · have := (cell_heap h 5).1; simpa using this
  · have := (cell_heap h 6).1; simpa using this
theorem Box.only {w w' : World} {p : Nat} {b : Bool} {a x : Int} {v : Value} {R : Nat → Prop} (h : Box w p b a x v) (ho : Only R w w') (hp : ¬ R p) : Box w' p b a x v := ho.heap h hp
/-- A giver in block p, all of whose own blocks are of S. -/
def Gives (w : World) (p : Nat) (S : Nat → Prop) (T N L G i x : Int) (s : St) : Prop :=
  GiM.Ok s ∧ S p ∧ ((s.psh = none ∧ Box w p s.fst (atI T L i 0) x .nilIface) ∨ ∃ q r, s.psh = some r ∧ Box w p s.fst (atI T L i 0) x (pushV q) ∧ Pushes w q T N L G i r ∧ S q ∧ q ≠ p)
theorem Gives.only {w w' : World} {p : Nat} {S : Nat → Prop} {T N L G i x : Int} {s : St} {R : Nat → Prop} (h : Gives w p S T N L G i x s) (ho : Only R w w') (hs : ∀ k, S k → ¬ R k) : Gives w' p S T N L G i x s := by
  obtain ⟨h1, h2, h3⟩ := h
  refine ⟨h1, h2, ?_⟩
  rcases h3 with ⟨e, hb⟩ | ⟨q, r, e, hb, hp, hq, hn⟩
  · exact .inl ⟨e, hb.only ho (hs p h2)⟩
  · exact .inr ⟨q, r, e, hb.only ho (hs p h2), hp.only ho (hs q hq), hq, hn⟩
theorem Gives.wide {w : World} {p : Nat} {S S' : Nat → Prop} {T N L G i x : Int} {s : St} (h : Gives w p S T N L G i x s) (hs : ∀ k, S k → S' k) : Gives w p S' T N L G i x s := by
  obtain ⟨h1, h2, h3⟩ := h
  refine ⟨h1, hs p h2, ?_⟩
  rcases h3 with h3 | ⟨q, r, e, hb, hp, hq, hn⟩
  · exact .inl h3
  · exact .inr ⟨q, r, e, hb, hp, hs q hq, hn⟩
theorem Next_store {w : World} {p : Nat} {a x : Int} {v : Value} (h : Box w p true a x v) : Calls Tryz.prog 144 #[.pointer (some ⟨p, 0, none⟩)] w (ToldD w (2, a, x, 0, 0) true) := by
  obtain ⟨c0, c1, c2, c3, c4, c5, c6⟩ := (h.only (only_alloc w (fun _ => False) (.cells #[.int .i64 0, .int .i64 0, .int .u64 0, .int .u64 0, .int .u64 0] 34)) id).cells
  have hp : p < w.heap.size := (Array.getElem?_eq_some_iff.1 h).1
  clear h
  go_enter Tryz.func144, Tryz.ntmps144
  go_wp2
  exact bodyPost_ret (v := .tuple #[.agg #[.int .i64 2, .int .i64 a, .int .u64 x, .int .u64 0, .int .u64 0], .bool true]) (by simp [results, Tryz.results144, go_sem]) rfl ⟨rfl, (box_below _ _)⟩
theorem Next_none {w : World} {p : Nat} {a x : Int} (h : Box w p false a x .nilIface) : Calls Tryz.prog 144 #[.pointer (some ⟨p, 0, none⟩)] w (ToldD w (0, 0, 0, 0, 0) false) := by
  obtain ⟨c0, c1, c2, c3, c4, c5, c6⟩ := (h.only (only_alloc w (fun _ => False) (.cells #[.int .i64 0, .int .i64 0, .int .u64 0, .int .u64 0, .int .u64 0] 34)) id).cells
  have hp : p < w.heap.size := (Array.getElem?_eq_some_iff.1 h).1
  clear h
  go_enter Tryz.func144, Tryz.ntmps144
  go_wp2
  exact bodyPost_ret (v := .tuple #[.agg #[.int .i64 0, .int .i64 0, .int .u64 0, .int .u64 0, .int .u64 0], .bool false]) (by simp [results, Tryz.results144, go_sem]) rfl ⟨rfl, (box_below _ _)⟩
theorem Next_push {w : World} {p q : Nat} {a x : Int} {T N L G i : Int} {r : PoM.St} (h : Box w p false a x (pushV q)) (hq : Pushes w q T N L G i r) : Calls Tryz.prog 144 #[.pointer (some ⟨p, 0, none⟩)] w (Pool.Told w (pushA T L i r)) := by
  obtain ⟨c0, c1, c2, c3, c4, c5, c6⟩ := (h.only (only_alloc w (fun _ => False) (.cells #[.int .i64 0, .int .i64 0, .int .u64 0, .int .u64 0, .int .u64 0] 34)) id).cells
  have hp : p < w.heap.size := (Array.getElem?_eq_some_iff.1 h).1
  have HNX := Lib.hid (Push_next (hq.only (only_alloc w (fun _ => False) (.cells #[.int .i64 0, .int .i64 0, .int .u64 0, .int .u64 0, .int .u64 0] 34)) id))
  have HH := Lib.hid (push_held q)
  unfold Pool.Told at HNX ⊢
  generalize (pushA T L i r).isSome = bo at HNX ⊢
  generalize (pushA T L i r).getD (0, 0, 0, 0, 0) = d at HNX ⊢
  have hh := HH.out
  have hm := method_next q
  clear h hq
  go_enter Tryz.func144, Tryz.ntmps144
  go_wp2_with fail
  refine HNX.out.mono ?_
  rintro e w1 ⟨rfl, hb⟩
  obtain ⟨⟨r0, r1, r2, r3, r4⟩, g0, g1, g2, g3, g4⟩ := res5 hb
  obtain ⟨⟨s0, s1, s2, s3, s4⟩, hB⟩ := set5 hb (.int .i64 d.1) (.int .i64 d.2.1) (.int .u64 d.2.2.1) (.int .u64 d.2.2.2.1) (.int .u64 d.2.2.2.2)
  have HB := Lib.hid hB
  clear hB hb
  go_wp2
  exact bodyPost_ret (v := .tuple #[.agg #[.int .i64 d.1, .int .i64 d.2.1, .int .u64 d.2.2.1, .int .u64 d.2.2.2.1, .int .u64 d.2.2.2.2], .bool bo]) (by simp [results, Tryz.results144, go_sem, s0, s1, s2, s3, s4]) rfl ⟨rfl, HB.out⟩
theorem Next_any {w : World} {p : Nat} {S : Nat → Prop} {T N L G i x : Int} {s : St} (h : Gives w p S T N L G i x s) : Calls Tryz.prog 144 #[.pointer (some ⟨p, 0, none⟩)] w (Pool.Told w (giveA T L i x s)) := by
  obtain ⟨b, o⟩ := s
  obtain ⟨-, -, h3⟩ := h
  simp only at h3
  cases b with
  | true =>
    rcases h3 with ⟨-, hb⟩ | ⟨q, r, -, hb, -⟩
    · exact Next_store hb
    · exact Next_store hb
  | false =>
    rcases h3 with ⟨e, hb⟩ | ⟨q, r, e, hb, hp, -⟩
    · subst e
      exact Next_none hb
    · subst e
      exact Next_push hb hp
theorem Tell_store {w : World} {p : Nat} {a x f : Int} {v : Value} (h : Box w p true a x v) : Calls Tryz.prog 145 #[.pointer (some ⟨p, 0, none⟩), .int .u64 f] w fun e w' => e = .returned (.tuple #[]) ∧ Box w' p false a x v ∧ Only (fun k => k = p) w w' := by
  obtain ⟨c0, c1, c2, c3, c4, c5, c6⟩ := h.cells
  have f0 := (cell_heap h 0).2
  have HE := Lib.hid (show Box (w.setCell ⟨p, 0, none⟩ (.bool false)) p false a x v from by simpa [Box] using set_heap (j := 0) h (.bool false))
  have HO := Lib.hid (only_setCell (R := fun k => k = p) w (p := ⟨p, 0, none⟩) rfl (.bool false))
  clear h
  go_enter Tryz.func145, Tryz.ntmps145
  go_wp2
  refine bodyPost_end (results_none rfl _ _ _) rfl ?_
  exact ⟨rfl, HE.out, HO.out⟩
theorem Tell_none {w : World} {p : Nat} {a x f : Int} (h : Box w p false a x .nilIface) : Calls Tryz.prog 145 #[.pointer (some ⟨p, 0, none⟩), .int .u64 f] w fun e w' => e = .returned (.tuple #[]) ∧ w = w' := by
  obtain ⟨c0, c1, c2, c3, c4, c5, c6⟩ := h.cells
  clear h
  go_enter Tryz.func145, Tryz.ntmps145
  go_wp2
  refine bodyPost_end (results_none rfl _ _ _) rfl ?_
  exact ⟨rfl, rfl⟩
theorem Tell_push {w : World} {p q : Nat} {a x : Int} {T N L G i f : Int} {r : PoM.St} (h : Box w p false a x (pushV q)) (hq : Pushes w q T N L G i r) (hf : 0 ≤ f ∧ f < 18446744073709551616) :
    Calls Tryz.prog 145 #[.pointer (some ⟨p, 0, none⟩), .int .u64 f] w fun e w' => e = .returned (.tuple #[]) ∧ Pushes w' q T N L G i (pushT r f) ∧ Only (fun k => k = q) w w' := by
  obtain ⟨c0, c1, c2, c3, c4, c5, c6⟩ := h.cells
  have HTL := Lib.hid (Push_tell hq hf)
  have hh := push_held q
  have hm := method_tell q
  clear h hq hf
  go_enter Tryz.func145, Tryz.ntmps145
  go_wp2_with fail
  refine HTL.out.mono ?_
  rintro e w1 ⟨rfl, h1, h2⟩
  go_wp2
  refine bodyPost_end (results_none rfl _ _ _) rfl ?_
  exact ⟨rfl, h1, h2⟩
theorem Tell_any {w : World} {p : Nat} {S : Nat → Prop} {T N L G i x f : Int} {s : St} (h : Gives w p S T N L G i x s) (hf : 0 ≤ f ∧ f < 18446744073709551616) :
    Calls Tryz.prog 145 #[.pointer (some ⟨p, 0, none⟩), .int .u64 f] w fun e w' => e = .returned (.tuple #[]) ∧ Gives w' p S T N L G i x (giveT s f) ∧ Only S w w' := by
  have hok := giveT_ok h.1 hf
  obtain ⟨b, o⟩ := s
  obtain ⟨-, h2, h3⟩ := h
  simp only at h3
  cases b with
  | true =>
    rcases h3 with ⟨e, hb⟩ | ⟨q, r, e, hb, hp, hq, hn⟩
    · refine (Tell_store hb).mono ?_
      rintro e' w' ⟨rfl, k1, k2⟩
      exact ⟨rfl, ⟨hok, h2, .inl ⟨e, k1⟩⟩, k2.wide fun k q => .inl (q ▸ h2)⟩
    · refine (Tell_store hb).mono ?_
      rintro e' w' ⟨rfl, k1, k2⟩
      exact ⟨rfl, ⟨hok, h2, .inr ⟨q, r, e, k1, hp.only k2 hn, hq, hn⟩⟩, k2.wide fun k q => .inl (q ▸ h2)⟩
  | false =>
    rcases h3 with ⟨e, hb⟩ | ⟨q, r, e, hb, hp, hq, hn⟩
    · subst e
      refine (Tell_none hb).mono ?_
      rintro e' w' ⟨rfl, rfl⟩
      exact ⟨rfl, ⟨hok, h2, .inl ⟨rfl, hb⟩⟩, Only.refl _ _⟩
    · subst e
      refine (Tell_push hb hp hf).mono ?_
      rintro e' w' ⟨rfl, k1, k2⟩
      exact ⟨rfl, ⟨hok, h2, .inr ⟨q, _, rfl, hb.only k2 (fun e => hn e.symm), k1, hq, hn⟩⟩, k2.wide fun k q => .inl (q ▸ hq)⟩
theorem Tell_own {w : World} {p : Nat} {S : Nat → Prop} {T N L G i x f : Int} {s : St} (h : Gives w p S T N L G i x s) (hf : 0 ≤ f ∧ f < 18446744073709551616) :
    Calls Tryz.prog 145 #[.pointer (some ⟨p, 0, none⟩), .int .u64 f] w fun e w' => e = .returned (.tuple #[]) ∧ ∃ S' : Nat → Prop, Gives w' p S' T N L G i x (giveT s f) ∧ Only S w w' ∧ ∀ k, S' k → S k ∨ (w.heap.size ≤ k ∧ k < w'.heap.size) := by
  refine (Tell_any h hf).mono ?_
  rintro e w' ⟨rfl, h1, h2⟩
  exact ⟨rfl, S, h1, h2, fun k q => .inl q⟩
theorem plan_stays {w W : World} {T N L G : Int} (hb : Below (w.alloc (.cells #[.int .i64 T, .int .i64 N, .int .i64 L, .int .u64 G] 24)).heap.size (w.alloc (.cells #[.int .i64 T, .int .i64 N, .int .i64 L, .int .u64 G] 24)) W) : W.cell? ⟨w.heap.size, 0, none⟩ = some (.int .i64 T) ∧ W.cell? ⟨w.heap.size, 1, none⟩ = some (.int .i64 N) ∧ W.cell? ⟨w.heap.size, 2, none⟩ = some (.int .i64 L) ∧ W.cell? ⟨w.heap.size, 3, none⟩ = some (.int .u64 G) :=
  box4_later (hb.mono (by simp))
theorem Give_last (T N L G r : Int) (h0 : 0 ≤ r) (h1 : r < 18446744073709551616) (hg : r / 4294967296 = 4294967295) (w : World) : Calls Tryz.prog 87 #[.agg #[.int .i64 T, .int .i64 N, .int .i64 L, .int .u64 G], .int .u64 r] w (fun e w' => ∃ p S, e = .returned (.pointer (some ⟨p, 0, none⟩)) ∧ Gives w' p S T N L G (r % 4294967296 / 2) (wordI (r / 4294967296)) (init (r / 4294967296)) ∧ (∀ k, S k → w.heap.size ≤ k ∧ k < w'.heap.size) ∧ Below w.heap.size w w') := by
  have HGEN := Lib.hid (Refer.Gen_any r h0 h1)
  have HIX := Lib.hid (Refer.Index_any r h0 h1)
  have hgb : 0 ≤ r / 4294967296 := by omega
  have HOF := Lib.hid (State.Of_any (r / 4294967296) 3 hgb)
  have HNX := Lib.hid (State.Next_any (stI (r / 4294967296) 3) (stI_lo _ _) (stI_hi _ _))
  have HX := Lib.hid (show SM.nextI (stI (r / 4294967296) 3) = wordI (r / 4294967296) from rfl)
  rw [HX.out] at HNX
  clear HX
  have HG := Lib.hid hg
  generalize r / 4294967296 = g at HGEN HOF HNX HG hg hgb ⊢
  generalize r % 4294967296 / 2 = i at HIX ⊢
  generalize wordI g = x at HNX ⊢
  generalize stI g 3 = y at HOF HNX
  obtain ⟨c_0, c_1, c_2, c_3⟩ := box4 w (.int .i64 T) (.int .i64 N) (.int .i64 L) (.int .u64 G) 24
  have HB0 := Lib.hid (box_below w (.cells #[.int .i64 T, .int .i64 N, .int .i64 L, .int .u64 G] 24))
  clear h0 h1
  subst hg
  go_enter Tryz.func87, Tryz.ntmps87
  go_wp2_with fail
  refine (HGEN.out _).mono ?_
  rintro e w' ⟨rfl, rfl⟩
  go_wp2_with fail
  refine (HIX.out _).mono ?_
  rintro e w' ⟨rfl, rfl⟩
  go_wp2_with fail
  refine (HOF.out _).mono ?_
  rintro e w' ⟨rfl, rfl⟩
  go_wp2_with fail
  refine (HNX.out _).mono ?_
  rintro e w' ⟨rfl, rfl⟩
  go_wp2_with fail
  refine (Plan.State_any T N L G i _).mono ?_
  rintro e w' ⟨rfl, b1⟩
  have HB1 := Lib.hid (HB0.out.trans (b1.mono HB0.out.size))
  clear c_0 c_1 c_2 c_3
  obtain ⟨c_0, c_1, c_2, c_3⟩ := plan_stays b1
  clear b1
  have HE := Lib.hid (fun o : Obj => new_heap w' o)
  have HS := Lib.hid (fun o : Obj => only_alloc w' (fun _ => False) o)
  generalize HA : atI T L i 0 = a
  go_wp2
  subst HA
  go_ret
  exact ⟨_, fun k => k = w'.heap.size, rfl, ⟨init_ok _, rfl, .inl ⟨rfl, HE.out _⟩⟩, fun k e => by (try simp only [World.size_alloc]); have := HB1.out.size; omega, HB1.out.trans ((box_below _ _).mono HB1.out.size)⟩
theorem Give_more (T N L G r : Int) (h0 : 0 ≤ r) (h1 : r < 18446744073709551616) (hg : ¬ r / 4294967296 = 4294967295) (w : World) : Calls Tryz.prog 87 #[.agg #[.int .i64 T, .int .i64 N, .int .i64 L, .int .u64 G], .int .u64 r] w (fun e w' => ∃ p S, e = .returned (.pointer (some ⟨p, 0, none⟩)) ∧ Gives w' p S T N L G (r % 4294967296 / 2) (wordI (r / 4294967296)) (init (r / 4294967296)) ∧ (∀ k, S k → w.heap.size ≤ k ∧ k < w'.heap.size) ∧ Below w.heap.size w w') := by
  have HGEN := Lib.hid (Refer.Gen_any r h0 h1)
  have HIX := Lib.hid (Refer.Index_any r h0 h1)
  have hgb : 0 ≤ r / 4294967296 := by omega
  have HOF := Lib.hid (State.Of_any (r / 4294967296) 3 hgb)
  have HNX := Lib.hid (State.Next_any (stI (r / 4294967296) 3) (stI_lo _ _) (stI_hi _ _))
  have HX := Lib.hid (show SM.nextI (stI (r / 4294967296) 3) = wordI (r / 4294967296) from rfl)
  rw [HX.out] at HNX
  clear HX
  have HG := Lib.hid hg
  generalize r / 4294967296 = g at HGEN HOF HNX HG hg hgb ⊢
  generalize r % 4294967296 / 2 = i at HIX ⊢
  generalize wordI g = x at HNX ⊢
  generalize stI g 3 = y at HOF HNX
  obtain ⟨c_0, c_1, c_2, c_3⟩ := box4 w (.int .i64 T) (.int .i64 N) (.int .i64 L) (.int .u64 G) 24
  have HB0 := Lib.hid (box_below w (.cells #[.int .i64 T, .int .i64 N, .int .i64 L, .int .u64 G] 24))
  clear h0 h1
  have hgb2 : (g != 4294967295) = true := by simpa using hg
  rw [init_some hg]
  clear hg
  go_enter Tryz.func87, Tryz.ntmps87
  go_wp2_with fail
  refine (HGEN.out _).mono ?_
  rintro e w' ⟨rfl, rfl⟩
  go_wp2_with fail
  refine (HIX.out _).mono ?_
  rintro e w' ⟨rfl, rfl⟩
  go_wp2_with fail
  refine (HOF.out _).mono ?_
  rintro e w' ⟨rfl, rfl⟩
  go_wp2_with fail
  refine (HNX.out _).mono ?_
  rintro e w' ⟨rfl, rfl⟩
  go_wp2_with fail
  refine (Plan.State_any T N L G i _).mono ?_
  rintro e w' ⟨rfl, b1⟩
  have HB1 := Lib.hid (HB0.out.trans (b1.mono HB0.out.size))
  clear c_0 c_1 c_2 c_3
  generalize HA : atI T L i 0 = a
  obtain ⟨c_0, c_1, c_2, c_3⟩ := plan_stays b1
  obtain ⟨d_0, d_1, d_2, d_3⟩ := plan_stays (b1.trans ((box_below w' (.cells #[.bool true, .int .i64 2, .int .i64 a, .int .u64 x, .int .u64 0, .int .u64 0, .nilIface] 128)).mono b1.size))
  have HE := Lib.hid (new_heap w' (.cells #[.bool true, .int .i64 2, .int .i64 a, .int .u64 x, .int .u64 0, .int .u64 0, .nilIface] 128))
  have HB2 := Lib.hid (HB1.out.trans ((box_below w' (.cells #[.bool true, .int .i64 2, .int .i64 a, .int .u64 x, .int .u64 0, .int .u64 0, .nilIface] 128)).mono HB1.out.size))
  clear b1
  go_wp2_with fail
  refine (Push_any T N L G i _).mono ?_
  rintro e w2 ⟨q, rfl, hp, hq, b2⟩
  have hbx := (b2.block w'.heap.size (by simp)).trans HE.out
  have c6 := (cell_heap hbx 6).1
  have f6 := (cell_heap hbx 6).2
  simp at c6
  have HBX := Lib.hid hbx
  have HP := Lib.hid (And.intro hp (And.intro hq b2))
  clear hp hq b2 hbx c_0 c_1 c_2 c_3 d_0 d_1 d_2 d_3
  go_wp2
  go_ret
  have hq := HP.out.2.1
  have hs := HP.out.2.2.size
  have hs1 := HB1.out.size
  have hl := HP.out.1.lt
  have HO := only_setCell (R := fun k => k = w'.heap.size) w2 (p := ⟨w'.heap.size, 6, none⟩) rfl (pushV q)
  simp at hq hs
  refine ⟨_, fun k => k = w'.heap.size ∨ k = q, rfl, ⟨init_some HG.out ▸ init_ok g, .inl rfl, .inr ⟨q, ⟨1, 0, 0⟩, rfl, ?_, HP.out.1.only HO (by omega), .inr rfl, by omega⟩⟩, ?_, ?_⟩
  · subst HA
    simpa [Box] using set_heap (j := 6) HBX.out (pushV q)
  · rintro k (rfl | rfl)
    · exact ⟨by omega, Nat.lt_of_lt_of_le (by omega) HO.size⟩
    · exact ⟨by omega, Nat.lt_of_lt_of_le (by omega) HO.size⟩
  · exact HB2.out.trans ((HP.out.2.2.mono HB2.out.size).trans (HO.below (by omega) (fun k e => by omega)))
theorem Give_any (T N L G r : Int) (h0 : 0 ≤ r) (h1 : r < 18446744073709551616) (w : World) : Calls Tryz.prog 87 #[.agg #[.int .i64 T, .int .i64 N, .int .i64 L, .int .u64 G], .int .u64 r] w (fun e w' => ∃ p S, e = .returned (.pointer (some ⟨p, 0, none⟩)) ∧ Gives w' p S T N L G (r % 4294967296 / 2) (wordI (r / 4294967296)) (init (r / 4294967296)) ∧ (∀ k, S k → w.heap.size ≤ k ∧ k < w'.heap.size) ∧ Below w.heap.size w w') := by
  by_cases hg : r / 4294967296 = 4294967295
  · exact Give_last T N L G r h0 h1 hg w
  · exact Give_more T N L G r h0 h1 hg w
end Go.Proofs.YtafjokjmogadnaaGreatDoor.Give
