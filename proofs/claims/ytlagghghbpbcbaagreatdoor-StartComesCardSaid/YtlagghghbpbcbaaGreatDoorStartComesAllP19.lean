import Derived.Test.YtlagghghbpbcbaaGreatDoorStartComesAllP18
import Derived.Defers
import Derived.WalkMore
import Derived.LoopN
import Derived.RangeFuncBox
import Derived.Deep.RegionHeld3
import Derived.Lib.Builder
/- Package task's Flow at the head of a block of any type, whatever tasks and functions it is handed: what it asks for, what it is told, what it is given; all else in memory stays as it was. -/
namespace Go.Proofs.YtlagghghbpbcbaaGreatDoor.Flows
set_option maxRecDepth 20000
open Go.ChangeShapes Go.WideShapes Go.RowKit CM DM Lay Ints Cells Go.Proofs.YtlagghghbpbcbaaGreatDoor.Task
set_option linter.unusedVariables false
set_option linter.unusedSimpArgs false

/-- What Next answers. -/
def ansD (d : D) (b : Bool) : Value := .tuple #[.agg #[.int .i64 d.1, .int .i64 d.2.1, .int .u64 d.2.2.1, .int .u64 d.2.2.2.1, .int .u64 d.2.2.2.2], .bool b]
def ansV (o : Option D) : Value := ansD (o.getD (0, 0, 0, 0, 0)) o.isSome
/-- A part in block pb: its task, what is called behind it, whether the task is being asked. -/
def PartAt (w : World) (pb : Nat) (tv fv : Value) (b : Bool) : Prop := w.heap[pb]? = some (.cells #[tv, fv, .bool b] 122 (0, 0))
/-- A flow at the head of block f, whose other cells are rest: its part, if it has one, and how deep it is. -/
def HeadAt (w : World) (f : Nat) (nv : Option Nat) (d : Nat) (rest : List Value) (hty : TypeId) : Prop := w.heap[f]? = some (.cells (List.toArray (.pointer (nv.map fun pb => ⟨pb, 0, none⟩) :: .int .i64 d :: rest)) hty (0, 0))
/-- A pointer as a task. -/
abbrev itf (ty : TypeId) (q : Nat) : Value := .iface ty (.pointer (some ⟨q, 0, none⟩))
theorem PartAt.only {w w' : World} {pb : Nat} {tv fv : Value} {b : Bool} {R : Nat → Prop} (h : PartAt w pb tv fv b) (ho : Only R w w') (hn : ¬ R pb) : PartAt w' pb tv fv b := ho.heap h hn
theorem HeadAt.only {w w' : World} {f d : Nat} {nv : Option Nat} {rest : List Value} {hty : TypeId} {R : Nat → Prop} (h : HeadAt w f nv d rest hty) (ho : Only R w w') (hn : ¬ R f) : HeadAt w' f nv d rest hty := ho.heap h hn
theorem PartAt.lt {w : World} {pb : Nat} {tv fv : Value} {b : Bool} (h : PartAt w pb tv fv b) : pb < w.heap.size := (Array.getElem?_eq_some_iff.1 h).1
theorem HeadAt.lt {w : World} {f d : Nat} {nv : Option Nat} {rest : List Value} {hty : TypeId} (h : HeadAt w f nv d rest hty) : f < w.heap.size := (Array.getElem?_eq_some_iff.1 h).1
theorem PartAt.later {w w' : World} {pb : Nat} {tv fv : Value} {b : Bool} (h : PartAt w pb tv fv b) (hb : Below w.heap.size w w') : PartAt w' pb tv fv b := h.only (only_below (fun _ => False) hb) id
theorem HeadAt.later {w w' : World} {f d : Nat} {nv : Option Nat} {rest : List Value} {hty : TypeId} (h : HeadAt w f nv d rest hty) (hb : Below w.heap.size w w') : HeadAt w' f nv d rest hty := h.only (only_below (fun _ => False) hb) id
theorem HeadAt.cells {w : World} {f d : Nat} {nv : Option Nat} {rest : List Value} {hty : TypeId} (h : HeadAt w f nv d rest hty) :
    w.cell? ⟨f, 0, none⟩ = some (.pointer (nv.map fun pb => ⟨pb, 0, none⟩)) ∧ w.cell? ⟨f, 1, none⟩ = some (.int .i64 (d : Int)) ∧ w.frozen? ⟨f, 0, none⟩ = false ∧ w.frozen? ⟨f, 1, none⟩ = false := by
  refine ⟨?_, ?_, (cell_heap h 0).2, (cell_heap h 1).2⟩
  · have := (cell_heap h 0).1; simpa using this
  · have := (cell_heap h 1).1; simpa using this
theorem PartAt.cells {w : World} {pb : Nat} {tv fv : Value} {b : Bool} (h : PartAt w pb tv fv b) : w.cell? ⟨pb, 0, none⟩ = some tv ∧ w.cell? ⟨pb, 1, none⟩ = some fv ∧ w.cell? ⟨pb, 2, none⟩ = some (.bool b) ∧ w.frozen? ⟨pb, 2, none⟩ = false := by
  refine ⟨?_, ?_, ?_, (cell_heap h 2).2⟩
  · have := (cell_heap h 0).1; simpa using this
  · have := (cell_heap h 1).1; simpa using this
  · have := (cell_heap h 2).1; simpa using this
theorem HeadAt.now {w : World} {f d : Nat} {nv : Option Nat} {rest : List Value} {hty : TypeId} (h : HeadAt w f nv d rest hty) (nv' : Option Nat) : HeadAt (w.setCell ⟨f, 0, none⟩ (.pointer (nv'.map fun pb => ⟨pb, 0, none⟩))) f nv' d rest hty := by
  have := set_heap (j := 0) h (.pointer (nv'.map fun pb => ⟨pb, 0, none⟩))
  simpa [HeadAt] using this
theorem HeadAt.deep {w : World} {f d : Nat} {nv : Option Nat} {rest : List Value} {hty : TypeId} (h : HeadAt w f nv d rest hty) (d' : Nat) : HeadAt (w.setCell ⟨f, 1, none⟩ (.int .i64 (d' : Int))) f nv d' rest hty := by
  have := set_heap (j := 1) h (.int .i64 (d' : Int))
  simpa [HeadAt] using this
theorem set_only {R : Nat → Prop} {a b : World} (h : Only R a b) (q o : Nat) (hq : R q ∨ a.heap.size ≤ q) (v : Value) : Only R a (b.setCell ⟨q, o, none⟩ v) := h.setCell (p := ⟨q, o, none⟩) hq v
/-- A block that is as it was has not turned. -/
theorem same_below {w w' : World} {pb : Nat} {o : Obj} (ho : Only (fun k => k = pb ∨ False) w w') (h1 : w.heap[pb]? = some o) (h2 : w'.heap[pb]? = some o) : Below w.heap.size w w' := by
  obtain ⟨q1, q2, q3, q4, q5⟩ := ho
  refine ⟨q1, q2, q3, q4, fun k hk => ?_⟩
  by_cases e : k = pb
  · subst e
    rw [h1, h2]
  · exact q5 k hk (fun z => z.elim e id)
theorem hmf : ∀ (fn : Fn) (first cap : Array Value) (w : World), (Instr.makeFunc fn first cap).run Tryz.prog w = .ok (.func fn first cap) w := fun _ _ _ _ => rfl

/-- A task of the type ty, whose Next is nf and whose Tell is tf, in block q: what it asks for; S are its own blocks. (Nothing is said of what it is told.) -/
structure IsAsk {σ : Type} (ty : TypeId) (nf tf : FuncId) (I : Nat → World → (Nat → Prop) → σ → Prop) (ask : σ → Option D) : Prop where
  mnext : ∀ (q n : Nat) (w : World), (method (n + 1) ty (.pointer (some ⟨q, 0, none⟩)) "Next").run Tryz.prog w = .ok (nf, .pointer (some ⟨q, 0, none⟩)) w
  mtell : ∀ (q n : Nat) (w : World), (method (n + 1) ty (.pointer (some ⟨q, 0, none⟩)) "Tell").run Tryz.prog w = .ok (tf, .pointer (some ⟨q, 0, none⟩)) w
  enext : ∀ (args : Array Value) (w : World), (callFunc nf args).run Tryz.prog w = .ok (.enter nf args) w
  etell : ∀ (args : Array Value) (w : World), (callFunc tf args).run Tryz.prog w = .ok (.enter tf args) w
  only : ∀ {q : Nat} {w w' : World} {S R : Nat → Prop} {s : σ}, I q w S s → Only R w w' → (∀ k, S k → ¬ R k) → I q w' S s
  lt : ∀ {q : Nat} {w : World} {S : Nat → Prop} {s : σ}, I q w S s → ∀ k, S k → k < w.heap.size
  next : ∀ {q : Nat} {w : World} {S : Nat → Prop} {s : σ}, I q w S s → Calls Tryz.prog nf #[.pointer (some ⟨q, 0, none⟩)] w fun e w' => e = .returned (ansV (ask s)) ∧ I q w' S s ∧ Below w.heap.size w w'
/-- A task of the type ty, whose Next is nf and whose Tell is tf, in block q: what it asks for, what it is told; S are its own blocks. -/
structure IsTask {σ : Type} (ty : TypeId) (nf tf : FuncId) (I : Nat → World → (Nat → Prop) → σ → Prop) (ask : σ → Option D) (tell : σ → Int → σ) : Prop where
  mnext : ∀ (q n : Nat) (w : World), (method (n + 1) ty (.pointer (some ⟨q, 0, none⟩)) "Next").run Tryz.prog w = .ok (nf, .pointer (some ⟨q, 0, none⟩)) w
  mtell : ∀ (q n : Nat) (w : World), (method (n + 1) ty (.pointer (some ⟨q, 0, none⟩)) "Tell").run Tryz.prog w = .ok (tf, .pointer (some ⟨q, 0, none⟩)) w
  enext : ∀ (args : Array Value) (w : World), (callFunc nf args).run Tryz.prog w = .ok (.enter nf args) w
  etell : ∀ (args : Array Value) (w : World), (callFunc tf args).run Tryz.prog w = .ok (.enter tf args) w
  only : ∀ {q : Nat} {w w' : World} {S R : Nat → Prop} {s : σ}, I q w S s → Only R w w' → (∀ k, S k → ¬ R k) → I q w' S s
  lt : ∀ {q : Nat} {w : World} {S : Nat → Prop} {s : σ}, I q w S s → ∀ k, S k → k < w.heap.size
  next : ∀ {q : Nat} {w : World} {S : Nat → Prop} {s : σ}, I q w S s → Calls Tryz.prog nf #[.pointer (some ⟨q, 0, none⟩)] w fun e w' => e = .returned (ansV (ask s)) ∧ I q w' S s ∧ Below w.heap.size w w'
  tell : ∀ {q : Nat} {w : World} {S : Nat → Prop} {s : σ} {v : Int}, I q w S s → 0 ≤ v ∧ v < 18446744073709551616 → Calls Tryz.prog tf #[.pointer (some ⟨q, 0, none⟩), .int .u64 v] w fun e w' => e = .returned (.tuple #[]) ∧ ∃ S' : Nat → Prop, I q w' S' (tell s v) ∧ Only S w w' ∧ ∀ k, S' k → S k ∨ (w.heap.size ≤ k ∧ k < w'.heap.size)

theorem IsTask.asks {σ : Type} {ty : TypeId} {nf tf : FuncId} {I : Nat → World → (Nat → Prop) → σ → Prop} {ask : σ → Option D} {tell : σ → Int → σ} (h : IsTask ty nf tf I ask tell) : IsAsk ty nf tf I ask where
  mnext := h.mnext
  mtell := h.mtell
  enext := h.enext
  etell := h.etell
  only := h.only
  lt := h.lt
  next := h.next

theorem methods_task : Tryz.prog.underlying 120 = some (.interface (Tryz.prog.methodsAt 120)) := by kernel_rfl
theorem task_held (ty : TypeId) (p : Nat) (w : World) : (binOp .eql 120 (itf ty p) .nilIface).run Tryz.prog w = .ok (.bool false) w := run_eql_held_nil w _ _ _ methods_task
theorem ask1_d {pb b0 : Nat} {tv fv : Value} {t : TypeId} (u : FrameMode) (w : World) (hP : PartAt w pb tv fv true) (hB : Boxed w b0 t (.pointer (some ⟨pb, 0, none⟩))) :
    CallsD Tryz.prog 106 #[.pointer (some ⟨b0, 0, none⟩)] u w fun e u' w' => u' = u ∧ (e = .returned (.tuple #[]) ∧ w' = w.setCell ⟨pb, 2, none⟩ (.bool false)) := by
  obtain ⟨-, -, c0, c1⟩ := hP.cells
  have d0 := hB.cell
  clear hP hB
  go_enter_d Tryz.func106, Tryz.ntmps106
  go_wp2
  go_end0
  exact ⟨rfl, rfl⟩
/-- What lies where when the part's task has been asked. -/
structure Mid (w w' : World) (pb : Nat) (tv fv : Value) (R : Nat → Prop) : Prop where
  part : PartAt w' pb tv fv true
  box : Boxed w' w.heap.size 84 (.pointer (some ⟨pb, 0, none⟩))
  res : w'.heap[w.heap.size + 1]? = some (.cells #[.int .i64 0, .int .i64 0, .int .u64 0, .int .u64 0, .int .u64 0] 63 (0, 0))
  old : pb < w.heap.size
  only : Only (fun k => k = pb ∨ R k) w w'
theorem ask_boxes (w : World) (pb : Nat) : Below w.heap.size w ((w.alloc (.cells #[.pointer (some ⟨pb, 0, none⟩)] 84)).alloc (.cells #[.int .i64 0, .int .i64 0, .int .u64 0, .int .u64 0, .int .u64 0] 63)) := ((Below.refl _ _).alloc (Nat.le_refl _) _).alloc (by simp) _
theorem ask_start (w : World) (pb : Nat) : Only (fun k => k = pb) w ((((w.alloc (.cells #[.pointer (some ⟨pb, 0, none⟩)] 84)).alloc (.cells #[.int .i64 0, .int .i64 0, .int .u64 0, .int .u64 0, .int .u64 0] 63)).setCell ⟨pb, 2, none⟩ (.bool true))) := Only.setCell (R := fun k => k = pb) (only_below _ (ask_boxes w pb)) (p := ⟨pb, 2, none⟩) (.inl rfl) _
theorem Mid.mk' {w w' : World} {pb : Nat} {tv fv : Value} {R : Nat → Prop} (hP : PartAt w pb tv fv false) (hR : ∀ k, R k → k ≠ pb ∧ k < w.heap.size) (ho : Only R ((((w.alloc (.cells #[.pointer (some ⟨pb, 0, none⟩)] 84)).alloc (.cells #[.int .i64 0, .int .i64 0, .int .u64 0, .int .u64 0, .int .u64 0] 63)).setCell ⟨pb, 2, none⟩ (.bool true))) w') : Mid w w' pb tv fv R := by
  have hlt := hP.lt
  have h2 := hP.later (ask_boxes w pb)
  have h3 : PartAt ((((w.alloc (.cells #[.pointer (some ⟨pb, 0, none⟩)] 84)).alloc (.cells #[.int .i64 0, .int .i64 0, .int .u64 0, .int .u64 0, .int .u64 0] 63)).setCell ⟨pb, 2, none⟩ (.bool true))) pb tv fv true := by have := set_heap (j := 2) h2 (.bool true); simpa [PartAt] using this
  have hs : Only (fun k => k = pb) ((w.alloc (.cells #[.pointer (some ⟨pb, 0, none⟩)] 84)).alloc (.cells #[.int .i64 0, .int .i64 0, .int .u64 0, .int .u64 0, .int .u64 0] 63)) ((((w.alloc (.cells #[.pointer (some ⟨pb, 0, none⟩)] 84)).alloc (.cells #[.int .i64 0, .int .i64 0, .int .u64 0, .int .u64 0, .int .u64 0] 63)).setCell ⟨pb, 2, none⟩ (.bool true))) := only_setCell (R := fun k => k = pb) _ (p := ⟨pb, 2, none⟩) rfl _
  refine ⟨ho.heap h3 (fun e => (hR _ e).1 rfl), ho.heap (o := .cells #[.pointer (some ⟨pb, 0, none⟩)] 84) (hs.heap ?_ (by omega)) (fun e => Nat.lt_irrefl _ (hR _ e).2), ho.heap (o := .cells #[.int .i64 0, .int .i64 0, .int .u64 0, .int .u64 0, .int .u64 0] 63) (hs.heap ?_ (by omega)) (fun e => by have := (hR _ e).2; omega), hlt, ((ask_start w pb).wide fun k e => .inl (.inl e)).more ho fun k e => .inl (.inr e)⟩
  · exact (Below.heap_alloc _ _ _ (by simp)).trans (new_heap w _)
  · have := new_heap (w.alloc (.cells #[.pointer (some ⟨pb, 0, none⟩)] 84)) (.cells #[.int .i64 0, .int .i64 0, .int .u64 0, .int .u64 0, .int .u64 0] 63)
    rwa [World.size_alloc] at this
/-- .. and when the answer has been laid. -/
theorem Mid.set {w w' : World} {pb : Nat} {tv fv : Value} {R : Nat → Prop} (h : Mid w w' pb tv fv R) (hR : ∀ k, R k → k ≠ pb ∧ k < w.heap.size) (u0 u1 u2 u3 u4 : Value) :
    let W := (((((w'.setCell ⟨w.heap.size + 1, 0, none⟩ u0).setCell ⟨w.heap.size + 1, 1, none⟩ u1).setCell ⟨w.heap.size + 1, 2, none⟩ u2).setCell ⟨w.heap.size + 1, 3, none⟩ u3).setCell ⟨w.heap.size + 1, 4, none⟩ u4)
    PartAt W pb tv fv true ∧ Boxed W w.heap.size 84 (.pointer (some ⟨pb, 0, none⟩)) ∧
    ((W.setCell ⟨pb, 2, none⟩ (.bool false)).cell? ⟨w.heap.size + 1, 0, none⟩ = some u0 ∧ (W.setCell ⟨pb, 2, none⟩ (.bool false)).cell? ⟨w.heap.size + 1, 1, none⟩ = some u1 ∧ (W.setCell ⟨pb, 2, none⟩ (.bool false)).cell? ⟨w.heap.size + 1, 2, none⟩ = some u2 ∧ (W.setCell ⟨pb, 2, none⟩ (.bool false)).cell? ⟨w.heap.size + 1, 3, none⟩ = some u3 ∧ (W.setCell ⟨pb, 2, none⟩ (.bool false)).cell? ⟨w.heap.size + 1, 4, none⟩ = some u4) ∧
    Only (fun k => k = pb ∨ R k) w (W.setCell ⟨pb, 2, none⟩ (.bool false)) ∧ PartAt (W.setCell ⟨pb, 2, none⟩ (.bool false)) pb tv fv false ∧ Only (fun k => k = pb ∨ k = w.heap.size + 1) w' (W.setCell ⟨pb, 2, none⟩ (.bool false)) := by
  obtain ⟨hP, hB, hr, hlt, ho⟩ := h
  have hb := set_heap (j := 4) (set_heap (j := 3) (set_heap (j := 2) (set_heap (j := 1) (set_heap (j := 0) hr u0) u1) u2) u3) u4
  have hW : Only (fun k => k = w.heap.size + 1) w' (((((w'.setCell ⟨w.heap.size + 1, 0, none⟩ u0).setCell ⟨w.heap.size + 1, 1, none⟩ u1).setCell ⟨w.heap.size + 1, 2, none⟩ u2).setCell ⟨w.heap.size + 1, 3, none⟩ u3).setCell ⟨w.heap.size + 1, 4, none⟩ u4) :=
    set_only (set_only (set_only (set_only (set_only (Only.refl (fun k => k = w.heap.size + 1) w') _ 0 (.inl rfl) u0) _ 1 (.inl rfl) u1) _ 2 (.inl rfl) u2) _ 3 (.inl rfl) u3) _ 4 (.inl rfl) u4
  have hP' := hW.heap hP (by omega)
  have hB' := hW.heap hB (by omega)
  intro W
  have hb5 : (W.setCell ⟨pb, 2, none⟩ (.bool false)).heap[w.heap.size + 1]? = _ := (only_setCell (R := fun k => k = pb) W (p := ⟨pb, 2, none⟩) rfl (.bool false)).heap hb (by omega)
  refine ⟨hP', hB', ⟨(cell_heap hb5 0).1, (cell_heap hb5 1).1, (cell_heap hb5 2).1, (cell_heap hb5 3).1, (cell_heap hb5 4).1⟩, ((ho.more hW (fun i hi => .inr (by omega))).setCell (.inl (.inl rfl)) _), ?_, (hW.wide fun k e => .inl (.inr e)).setCell (.inl (.inl rfl)) _⟩
  have := set_heap (j := 2) hP' (.bool false)
  simpa [PartAt] using this
theorem ask_of {σ : Type} {ty : TypeId} {nf tf : FuncId} {I : Nat → World → (Nat → Prop) → σ → Prop} {ask : σ → Option D} (hT : IsAsk ty nf tf I ask) {w : World} {pb q : Nat} {fv : Value} {S : Nat → Prop} {s : σ}
    (hP : PartAt w pb (itf ty q) fv false) (hI : I q w S s) (hS : ¬ S pb) : Calls Tryz.prog 78 #[.pointer (some ⟨pb, 0, none⟩)] w fun e w' =>
      e = .returned (ansV (ask s)) ∧ Only (fun k => k = pb ∨ S k) w w' ∧ PartAt w' pb (itf ty q) fv false ∧ I q w' S s ∧ Below w.heap.size w w' := by
  have hb2 := ask_boxes w pb
  have hR : ∀ k, S k → k ≠ pb ∧ k < w.heap.size := fun k hk => ⟨fun e => hS (e ▸ hk), hT.lt hI k hk⟩
  have H0 := Lib.hid hP
  have HR := Lib.hid hR
  have HN := Lib.hid (hT.next (hT.only hI (ask_start w pb) (fun k hk => (hR k hk).1)))
  have HT := Lib.hid hT
  obtain ⟨c0, -, c2, c3⟩ := (hP.later hb2).cells
  have hn := hT.mnext q
  have he := hT.enext
  unfold ansV ansD at HN ⊢
  generalize (ask s).isSome = bo at HN ⊢
  generalize (ask s).getD (0, 0, 0, 0, 0) = d at HN ⊢
  clear hP hI hS hT hR hb2
  go_enter_defers Tryz.func78, Tryz.ntmps78
  have hm := fun W => task_held ty q W
  have hf := hmf
  go_wp2_with fail
  refine HN.out.mono ?_
  rintro e w1 ⟨rfl, hI1, ho1⟩
  have hmid := Mid.mk' (R := fun _ => False) H0.out (fun _ e => e.elim) (only_below _ ho1)
  have HM := Lib.hid hmid
  have HI1 := Lib.hid hI1
  have r0 := (cell_heap hmid.res 0).1
  have r1 := (cell_heap hmid.res 1).1
  have r2 := (cell_heap hmid.res 2).1
  have r3 := (cell_heap hmid.res 3).1
  have r4 := (cell_heap hmid.res 4).1
  have f0 := (cell_heap hmid.res 0).2
  have f1 := (cell_heap hmid.res 1).2
  have f2 := (cell_heap hmid.res 2).2
  have f3 := (cell_heap hmid.res 3).2
  have f4 := (cell_heap hmid.res 4).2
  clear ho1 hI1 hmid hn hm he c0 c2 c3
  simp at r0 r1 r2 r3 r4
  go_wp2
  obtain ⟨hP5, hB5, ⟨s0, s1, s2, s3, s4⟩, ho5, hE, ho6⟩ := HM.out.set (fun _ e => e.elim) (.int .i64 d.1) (.int .i64 d.2.1) (.int .u64 d.2.2.1) (.int .u64 d.2.2.2.1) (.int .u64 d.2.2.2.2)
  refine leaves_cons (f := 106) (args := #[.pointer (some ⟨w.heap.size, 0, none⟩)]) (by simp) (by simp [go_sem]) ?_
  refine (ask1_d .returning _ hP5 hB5).mono ?_
  rintro e u' w'' ⟨rfl, rfl, rfl⟩
  exact ⟨.tuple #[.agg #[.int .i64 d.1, .int .i64 d.2.1, .int .u64 d.2.2.1, .int .u64 d.2.2.2.1, .int .u64 d.2.2.2.2], .bool bo], (by simp [results, Tryz.f78, go_sem, s0, s1, s2, s3, s4]), rfl, ho5.wide (fun k e => .inl (e.imp id False.elim)), hE, HT.out.only HI1.out ho6 (fun k hk e => by have h1 := (HR.out k hk).1; have h2 := (HR.out k hk).2; omega), same_below ho5 H0.out hE⟩
theorem ask_any {σ : Type} {ty : TypeId} {nf tf : FuncId} {I : Nat → World → (Nat → Prop) → σ → Prop} {ask : σ → Option D} {tell : σ → Int → σ} (hT : IsTask ty nf tf I ask tell) {w : World} {pb q : Nat} {fv : Value} {S : Nat → Prop} {s : σ}
    (hP : PartAt w pb (itf ty q) fv false) (hI : I q w S s) (hS : ¬ S pb) : Calls Tryz.prog 78 #[.pointer (some ⟨pb, 0, none⟩)] w fun e w' =>
      e = .returned (ansV (ask s)) ∧ Only (fun k => k = pb ∨ S k) w w' ∧ PartAt w' pb (itf ty q) fv false ∧ I q w' S s ∧ Below w.heap.size w w' := ask_of hT.asks hP hI hS
theorem neq_nil (w : World) : (binOp .neq 1 .nilFunc .nilFunc).run Tryz.prog w = .ok (.bool false) w := by kernel_rfl
theorem neq_some (fn : Fn) (first cap : Array Value) (w : World) : (binOp .neq 1 (.func fn first cap) .nilFunc).run Tryz.prog w = .ok (.bool true) w := by kernel_rfl
theorem goOn1_d {f d b0 : Nat} {nv : Option Nat} {rest : List Value} {hty : TypeId} (u : FrameMode) (w : World) (hF : HeadAt w f nv (d + 1) rest hty) (hd : d < 65535) (hB : Boxed w b0 118 (.pointer (some ⟨f, 0, none⟩))) :
    CallsD Tryz.prog 107 #[.pointer (some ⟨b0, 0, none⟩)] u w fun e u' w' => u' = u ∧ (e = .returned (.tuple #[]) ∧ w' = w.setCell ⟨f, 1, none⟩ (.int .i64 (d : Int))) := by
  obtain ⟨-, c0, -, c1⟩ := hF.cells
  have d0 := hB.cell
  clear hF hB
  go_enter_d Tryz.func107, Tryz.ntmps107
  go_wp2
  go_end0
  exact ⟨rfl, by simp⟩
/-- The world in which what is behind is called. -/
theorem go_start {w : World} {f d : Nat} {nv : Option Nat} {rest : List Value} {hty : TypeId} (hF : HeadAt w f nv d rest hty) : HeadAt ((((w.setCell ⟨f, 0, none⟩ (.pointer none)).setCell ⟨f, 1, none⟩ (.int .i64 ((d : Int) + 1))).alloc (.cells #[.pointer (some ⟨f, 0, none⟩)] 118))) f none (d + 1) rest hty ∧ Boxed ((((w.setCell ⟨f, 0, none⟩ (.pointer none)).setCell ⟨f, 1, none⟩ (.int .i64 ((d : Int) + 1))).alloc (.cells #[.pointer (some ⟨f, 0, none⟩)] 118))) w.heap.size 118 (.pointer (some ⟨f, 0, none⟩)) ∧ Only (fun k => k = f) w ((((w.setCell ⟨f, 0, none⟩ (.pointer none)).setCell ⟨f, 1, none⟩ (.int .i64 ((d : Int) + 1))).alloc (.cells #[.pointer (some ⟨f, 0, none⟩)] 118))) := by
  have h1 := (hF.now none).deep (d + 1)
  have ho : Only (fun k => k = f) w ((w.setCell ⟨f, 0, none⟩ (.pointer none)).setCell ⟨f, 1, none⟩ (.int .i64 ((d : Int) + 1))) := set_only (set_only (Only.refl (fun k => k = f) w) f 0 (.inl rfl) (.pointer none)) f 1 (.inl rfl) (.int .i64 ((d : Int) + 1))
  have hsz : ((w.setCell ⟨f, 0, none⟩ (.pointer none)).setCell ⟨f, 1, none⟩ (.int .i64 ((d : Int) + 1))).heap.size = w.heap.size := by simp [World.setCell]
  have hb := (Below.refl _ ((w.setCell ⟨f, 0, none⟩ (.pointer none)).setCell ⟨f, 1, none⟩ (.int .i64 ((d : Int) + 1)))).alloc (Nat.le_refl _) (.cells #[.pointer (some ⟨f, 0, none⟩)] 118)
  have hn := new_heap ((w.setCell ⟨f, 0, none⟩ (.pointer none)).setCell ⟨f, 1, none⟩ (.int .i64 ((d : Int) + 1))) (.cells #[.pointer (some ⟨f, 0, none⟩)] 118)
  rw [hsz] at hn
  exact ⟨h1.later hb, hn, ho.then_below hb⟩
theorem go_cells {w : World} {f d : Nat} {nv : Option Nat} {rest : List Value} {hty : TypeId} (hF : HeadAt w f nv d rest hty) : ((w.setCell ⟨f, 0, none⟩ (.pointer none)).alloc (.cells #[.pointer (some ⟨f, 0, none⟩)] 118)).cell? ⟨f, 1, none⟩ = some (.int .i64 (d : Int)) ∧ ((w.setCell ⟨f, 0, none⟩ (.pointer none)).alloc (.cells #[.pointer (some ⟨f, 0, none⟩)] 118)).frozen? ⟨f, 1, none⟩ = false := by
  have hb := (Below.refl _ (w.setCell ⟨f, 0, none⟩ (.pointer none))).alloc (Nat.le_refl _) (.cells #[.pointer (some ⟨f, 0, none⟩)] 118)
  obtain ⟨-, h1, -, h2⟩ := ((hF.now none).later hb).cells
  exact ⟨h1, h2⟩
/-- What is behind is called: G is what that does to the world, R are the blocks that it may turn. -/
theorem goOn_any {w : World} {f pb d : Nat} {rest : List Value} {hty : TypeId} {tv : Value} {b : Bool} {fn : FuncId} {first cap : Array Value} {R : Nat → Prop} {G : World → World → List Value → Option Nat → Prop} (hF : HeadAt w f (some pb) d rest hty) (hd : d < 65535) (hP : PartAt w pb tv (.func (.func fn) first cap) b)
    (en : ∀ (args : Array Value) (w : World), (callFunc fn args).run Tryz.prog w = .ok (.enter fn args) w) (hR : ∀ k, R k → k < w.heap.size) (hG : ∀ w1 w2 rest' nv', G w1 w2 rest' nv' → HeadAt w2 f nv' (d + 1) rest' hty ∧ Only R w1 w2)
    (HG : ∀ w1, HeadAt w1 f none (d + 1) rest hty → Only (fun k => k = f) w w1 → Calls Tryz.prog fn (first ++ cap) w1 fun e w2 => e = .returned (.tuple #[]) ∧ ∃ rest' nv', G w1 w2 rest' nv') :
    Calls Tryz.prog 79 #[.pointer (some ⟨f, 0, none⟩)] w fun e w' => e = .returned (.tuple #[]) ∧ ∃ w1 w2 rest' nv', HeadAt w1 f none (d + 1) rest hty ∧ Only (fun k => k = f) w w1 ∧ w.heap.size < w1.heap.size ∧ G w1 w2 rest' nv' ∧ HeadAt w' f nv' d rest' hty ∧ w' = w2.setCell ⟨f, 1, none⟩ (.int .i64 (d : Int)) := by
  obtain ⟨q1, q2, q3⟩ := go_start hF
  have HPR := Lib.hid (And.intro q1 q3)
  have HBX := Lib.hid q2
  have HSZ := Lib.hid (Array.getElem?_eq_some_iff.1 q2).1
  have HB := Lib.hid (HG _ q1 q3)
  have HGG := Lib.hid hG
  have HRR := Lib.hid hR
  have hb := (Below.refl w.heap.size w).alloc (Nat.le_refl _) (.cells #[.pointer (some ⟨f, 0, none⟩)] 118)
  obtain ⟨c0, -, c1, -⟩ := (hF.later hb).cells
  obtain ⟨-, c2, -, -⟩ := (hP.later hb).cells
  obtain ⟨c3, c4⟩ := go_cells hF
  replace c0 : _ = some (Value.pointer (some ⟨pb, 0, none⟩)) := c0
  have hlt := hF.lt
  have hne1 : ¬ f = w.heap.size := by omega
  have hne2 : ¬ w.heap.size = f := by omega
  clear hb hF hP q1 q2 q3 HG hG hR
  go_enter_defers Tryz.func79, Tryz.ntmps79
  have hnn := neq_some (.func fn) first cap
  have hf := hmf
  go_wp2_with fail
  refine HB.out.mono ?_
  rintro e w1 ⟨rfl, rest', nv', hg⟩
  obtain ⟨hF1, hO1⟩ := HGG.out _ _ _ _ hg
  have HF1 := Lib.hid hF1
  have HB1 := Lib.hid (hO1.heap HBX.out (fun e => Nat.lt_irrefl _ (HRR.out _ e)))
  have HGX := Lib.hid hg
  clear hF1 hO1 hg c0 c1 c2 c3 c4 hnn en
  go_wp2
  refine leaves_cons (f := 107) (args := #[.pointer (some ⟨w.heap.size, 0, none⟩)]) (by simp) (by simp [go_sem]) ?_
  refine (goOn1_d .returning _ HF1.out (by omega) HB1.out).mono ?_
  rintro e u' w'' ⟨rfl, rfl, rfl⟩
  exact ⟨_, results_none rfl _ _ _, rfl, _, _, _, _, HPR.out.1, HPR.out.2, HSZ.out, HGX.out, HF1.out.deep d, rfl⟩
/-- Nothing is behind. -/
theorem goOn_nil {w : World} {f pb d : Nat} {rest : List Value} {hty : TypeId} {tv : Value} {b : Bool} (hF : HeadAt w f (some pb) d rest hty) (hP : PartAt w pb tv .nilFunc b) :
    Calls Tryz.prog 79 #[.pointer (some ⟨f, 0, none⟩)] w fun e w' => e = .returned (.tuple #[]) ∧ Only (fun k => k = f) w w' ∧ HeadAt w' f none d rest hty := by
  have hb := (Below.refl w.heap.size w).alloc (Nat.le_refl _) (.cells #[.pointer (some ⟨f, 0, none⟩)] 118)
  have hF2 := hF.later hb
  obtain ⟨c0, -, c1, -⟩ := hF2.cells
  obtain ⟨-, c2, -, -⟩ := (hP.later hb).cells
  replace c0 : _ = some (Value.pointer (some ⟨pb, 0, none⟩)) := c0
  have HO := Lib.hid ((only_below (fun k => k = f) hb).trans (only_setCell (R := fun k => k = f) (w.alloc (.cells #[.pointer (some ⟨f, 0, none⟩)] 118)) (p := ⟨f, 0, none⟩) rfl (.pointer none)))
  have HF := Lib.hid (hF2.now none)
  clear hb hF hF2 hP
  go_enter_defers Tryz.func79, Tryz.ntmps79
  have hnn := neq_nil
  go_wp2
  exact ⟨_, results_none rfl _ _ _, rfl, HO.out, HF.out⟩
end Go.Proofs.YtlagghghbpbcbaaGreatDoor.Flows

/- Package task's Flow at the head of a block: Next, To and Tell, whatever tasks and functions it is handed. -/
namespace Go.Proofs.YtlagghghbpbcbaaGreatDoor.Flows
set_option maxRecDepth 20000
open Go.ChangeShapes Go.WideShapes Go.RowKit CM DM Lay Ints Cells Go.Proofs.YtlagghghbpbcbaaGreatDoor.Task
set_option linter.unusedVariables false
set_option linter.unusedSimpArgs false

theorem neq_part (pb : Nat) (w : World) : (binOp .neq 84 (.pointer (some ⟨pb, 0, none⟩)) (.pointer (some ⟨pb, 0, none⟩))).run Tryz.prog w = .ok (.bool false) w := by
  obtain ⟨j, hj⟩ := Option.isSome_iff_exists.1 (show (Tryz.prog.info? 122).isSome = true by kernel_rfl)
  exact Lib.run_neq_ptr_same w _ Tryz.underlying84 hj
/-- The cells of a box for an answer, in a later world in which R alone has turned. -/
structure Ans (w w1 : World) (R : Nat → Prop) : Prop where
  res : w1.heap[w.heap.size]? = some (.cells #[.int .i64 0, .int .i64 0, .int .u64 0, .int .u64 0, .int .u64 0] 63 (0, 0))
  only : Only R w w1
theorem Ans.start (w : World) (R : Nat → Prop) : Ans w (w.alloc (.cells #[.int .i64 0, .int .i64 0, .int .u64 0, .int .u64 0, .int .u64 0] 63)) R := ⟨new_heap w _, only_alloc w _ _⟩
theorem Ans.lt {w w1 : World} {R : Nat → Prop} (h : Ans w w1 R) : w.heap.size < w1.heap.size := (Array.getElem?_eq_some_iff.1 h.res).1
theorem Ans.step {w w1 w2 : World} {R R' : Nat → Prop} (h : Ans w w1 R) (ho : Only R' w1 w2) (hR : ∀ k, R' k → k ≠ w.heap.size ∧ (R k ∨ w.heap.size ≤ k)) : Ans w w2 R :=
  ⟨ho.heap h.res (fun e => (hR _ e).1 rfl), h.only.more ho (fun k e => (hR k e).2)⟩
theorem Ans.later {w w1 w2 : World} {R : Nat → Prop} (h : Ans w w1 R) (hb : Below w1.heap.size w1 w2) : Ans w w2 R := h.step (only_below (fun _ => False) hb) (fun _ e => e.elim)
theorem Ans.cells {w w1 : World} {R : Nat → Prop} (h : Ans w w1 R) : (w1.cell? ⟨w.heap.size, 0, none⟩ = some (.int .i64 0) ∧ w1.cell? ⟨w.heap.size, 1, none⟩ = some (.int .i64 0) ∧ w1.cell? ⟨w.heap.size, 2, none⟩ = some (.int .u64 0) ∧ w1.cell? ⟨w.heap.size, 3, none⟩ = some (.int .u64 0) ∧ w1.cell? ⟨w.heap.size, 4, none⟩ = some (.int .u64 0)) ∧
    w1.frozen? ⟨w.heap.size, 0, none⟩ = false ∧ w1.frozen? ⟨w.heap.size, 1, none⟩ = false ∧ w1.frozen? ⟨w.heap.size, 2, none⟩ = false ∧ w1.frozen? ⟨w.heap.size, 3, none⟩ = false ∧ w1.frozen? ⟨w.heap.size, 4, none⟩ = false :=
  ⟨⟨(cell_heap h.res 0).1, (cell_heap h.res 1).1, (cell_heap h.res 2).1, (cell_heap h.res 3).1, (cell_heap h.res 4).1⟩, (cell_heap h.res 0).2, (cell_heap h.res 1).2, (cell_heap h.res 2).2, (cell_heap h.res 3).2, (cell_heap h.res 4).2⟩
theorem Ans.set {w w1 : World} {R : Nat → Prop} (h : Ans w w1 R) (u0 u1 u2 u3 u4 : Value) :
    let W := (((((w1.setCell ⟨w.heap.size, 0, none⟩ u0).setCell ⟨w.heap.size, 1, none⟩ u1).setCell ⟨w.heap.size, 2, none⟩ u2).setCell ⟨w.heap.size, 3, none⟩ u3).setCell ⟨w.heap.size, 4, none⟩ u4)
    (W.cell? ⟨w.heap.size, 0, none⟩ = some u0 ∧ W.cell? ⟨w.heap.size, 1, none⟩ = some u1 ∧ W.cell? ⟨w.heap.size, 2, none⟩ = some u2 ∧ W.cell? ⟨w.heap.size, 3, none⟩ = some u3 ∧ W.cell? ⟨w.heap.size, 4, none⟩ = some u4) ∧ Only (fun k => k = w.heap.size) w1 W := by
  have hb := set_heap (j := 4) (set_heap (j := 3) (set_heap (j := 2) (set_heap (j := 1) (set_heap (j := 0) h.res u0) u1) u2) u3) u4
  exact ⟨⟨(cell_heap hb 0).1, (cell_heap hb 1).1, (cell_heap hb 2).1, (cell_heap hb 3).1, (cell_heap hb 4).1⟩, set_only (set_only (set_only (set_only (set_only (Only.refl (fun k => k = w.heap.size) w1) _ 0 (.inl rfl) u0) _ 1 (.inl rfl) u1) _ 2 (.inl rfl) u2) _ 3 (.inl rfl) u3) _ 4 (.inl rfl) u4⟩
theorem ansV_some (x : D) : ansV (some x) = .tuple #[.agg #[.int .i64 x.1, .int .i64 x.2.1, .int .u64 x.2.2.1, .int .u64 x.2.2.2.1, .int .u64 x.2.2.2.2], .bool true] := rfl
theorem ansV_none : ansV none = .tuple #[.agg #[.int .i64 0, .int .i64 0, .int .u64 0, .int .u64 0, .int .u64 0], .bool false] := rfl

/-- A flow that has no task is done. -/
theorem FNext_none {f d : Nat} {rest : List Value} {hty : TypeId} {w : World} (hF : HeadAt w f none d rest hty) : Calls Tryz.prog 57 #[.pointer (some ⟨f, 0, none⟩)] w fun e w' => e = .returned (ansV none) ∧ Below w.heap.size w w' := by
  obtain ⟨c0, -, -, -⟩ := (hF.only (only_alloc w (fun _ => False) (.cells #[.int .i64 0, .int .i64 0, .int .u64 0, .int .u64 0, .int .u64 0] 63)) id).cells
  replace c0 : _ = some (Value.pointer none) := c0
  obtain ⟨⟨r0, r1, r2, r3, r4⟩, f0, f1, f2, f3, f4⟩ := (Ans.start w (fun _ => False)).cells
  clear hF
  go_enter Tryz.func57, Tryz.ntmps57
  go_wp2
  refine wp_loop_rounds 1 ?_
  rw [rounds_succ]
  go_wp2
  exact bodyPost_ret (v := .tuple #[.agg #[.int .i64 0, .int .i64 0, .int .u64 0, .int .u64 0, .int .u64 0], .bool false]) (by simp [results, Tryz.results57, go_sem, r0, r1, r2, r3, r4]) rfl ⟨rfl, (Below.refl _ _).alloc (Nat.le_refl _) _⟩
/-- One whose task asks for x asks for x. -/
theorem FNext_of {σ : Type} {ty : TypeId} {nf tf : FuncId} {I : Nat → World → (Nat → Prop) → σ → Prop} {ask : σ → Option D} (hT : IsAsk ty nf tf I ask) {f pb d q : Nat} {rest : List Value} {hty : TypeId} {fv : Value} {S : Nat → Prop} {s : σ} {x : D} {w : World} (hF : HeadAt w f (some pb) d rest hty) (hP : PartAt w pb (itf ty q) fv false) (hI : I q w S s) (ha : ask s = some x) (hf : f ≠ pb ∧ ¬ S f ∧ ¬ S pb) :
    Calls Tryz.prog 57 #[.pointer (some ⟨f, 0, none⟩)] w fun e w' => e = .returned (ansV (some x)) ∧ Only (fun k => k = pb ∨ S k) w w' ∧ PartAt w' pb (itf ty q) fv false ∧ I q w' S s ∧ Below w.heap.size w w' := by
  have ho0 := only_alloc w (fun _ => False) (.cells #[.int .i64 0, .int .i64 0, .int .u64 0, .int .u64 0, .int .u64 0] 63)
  have hF0 := hF.only ho0 id
  have hP0 := hP.only ho0 id
  obtain ⟨c0, -, -, -⟩ := hF0.cells
  replace c0 : _ = some (Value.pointer (some ⟨pb, 0, none⟩)) := c0
  obtain ⟨-, -, c2, -⟩ := hP0.cells
  have HA := Lib.hid (ask_of hT hP0 (hT.only hI ho0 (fun _ _ => id)) hf.2.2)
  rw [ha, ansV_some] at HA
  rw [ansV_some]
  have HR := Lib.hid (show ∀ k, k = pb ∨ S k → k ≠ f ∧ k < w.heap.size from fun k e => e.elim (fun e => ⟨fun z => hf.1 (z.symm.trans e), e ▸ hP.lt⟩) (fun e => ⟨fun z => hf.2.1 (z ▸ e), hT.lt hI k e⟩))
  have HF := Lib.hid hF0
  have HN := Lib.hid (Ans.start w (fun k => k = pb ∨ S k))
  have HNS := Lib.hid hf.2.2
  have HT := Lib.hid hT
  clear ho0 hF hP hI ha hf hF0 hP0 hT
  go_enter Tryz.func57, Tryz.ntmps57
  go_wp2
  refine wp_loop_rounds 1 ?_
  rw [rounds_succ]
  go_wp2_with fail
  refine HA.out.mono ?_
  rintro e w1 ⟨rfl, ho, hP1, hI1, hbl⟩
  have hb1 := (Below.refl w1.heap.size w1).alloc (Nat.le_refl _) (.cells #[.int .i64 x.1, .int .i64 x.2.1, .int .u64 x.2.2.1, .int .u64 x.2.2.2.1, .int .u64 x.2.2.2.2] 63)
  have hA := (HN.out.step ho (fun k e => ⟨fun z => by have := (HR.out k e).2; omega, .inl e⟩)).later hb1
  have HA1 := Lib.hid hA
  obtain ⟨⟨r0, r1, r2, r3, r4⟩, f0, f1, f2, f3, f4⟩ := hA.cells
  have HBL := Lib.hid (((Below.refl w.heap.size w).alloc (Nat.le_refl _) (.cells #[.int .i64 0, .int .i64 0, .int .u64 0, .int .u64 0, .int .u64 0] 63)).trans ((hbl.trans (hb1.mono hbl.size)).mono (by simp)))
  have HP1 := Lib.hid (And.intro (hP1.later hb1) (HT.out.only hI1 (only_below (fun _ => False) hb1) (fun _ _ => id)))
  obtain ⟨d0, -, -, -⟩ := ((HF.out.only ho (fun e => (HR.out _ e).1 rfl)).later hb1).cells
  replace d0 : _ = some (Value.pointer (some ⟨pb, 0, none⟩)) := d0
  have hpp := neq_part pb
  clear hb1 hA ho hP1 hI1 hbl c0 c2
  go_wp2
  obtain ⟨⟨s0, s1, s2, s3, s4⟩, hset⟩ := HA1.out.set (.int .i64 x.1) (.int .i64 x.2.1) (.int .u64 x.2.2.1) (.int .u64 x.2.2.2.1) (.int .u64 x.2.2.2.2)
  exact bodyPost_ret (v := .tuple #[.agg #[.int .i64 x.1, .int .i64 x.2.1, .int .u64 x.2.2.1, .int .u64 x.2.2.2.1, .int .u64 x.2.2.2.2], .bool true]) (by simp [results, Tryz.results57, go_sem, s0, s1, s2, s3, s4]) rfl ⟨rfl, HA1.out.only.more hset (fun i e => .inr (by omega)), HP1.out.1.only hset (fun e => by have := (HR.out pb (.inl rfl)).2; omega), HT.out.only HP1.out.2 hset (fun k e z => by have := (HR.out k (.inr e)).2; omega), HBL.out.trans (hset.below HBL.out.size (fun k e => Nat.le_of_eq e.symm))⟩
/-- One whose task is done, behind which comes nothing, is done. -/
theorem FNext_last {σ : Type} {ty : TypeId} {nf tf : FuncId} {I : Nat → World → (Nat → Prop) → σ → Prop} {ask : σ → Option D} (hT : IsAsk ty nf tf I ask) {f pb d q : Nat} {rest : List Value} {hty : TypeId} {S : Nat → Prop} {s : σ} {w : World} (hF : HeadAt w f (some pb) d rest hty) (hd : d < 65535) (hP : PartAt w pb (itf ty q) .nilFunc false) (hI : I q w S s) (ha : ask s = none) (hf : f ≠ pb ∧ ¬ S f ∧ ¬ S pb) :
    Calls Tryz.prog 57 #[.pointer (some ⟨f, 0, none⟩)] w fun e w' => e = .returned (ansV none) ∧ Only (fun k => k = f) w w' ∧ HeadAt w' f none d rest hty ∧ I q w' S s := by
  have ho0 := only_alloc w (fun _ => False) (.cells #[.int .i64 0, .int .i64 0, .int .u64 0, .int .u64 0, .int .u64 0] 63)
  have hF0 := hF.only ho0 id
  have hP0 := hP.only ho0 id
  obtain ⟨c0, -, -, -⟩ := hF0.cells
  replace c0 : _ = some (Value.pointer (some ⟨pb, 0, none⟩)) := c0
  obtain ⟨-, -, c2, -⟩ := hP0.cells
  have HA := Lib.hid (ask_of hT hP0 (hT.only hI ho0 (fun _ _ => id)) hf.2.2)
  rw [ha, ansV_none] at HA
  rw [ansV_none]
  have HF := Lib.hid hF0
  have hlf := hF.lt
  have HLS := Lib.hid (And.intro (hT.lt hI) hf.2.1)
  have HN := Lib.hid (Ans.start w (fun k => k = f))
  have HT := Lib.hid hT
  have hde : ((d : Int) == 65536) = false := by simp; omega
  clear ho0 hF hP hI ha hf hF0 hP0 hT
  go_enter Tryz.func57, Tryz.ntmps57
  go_wp2
  refine wp_loop_rounds 2 ?_
  rw [rounds_succ]
  go_wp2_with fail
  refine HA.out.mono ?_
  rintro e w1 ⟨rfl, ho, hP1, hI1, hbl⟩
  have hb1 := (Below.refl w1.heap.size w1).alloc (Nat.le_refl _) (.cells #[.int .i64 0, .int .i64 0, .int .u64 0, .int .u64 0, .int .u64 0] 63)
  have hA := (HN.out.later hbl).later hb1
  have HA1 := Lib.hid hA
  have hF1 := (HF.out.later hbl).later hb1
  have HF1 := Lib.hid hF1
  have HP1 := Lib.hid (hP1.later hb1)
  have HI1 := Lib.hid (HT.out.only hI1 (only_below (fun _ => False) hb1) (fun _ _ => id))
  obtain ⟨d0, d1, -, -⟩ := hF1.cells
  replace d0 : _ = some (Value.pointer (some ⟨pb, 0, none⟩)) := d0
  have hpp := neq_part pb
  clear hb1 hA ho hP1 hI1 hbl hF1 c0 c2
  go_wp2_with fail
  refine (goOn_nil HF1.out HP1.out).mono ?_
  rintro e w2 ⟨rfl, ho2, hF2⟩
  have HF2 := Lib.hid hF2
  have HI2 := Lib.hid (HT.out.only HI1.out ho2 (fun k e z => HLS.out.2 (z ▸ e)))
  obtain ⟨e0, -, -, -⟩ := hF2.cells
  replace e0 : _ = some (Value.pointer none) := e0
  have hA2 := HA1.out.step (R' := fun k => k = f) ho2 (fun k e => by subst e; exact ⟨by omega, .inl rfl⟩)
  have HA2 := Lib.hid hA2
  obtain ⟨⟨r0, r1, r2, r3, r4⟩, f0, f1, f2, f3, f4⟩ := hA2.cells
  clear hpp d0 d1 ho2 hF2 hA2
  go_wp2
  rw [rounds_succ]
  go_wp2
  obtain ⟨⟨s0, s1, s2, s3, s4⟩, hset⟩ := HA2.out.set (.int .i64 0) (.int .i64 0) (.int .u64 0) (.int .u64 0) (.int .u64 0)
  exact bodyPost_ret (v := .tuple #[.agg #[.int .i64 0, .int .i64 0, .int .u64 0, .int .u64 0, .int .u64 0], .bool false]) (by simp [results, Tryz.results57, go_sem, s0, s1, s2, s3, s4]) rfl ⟨rfl, HA2.out.only.more hset (fun i e => .inr (by omega)), HF2.out.only hset (by omega), HT.out.only HI2.out hset (fun k e z => by have := HLS.out.1 k e; omega)⟩
end Go.Proofs.YtlagghghbpbcbaaGreatDoor.Flows

/- Package task's Flow at the head of a block: Next where another task comes behind, To and Tell. -/
namespace Go.Proofs.YtlagghghbpbcbaaGreatDoor.Flows
set_option maxRecDepth 20000
open Go.ChangeShapes Go.WideShapes Go.RowKit CM DM Lay Ints Cells Go.Proofs.YtlagghghbpbcbaaGreatDoor.Task
set_option linter.unusedVariables false
set_option linter.unusedSimpArgs false

set_option maxHeartbeats 1000000 in
/-- One whose task is done, behind which comes something that gives it a task (an old one, or a new one) that asks for x, asks for x. G is what that does, R are the old blocks that it, or that task, may turn. -/
theorem FNext_goes {σ : Type} {ty : TypeId} {nf tf : FuncId} {I : Nat → World → (Nat → Prop) → σ → Prop} {ask : σ → Option D} (hT : IsAsk ty nf tf I ask) {τ : Type} {ty2 : TypeId} {nf2 tf2 : FuncId} {I2 : Nat → World → (Nat → Prop) → τ → Prop} {ask2 : τ → Option D} (hT2 : IsAsk ty2 nf2 tf2 I2 ask2) {f pb d q : Nat} {rest : List Value} {hty : TypeId} {fn : FuncId} {first cap : Array Value} {S R : Nat → Prop} {s : σ} {w : World} {x : D} {fv2 : Value} {s2 : τ} {G : World → World → List Value → Nat → Nat → (Nat → Prop) → Prop} (hF : HeadAt w f (some pb) d rest hty) (hd : d < 65535) (hP : PartAt w pb (itf ty q) (.func (.func fn) first cap) false) (hI : I q w S s) (ha : ask s = none) (hf : f ≠ pb ∧ ¬ S f ∧ ¬ S pb)
    (en : ∀ (args : Array Value) (w : World), (callFunc fn args).run Tryz.prog w = .ok (.enter fn args) w) (hR : ∀ k, R k → k < w.heap.size) (hG : ∀ w1 w2 rest' pb' q' S', G w1 w2 rest' pb' q' S' → HeadAt w2 f (some pb') (d + 1) rest' hty ∧ Only R w1 w2 ∧ PartAt w2 pb' (itf ty2 q') fv2 false ∧ I2 q' w2 S' s2 ∧ w1.heap.size ≤ pb' ∧ (∀ k, S' k → (R k ∨ w1.heap.size ≤ k) ∧ k ≠ f) ∧ ¬ S' pb') (ha2 : ask2 s2 = some x)
    (HG : ∀ w1, HeadAt w1 f none (d + 1) rest hty → Only (fun k => k = f) w w1 → w.heap.size < w1.heap.size → Calls Tryz.prog fn (first ++ cap) w1 fun e w2 => e = .returned (.tuple #[]) ∧ ∃ rest' pb' q' S', G w1 w2 rest' pb' q' S') :
    Calls Tryz.prog 57 #[.pointer (some ⟨f, 0, none⟩)] w fun e w' => e = .returned (ansV (some x)) ∧ ∃ w1 w2 rest' pb' q' S', HeadAt w1 f none (d + 1) rest hty ∧ Only (fun k => k = f) w w1 ∧ w.heap.size < w1.heap.size ∧ G w1 w2 rest' pb' q' S' ∧ HeadAt w' f (some pb') d rest' hty ∧ PartAt w' pb' (itf ty2 q') fv2 false ∧ I2 q' w' S' s2 ∧ Only (fun k => k = f ∨ k = pb' ∨ S' k ∨ (w.heap.size ≤ k ∧ k < w1.heap.size)) w2 w' := by
  have ho0 := only_alloc w (fun _ => False) (.cells #[.int .i64 0, .int .i64 0, .int .u64 0, .int .u64 0, .int .u64 0] 63)
  have hF0 := hF.only ho0 id
  have hP0 := hP.only ho0 id
  obtain ⟨c0, -, -, -⟩ := hF0.cells
  replace c0 : _ = some (Value.pointer (some ⟨pb, 0, none⟩)) := c0
  obtain ⟨-, -, c2, -⟩ := hP0.cells
  have HA := Lib.hid (ask_of hT hP0 (hT.only hI ho0 (fun _ _ => id)) hf.2.2)
  rw [ha, ansV_none] at HA
  rw [ansV_some]
  have HR := Lib.hid (show ∀ k, k = pb ∨ S k → k ≠ f ∧ k < w.heap.size from fun k e => e.elim (fun e => ⟨fun z => hf.1 (z.symm.trans e), e ▸ hP.lt⟩) (fun e => ⟨fun z => hf.2.1 (z ▸ e), hT.lt hI k e⟩))
  have HF := Lib.hid hF0
  have hlf := hF.lt
  have HN := Lib.hid (Ans.start w (fun k => k = f))
  have HT := Lib.hid hT
  have HT2 := Lib.hid hT2
  have HA2 := Lib.hid ha2
  have HRR := Lib.hid hR
  have HGG := Lib.hid (And.intro hG HG)
  have EN := Lib.hid en
  have hde : ((d : Int) == 65536) = false := by simp; omega
  clear ho0 hF hP hI ha hf hF0 hP0 hT hR hG HG en hT2 ha2
  go_enter Tryz.func57, Tryz.ntmps57
  go_wp2
  refine wp_loop_rounds 2 ?_
  rw [rounds_succ]
  go_wp2_with fail
  refine HA.out.mono ?_
  rintro e w1 ⟨rfl, ho, hP1, hI1, hbl⟩
  have hb1 := (Below.refl w1.heap.size w1).alloc (Nat.le_refl _) (.cells #[.int .i64 0, .int .i64 0, .int .u64 0, .int .u64 0, .int .u64 0] 63)
  have hA := (HN.out.later hbl).later hb1
  have HA1 := Lib.hid hA
  have hF1 := (HF.out.later hbl).later hb1
  have HF1 := Lib.hid hF1
  have HP1 := Lib.hid (hP1.later hb1)
  obtain ⟨d0, d1, -, -⟩ := hF1.cells
  replace d0 : _ = some (Value.pointer (some ⟨pb, 0, none⟩)) := d0
  have hpp := neq_part pb
  clear hb1 hA ho hP1 hI1 hbl hF1 c0 c2
  go_wp2_with fail
  refine (goOn_any (G := fun w1 w2 rest' nv' => ∃ pb' q' S', nv' = some pb' ∧ G w1 w2 rest' pb' q' S') (R := R) HF1.out hd HP1.out EN.out (fun k e => Nat.lt_of_lt_of_le (HRR.out k e) HA1.out.only.size) (fun w1 w2 rest' nv' h => by obtain ⟨pb', q', S', rfl, h⟩ := h; exact ⟨(HGG.out.1 _ _ _ _ _ _ h).1, (HGG.out.1 _ _ _ _ _ _ h).2.1⟩)
    (fun w2 k1 k2 => (HGG.out.2 w2 k1 (HA1.out.only.trans k2) (Nat.lt_of_lt_of_le HA1.out.lt k2.size)).mono fun e w3 k3 => by
      obtain ⟨k3, rest', pb', q', S', k4⟩ := k3
      exact ⟨k3, rest', some pb', pb', q', S', rfl, k4⟩)).mono ?_
  rintro e w4 ⟨rfl, w2, w3, rest', nv', k1, k2, k4, ⟨pb', q', S', rfl, k5⟩, k6, k7⟩
  obtain ⟨h3, ho3, hp3, hi3, hpb3, hS3, hn3⟩ := HGG.out.1 _ _ _ _ _ _ k5
  have hs1 := HA1.out.only.size
  have hs2 := k2.size
  have hl1 := HA1.out.lt
  have hA3 : Ans w w4 (fun k => k = f ∨ R k) := by
    have q1 : Ans w w2 (fun k => k = f ∨ R k) := ⟨(HA1.out.step k2 (fun k e => by subst e; exact ⟨by omega, .inl rfl⟩)).res, (HA1.out.only.trans k2).wide fun k e => .inl (.inl e)⟩
    have q2 := q1.step ho3 (fun k e => ⟨fun z => by have := HRR.out k e; omega, .inl (.inr e)⟩)
    subst k7
    exact q2.step (set_only (Only.refl (fun k => k = f) w3) f 1 (.inl rfl) (.int .i64 (d : Int))) (fun k e => by subst e; exact ⟨by omega, .inl (.inl rfl)⟩)
  have HO34 := Lib.hid (show Only (fun k => k = f) w3 w4 by subst k7; exact set_only (Only.refl (fun k => k = f) w3) f 1 (.inl rfl) _)
  have HP4 := Lib.hid (hp3.only HO34.out (by omega))
  have HI4 := Lib.hid (HT2.out.only hi3 HO34.out (fun k e z => (hS3 k e).2 z))
  have HS4 := Lib.hid (show (∀ k, k = pb' ∨ S' k → k ≠ f ∧ k ≠ w.heap.size ∧ (R k ∨ w.heap.size ≤ k)) from fun k e => e.elim (fun e => ⟨by omega, by omega, .inr (by omega)⟩) (fun e => ⟨(hS3 k e).2, (hS3 k e).1.elim (fun z => by have := HRR.out k z; omega) (fun z => by omega), (hS3 k e).1.imp id (fun z => by omega)⟩))
  have HNS := Lib.hid hn3
  have HA3 := Lib.hid hA3
  have HF4 := Lib.hid k6
  have HK := Lib.hid (show HeadAt w2 f none (d + 1) rest hty ∧ Only (fun k => k = f) w w2 ∧ w.heap.size < w2.heap.size ∧ G w2 w3 rest' pb' q' S' ∧ Only (fun k => k = f) w3 w4 from
    ⟨k1, HA1.out.only.trans k2, Nat.lt_of_lt_of_le HA1.out.lt k2.size, k5, HO34.out⟩)
  have HQ := Lib.hid (ask_of HT2.out HP4.out HI4.out hn3)
  rw [HA2.out, ansV_some] at HQ
  obtain ⟨e0, -, -, -⟩ := k6.cells
  replace e0 : _ = some (Value.pointer (some ⟨pb', 0, none⟩)) := e0
  obtain ⟨-, -, e2, -⟩ := HP4.out.cells
  clear hpp d0 d1 k1 k2 k4 k5 k6 k7 h3 ho3 hp3 hi3 hpb3 hS3 hn3 hs1 hs2 hl1 hA3
  go_wp2
  rw [rounds_succ]
  go_wp2_with fail
  refine HQ.out.mono ?_
  rintro e w5 ⟨rfl, ho5, hP5, hI5, -⟩
  have hb5 := (Below.refl w5.heap.size w5).alloc (Nat.le_refl _) (.cells #[.int .i64 x.1, .int .i64 x.2.1, .int .u64 x.2.2.1, .int .u64 x.2.2.2.1, .int .u64 x.2.2.2.2] 63)
  have HF5 := Lib.hid ((HF4.out.only ho5 (fun e => (HS4.out _ e).1 rfl)).later hb5)
  have HP5 := Lib.hid (And.intro (hP5.later hb5) (HT2.out.only hI5 (only_below (fun _ => False) hb5) (fun _ _ => id)))
  have HO5 := Lib.hid (ho5.then_below hb5)
  have hA5 := ((HA3.out.step (R' := fun k => k = pb' ∨ S' k) ho5 (fun k e => ⟨(HS4.out k e).2.1, (HS4.out k e).2.2.elim (fun z => .inl (.inr z)) .inr⟩)).later hb5)
  have HA5 := Lib.hid hA5
  obtain ⟨⟨r0, r1, r2, r3, r4⟩, f0, f1, f2, f3, f4⟩ := hA5.cells
  obtain ⟨g0, -, -, -⟩ := HF5.out.cells
  replace g0 : _ = some (Value.pointer (some ⟨pb', 0, none⟩)) := g0
  have hpp := neq_part pb'
  clear hb5 ho5 hP5 hI5 hA5 e0 e2
  go_wp2
  obtain ⟨⟨s0, s1, s2, s3, s4⟩, hset⟩ := HA5.out.set (.int .i64 x.1) (.int .i64 x.2.1) (.int .u64 x.2.2.1) (.int .u64 x.2.2.2.1) (.int .u64 x.2.2.2.2)
  obtain ⟨k1, k2, k3, k4, k6⟩ := HK.out
  exact bodyPost_ret (v := .tuple #[.agg #[.int .i64 x.1, .int .i64 x.2.1, .int .u64 x.2.2.1, .int .u64 x.2.2.2.1, .int .u64 x.2.2.2.2], .bool true]) (by simp [results, Tryz.results57, go_sem, s0, s1, s2, s3, s4]) rfl ⟨rfl, w2, w3, rest', pb', q', S', k1, k2, k3, k4, HF5.out.only hset (by omega), HP5.out.1.only hset (fun e => (HS4.out pb' (.inl rfl)).2.1 e), HT2.out.only HP5.out.2 hset (fun k e z => (HS4.out k (.inr e)).2.1 z),
    ((k6.wide (R' := fun k => k = f ∨ k = pb' ∨ S' k ∨ (w.heap.size ≤ k ∧ k < w2.heap.size)) fun k e => .inl (.inl e)).more HO5.out fun k e => .inl (e.elim (fun e => .inr (.inl e)) (fun e => .inr (.inr (.inl e))))).more hset fun k e => by subst e; exact .inl (.inr (.inr (.inr ⟨Nat.le_refl _, k3⟩)))⟩
/-- The world in which the flow, given a task, is asked. -/
theorem to_start {w : World} {f d : Nat} {tv fv : Value} {nv : Option Nat} {rest : List Value} {hty : TypeId} (hF : HeadAt w f nv d rest hty) :
    HeadAt ((w.setCell ⟨f, 0, none⟩ (.pointer (some ⟨w.heap.size, 0, none⟩))).alloc (.cells #[tv, fv, .bool false] 122)) f (some w.heap.size) d rest hty ∧ PartAt ((w.setCell ⟨f, 0, none⟩ (.pointer (some ⟨w.heap.size, 0, none⟩))).alloc (.cells #[tv, fv, .bool false] 122)) w.heap.size tv fv false ∧
    Only (fun k => k = f) w ((w.setCell ⟨f, 0, none⟩ (.pointer (some ⟨w.heap.size, 0, none⟩))).alloc (.cells #[tv, fv, .bool false] 122)) := by
  have h1 := hF.now (some w.heap.size)
  have hsz : (w.setCell ⟨f, 0, none⟩ (.pointer (some ⟨w.heap.size, 0, none⟩))).heap.size = w.heap.size := by simp [World.setCell]
  have hb := (Below.refl _ (w.setCell ⟨f, 0, none⟩ (.pointer (some ⟨w.heap.size, 0, none⟩)))).alloc (Nat.le_refl _) (.cells #[tv, fv, .bool false] 122)
  have hn := new_heap (w.setCell ⟨f, 0, none⟩ (.pointer (some ⟨w.heap.size, 0, none⟩))) (.cells #[tv, fv, .bool false] 122)
  rw [hsz] at hn
  exact ⟨h1.later hb, hn, (only_setCell (R := fun k => k = f) w (p := ⟨f, 0, none⟩) rfl (.pointer (some ⟨w.heap.size, 0, none⟩))).then_below hb⟩
/-- What may come behind a task: nothing, or a function. -/
def Then (fv : Value) : Prop := fv = .nilFunc ∨ ∃ fn first cap, fv = .func (.func fn) first cap
theorem To_nil {f d q : Nat} {ty : TypeId} {nv : Option Nat} {rest : List Value} {hty : TypeId}  {w : World} {Q : World → Prop} (hF : HeadAt w f nv d rest hty)
    (HN : ∀ w1, HeadAt w1 f (some w.heap.size) d rest hty → PartAt w1 w.heap.size (itf ty q) .nilFunc false → Only (fun k => k = f) w w1 → w.heap.size < w1.heap.size → Calls Tryz.prog 57 #[.pointer (some ⟨f, 0, none⟩)] w1 fun e w' => (∃ o, e = .returned (ansV o)) ∧ Q w') :
    Calls Tryz.prog 42 #[.pointer (some ⟨f, 0, none⟩), itf ty q, .nilFunc] w fun e w' => e = .returned (.tuple #[]) ∧ Q w' := by
  obtain ⟨hF1, hP1, ho1⟩ := to_start (tv := itf ty q) (fv := .nilFunc) hF
  have hlt := hF.lt
  have HNX := Lib.hid (HN _ hF1 hP1 ho1 hP1.lt)
  obtain ⟨c0, -, c1, -⟩ := hF.cells
  generalize nv.map (fun pb => (⟨pb, 0, none⟩ : Addr)) = nA at c0
  clear hF hF1 hP1 ho1 HN
  go_enter Tryz.func42, Tryz.ntmps42
  go_wp2_with fail
  refine HNX.out.mono ?_
  rintro e w1 ⟨⟨o, rfl⟩, hQ⟩
  have HQ := Lib.hid hQ
  clear hQ
  unfold ansV ansD
  generalize o.isSome = bo
  generalize o.getD (0, 0, 0, 0, 0) = d3
  go_wp2
  refine bodyPost_end (results_none rfl _ _ _) rfl ?_
  exact ⟨rfl, HQ.out⟩
theorem To_fn {f d q : Nat} {ty : TypeId} {nv : Option Nat} {rest : List Value} {hty : TypeId} {fn : FuncId} {first cap : Array Value} {w : World} {Q : World → Prop} (hF : HeadAt w f nv d rest hty)
    (HN : ∀ w1, HeadAt w1 f (some w.heap.size) d rest hty → PartAt w1 w.heap.size (itf ty q) (.func (.func fn) first cap) false → Only (fun k => k = f) w w1 → w.heap.size < w1.heap.size → Calls Tryz.prog 57 #[.pointer (some ⟨f, 0, none⟩)] w1 fun e w' => (∃ o, e = .returned (ansV o)) ∧ Q w') :
    Calls Tryz.prog 42 #[.pointer (some ⟨f, 0, none⟩), itf ty q, (.func (.func fn) first cap)] w fun e w' => e = .returned (.tuple #[]) ∧ Q w' := by
  obtain ⟨hF1, hP1, ho1⟩ := to_start (tv := itf ty q) (fv := (.func (.func fn) first cap)) hF
  have hlt := hF.lt
  have HNX := Lib.hid (HN _ hF1 hP1 ho1 hP1.lt)
  obtain ⟨c0, -, c1, -⟩ := hF.cells
  generalize nv.map (fun pb => (⟨pb, 0, none⟩ : Addr)) = nA at c0
  clear hF hF1 hP1 ho1 HN
  go_enter Tryz.func42, Tryz.ntmps42
  go_wp2_with fail
  refine HNX.out.mono ?_
  rintro e w1 ⟨⟨o, rfl⟩, hQ⟩
  have HQ := Lib.hid hQ
  clear hQ
  unfold ansV ansD
  generalize o.isSome = bo
  generalize o.getD (0, 0, 0, 0, 0) = d3
  go_wp2
  refine bodyPost_end (results_none rfl _ _ _) rfl ?_
  exact ⟨rfl, HQ.out⟩
/-- A flow that is given a task, whatever comes behind that: what its Next does then. -/
theorem To_any {f d q : Nat} {ty : TypeId} {nv : Option Nat} {rest : List Value} {hty : TypeId} {fv : Value} {w : World} {Q : World → Prop} (hT : Then fv) (hF : HeadAt w f nv d rest hty)
    (HN : ∀ w1, HeadAt w1 f (some w.heap.size) d rest hty → PartAt w1 w.heap.size (itf ty q) fv false → Only (fun k => k = f) w w1 → w.heap.size < w1.heap.size → Calls Tryz.prog 57 #[.pointer (some ⟨f, 0, none⟩)] w1 fun e w' => (∃ o, e = .returned (ansV o)) ∧ Q w') :
    Calls Tryz.prog 42 #[.pointer (some ⟨f, 0, none⟩), itf ty q, fv] w fun e w' => e = .returned (.tuple #[]) ∧ Q w' := by
  rcases hT with rfl | ⟨fn, first, cap, rfl⟩
  · exact To_nil hF HN
  · exact To_fn hF HN
/-- .. that asks for x. -/
theorem To_of {σ : Type} {ty : TypeId} {nf tf : FuncId} {I : Nat → World → (Nat → Prop) → σ → Prop} {ask : σ → Option D} (hT : IsAsk ty nf tf I ask) {f d q : Nat} {nv : Option Nat} {rest : List Value} {hty : TypeId} {fv : Value} {S : Nat → Prop} {s : σ} {x : D} {w : World} (hV : Then fv) (hF : HeadAt w f nv d rest hty) (hI : I q w S s) (ha : ask s = some x) (hf : ¬ S f) :
    Calls Tryz.prog 42 #[.pointer (some ⟨f, 0, none⟩), itf ty q, fv] w fun e w' => e = .returned (.tuple #[]) ∧ HeadAt w' f (some w.heap.size) d rest hty ∧ PartAt w' w.heap.size (itf ty q) fv false ∧ I q w' S s ∧ Only (fun k => k = f ∨ S k) w w' := by
  have hlt := hF.lt
  have hSn : ¬ S w.heap.size := fun e => Nat.lt_irrefl _ (hT.lt hI _ e)
  refine To_any hV hF fun w1 hF1 hP1 ho1 hz => ?_
  have hI1 := hT.only hI ho1 (fun k e z => hf (z ▸ e))
  refine (FNext_of hT hF1 hP1 hI1 ha ⟨by omega, hf, hSn⟩).mono ?_
  rintro e w' ⟨rfl, ho, hP, hI, hb⟩
  exact ⟨⟨_, rfl⟩, hF1.later hb, hP, hI, (ho1.wide fun k e => .inl (.inl e)).then_below hb⟩
/-- Behind a word told to the task: the task's state, in a later world. -/
structure Amids {σ : Type} (w : World) (f pb d q : Nat) (rest : List Value) (hty ty : TypeId) (fv : Value) (I : Nat → World → (Nat → Prop) → σ → Prop) (s : σ) (S S' : Nat → Prop) (w2 : World) : Prop where
  head : HeadAt w2 f (some pb) d rest hty
  part : PartAt w2 pb (itf ty q) fv false
  task : I q w2 S' s
  own : ∀ k, S' k → S k ∨ (w.heap.size ≤ k ∧ k < w2.heap.size)
  only : Only (fun k => k = pb ∨ S k) w w2
/-- A flow whose task asks for something is told v: that task is told v, and the flow is asked again. -/
theorem FTell_of {σ : Type} {ty : TypeId} {nf tf : FuncId} {I : Nat → World → (Nat → Prop) → σ → Prop} {ask : σ → Option D} (hT : IsAsk ty nf tf I ask) {f pb d q : Nat} {rest : List Value} {hty : TypeId} {fv : Value} {S : Nat → Prop} {s : σ} {x : D} {w : World} (hF : HeadAt w f (some pb) d rest hty) (hP : PartAt w pb (itf ty q) fv false) (hI : I q w S s) (ha : ask s = some x) (hf : f ≠ pb ∧ ¬ S f ∧ ¬ S pb) {v : Int}
    {s' : σ} {I' : Nat → World → (Nat → Prop) → σ → Prop} {Q : World → World → Prop} (HTL : ∀ w1, I q w1 S s → w.heap.size ≤ w1.heap.size → Calls Tryz.prog tf #[.pointer (some ⟨q, 0, none⟩), .int .u64 v] w1 fun e w' => e = .returned (.tuple #[]) ∧ ∃ S' : Nat → Prop, I' q w' S' s' ∧ Only S w1 w' ∧ ∀ k, S' k → S k ∨ (w1.heap.size ≤ k ∧ k < w'.heap.size))
    (HN : ∀ w2 S', Amids w f pb d q rest hty ty fv I' s' S S' w2 → ¬ S' f ∧ ¬ S' pb → Calls Tryz.prog 57 #[.pointer (some ⟨f, 0, none⟩)] w2 fun e w' => (∃ o, e = .returned (ansV o)) ∧ Q w2 w') :
    Calls Tryz.prog 60 #[.pointer (some ⟨f, 0, none⟩), .int .u64 v] w fun e w' => e = .returned (.tuple #[]) ∧ ∃ w2 S', Amids w f pb d q rest hty ty fv I' s' S S' w2 ∧ Q w2 w' := by
  have H1 := Lib.hid (FNext_of hT hF hP hI ha hf)
  rw [ansV_some] at H1
  have HNX := Lib.hid HN
  have HTLX := Lib.hid HTL
  have HF := Lib.hid hF
  have HPL := Lib.hid (And.intro hP.lt hF.lt)
  have HS := Lib.hid hf
  have HT := Lib.hid hT
  have hm := hT.mtell q
  have he := hT.etell
  clear HN HTL hF hP hI ha hT hf
  go_enter Tryz.func60, Tryz.ntmps60
  go_wp2_with fail
  refine H1.out.mono ?_
  rintro e w1 ⟨rfl, ho, hP1, hI1, -⟩
  have hb1 := (Below.refl w1.heap.size w1).alloc (Nat.le_refl _) (.cells #[.int .i64 x.1, .int .i64 x.2.1, .int .u64 x.2.2.1, .int .u64 x.2.2.2.1, .int .u64 x.2.2.2.2] 63)
  have HO1 := Lib.hid (ho.then_below hb1)
  have HF1 := Lib.hid ((HF.out.only ho (fun e => e.elim HS.out.1 HS.out.2.1)).later hb1)
  have HP1 := Lib.hid (hP1.later hb1)
  have HI1 := Lib.hid (HT.out.only hI1 (only_below (fun _ => False) hb1) (fun _ _ => id))
  obtain ⟨c0, -, -, -⟩ := HF1.out.cells
  replace c0 : _ = some (Value.pointer (some ⟨pb, 0, none⟩)) := c0
  obtain ⟨c1, -, -, -⟩ := HP1.out.cells
  clear ho hP1 hI1 hb1
  go_wp2_with fail
  refine (HTLX.out _ HI1.out HO1.out.size).mono ?_
  rintro e w2 ⟨rfl, S', hI2, ho2, hS2⟩
  have HM := Lib.hid (show Amids w f pb d q rest hty ty fv I' s' S S' w2 from ⟨HF1.out.only ho2 HS.out.2.1, HP1.out.only ho2 HS.out.2.2, hI2, fun k e => (hS2 k e).imp id (fun z => ⟨Nat.le_trans HO1.out.size z.1, z.2⟩), HO1.out.more ho2 fun k e => .inl (.inr e)⟩)
  have HS2 := Lib.hid (show ¬ S' f ∧ ¬ S' pb from ⟨fun e => (hS2 _ e).elim HS.out.2.1 fun z => by have h1 := HO1.out.size; have h2 := HPL.out.2; omega, fun e => (hS2 _ e).elim HS.out.2.2 fun z => by have h1 := HO1.out.size; have h2 := HPL.out.1; omega⟩)
  clear hI2 ho2 hS2 hm he c0 c1
  go_wp2_with fail
  refine (HNX.out w2 S' HM.out HS2.out).mono ?_
  rintro e w3 ⟨⟨o, rfl⟩, hR⟩
  have HR := Lib.hid hR
  clear hR
  unfold ansV ansD
  generalize o.isSome = bo
  generalize o.getD (0, 0, 0, 0, 0) = d3
  go_wp2
  refine bodyPost_end (results_none rfl _ _ _) rfl ?_
  exact ⟨rfl, w2, S', HM.out, HR.out⟩
theorem FTell_none {f d : Nat} {rest : List Value} {hty : TypeId} {v : Int} {w : World} (hF : HeadAt w f none d rest hty) : Calls Tryz.prog 60 #[.pointer (some ⟨f, 0, none⟩), .int .u64 v] w fun e w' => e = .returned (.tuple #[]) ∧ Below w.heap.size w w' := by
  have H1 := Lib.hid (FNext_none hF)
  rw [ansV_none] at H1
  clear hF
  go_enter Tryz.func60, Tryz.ntmps60
  go_wp2_with fail
  refine H1.out.mono ?_
  rintro e w1 ⟨rfl, hb⟩
  go_wp2
  refine bodyPost_end (results_none rfl _ _ _) rfl ?_
  exact ⟨rfl, hb.trans (((Below.refl _ _).alloc (Nat.le_refl _) _).mono hb.size)⟩
end Go.Proofs.YtlagghghbpbcbaaGreatDoor.Flows

/- A flow at the head of a block, amid one of its tasks, and what it keeps beside: asked, told, and going on to the next one. -/
namespace Go.Proofs.YtlagghghbpbcbaaGreatDoor.Flows
set_option maxRecDepth 20000
open Go.ChangeShapes Go.WideShapes Go.RowKit CM DM Lay Ints Cells Go.Proofs.YtlagghghbpbcbaaGreatDoor.Task
set_option linter.unusedVariables false
set_option linter.unusedSimpArgs false

/-- A method of what lies in block p, as a value. -/
def meth (f : FuncId) (p : Nat) : Value := .func (.func f) #[.pointer (some ⟨p, 0, none⟩)] #[]
theorem meth_then (f : FuncId) (p : Nat) : Then (meth f p) := .inr ⟨_, _, _, rfl⟩
/-- What a flow keeps beside its task: of the blocks X, and of the cells behind its head; q is its task's block. It stays as long as those blocks do. -/
abbrev Beside := World → (Nat → Prop) → List Value → Nat → Prop
structure Keeps (E : Beside) : Prop where
  only : ∀ {w w' : World} {X R : Nat → Prop} {rest : List Value} {q : Nat}, E w X rest q → Only R w w' → (∀ k, X k → ¬ R k) → E w' X rest q
/-- A flow at the head of block p, d deep, amid a task: S are all its blocks. -/
structure Phase {σ : Type} (ty : TypeId) (fv : Value) (I : Nat → World → (Nat → Prop) → σ → Prop) (E : Beside) (hty : TypeId) (w : World) (p d : Nat) (S : Nat → Prop) (s : σ) : Prop where
  base : S p
  lt : ∀ j, S j → j < w.heap.size
  parts : ∃ pb q SM X rest, HeadAt w p (some pb) d rest hty ∧ PartAt w pb (itf ty q) fv false ∧ I q w SM s ∧ E w X rest q ∧ (∀ j, SM j ∨ X j ∨ j = pb → S j ∧ j ≠ p) ∧ ¬ SM pb ∧ ¬ X pb ∧ ∀ j, SM j → ¬ X j
/-- .. without a task. -/
structure Idle (E : Beside) (hty : TypeId) (w : World) (p d : Nat) (S : Nat → Prop) : Prop where
  base : S p
  lt : ∀ j, S j → j < w.heap.size
  parts : ∃ q X rest, HeadAt w p none d rest hty ∧ E w X rest q ∧ ∀ j, X j → S j ∧ j ≠ p
section
variable {σ : Type} {ty : TypeId} {nf tf : FuncId} {I : Nat → World → (Nat → Prop) → σ → Prop} {ask : σ → Option D} {E : Beside} {hty : TypeId} {w w' : World} {p d : Nat} {S R : Nat → Prop} {s : σ} {fv : Value}
theorem Phase.only (hT : IsAsk ty nf tf I ask) (hE : Keeps E) (h : Phase ty fv I E hty w p d S s) (ho : Only R w w') (hR : ∀ j, S j → ¬ R j) : Phase ty fv I E hty w' p d S s := by
  obtain ⟨h1, h2, pb, q, SM, X, rest, k1, k2, k3, k4, k5, k6⟩ := h
  exact ⟨h1, fun j e => Nat.lt_of_lt_of_le (h2 j e) ho.size, pb, q, SM, X, rest, k1.only ho (hR p h1), k2.only ho (hR pb (k5 pb (.inr (.inr rfl))).1), hT.only k3 ho fun j e => hR j (k5 j (.inl e)).1, hE.only k4 ho fun j e => hR j (k5 j (.inr (.inl e))).1, k5, k6⟩
theorem Phase.later (hT : IsAsk ty nf tf I ask) (hE : Keeps E) (h : Phase ty fv I E hty w p d S s) (hb : Below w.heap.size w w') : Phase ty fv I E hty w' p d S s := h.only hT hE (only_below (fun _ => False) hb) fun _ _ => id
theorem Phase.wide {S' : Nat → Prop} (h : Phase ty fv I E hty w p d S s) (hS : ∀ j, S j → S' j) (hl : ∀ j, S' j → j < w.heap.size) : Phase ty fv I E hty w p d S' s := by
  obtain ⟨h1, h2, pb, q, SM, X, rest, k1, k2, k3, k4, k5, k6⟩ := h
  exact ⟨hS p h1, hl, pb, q, SM, X, rest, k1, k2, k3, k4, fun j e => ⟨hS j (k5 j e).1, (k5 j e).2⟩, k6⟩
theorem Idle.only (hE : Keeps E) (h : Idle E hty w p d S) (ho : Only R w w') (hR : ∀ j, S j → ¬ R j) : Idle E hty w' p d S := by
  obtain ⟨h1, h2, q, X, rest, k1, k2, k3⟩ := h
  exact ⟨h1, fun j e => Nat.lt_of_lt_of_le (h2 j e) ho.size, q, X, rest, k1.only ho (hR p h1), hE.only k2 ho fun j e => hR j (k3 j e).1, k3⟩
theorem Idle.later (hE : Keeps E) (h : Idle E hty w p d S) (hb : Below w.heap.size w w') : Idle E hty w' p d S := h.only hE (only_below (fun _ => False) hb) fun _ _ => id
end
/-- What it has become: its blocks are old ones, or new. -/
def Grown (w w' : World) (S S' : Nat → Prop) : Prop := Only S w w' ∧ ∀ j, S' j → S j ∨ (w.heap.size ≤ j ∧ j < w'.heap.size)
theorem Grown.refl (w : World) (S : Nat → Prop) : Grown w w S S := ⟨Only.refl S w, fun j e => .inl e⟩
theorem Grown.below {w w' : World} (S : Nat → Prop) (hb : Below w.heap.size w w') : Grown w w' S S := ⟨only_below S hb, fun j e => .inl e⟩
theorem Grown.trans {w w1 w2 : World} {S S1 S2 : Nat → Prop} (h : Grown w w1 S S1) (k : Grown w1 w2 S1 S2) : Grown w w2 S S2 := by
  have h1 := h.1.size
  have h2 := k.1.size
  exact ⟨h.1.more k.1 fun j e => (h.2 j e).imp id And.left, fun j e => (k.2 j e).elim (fun e => (h.2 j e).imp id fun e => ⟨e.1, by omega⟩) fun e => .inr ⟨by omega, e.2⟩⟩
/-- Its task is a new one. -/
def Anew (hty : TypeId) (p d : Nat) (w w' : World) : Prop := ∀ pb rest, HeadAt w' p (some pb) d rest hty → w.heap.size ≤ pb
theorem head_same {hty : TypeId} {w : World} {p d pb pb' : Nat} {rest rest' : List Value} (h : HeadAt w p (some pb) d rest hty) (k : HeadAt w p (some pb') d rest' hty) : pb = pb' := by
  have e1 := h.cells.1.symm.trans k.cells.1
  simpa only [Option.map_some, Option.some.injEq, Value.pointer.injEq, Addr.mk.injEq, and_true] using e1
theorem Anew.more {hty : TypeId} {p d : Nat} {w w1 w2 : World} (h : Anew hty p d w1 w2) (hz : w.heap.size ≤ w1.heap.size) : Anew hty p d w w2 := fun pb rest k => Nat.le_trans hz (h pb rest k)
/-- The block's cells from the third to the n-th are as they were. -/
def Same (p n : Nat) (w w' : World) : Prop := ∀ j, 2 ≤ j → j < n → w'.cell? ⟨p, j, none⟩ = w.cell? ⟨p, j, none⟩
theorem Same.zero (p : Nat) (w w' : World) : Same p 0 w w' := fun j _ h => absurd h (Nat.not_lt_zero j)
theorem Same.trans {p n : Nat} {w w1 w2 : World} (h : Same p n w w1) (k : Same p n w1 w2) : Same p n w w2 := fun j a b => (k j a b).trans (h j a b)
theorem Same.heads {p n d d' : Nat} {w w' : World} {nv nv' : Option Nat} {rest : List Value} {hty : TypeId} (h : HeadAt w p nv d rest hty) (k : HeadAt w' p nv' d' rest hty) : Same p n w w' := fun j a b => by
  rw [(cell_heap h j).1, (cell_heap k j).1]
  obtain ⟨i, rfl⟩ : ∃ i, j = i + 2 := ⟨j - 2, by omega⟩
  simp
theorem Same.only {p n : Nat} {w w' : World} {R : Nat → Prop} (ho : Only R w w') (hl : p < w.heap.size) (hp : ¬ R p) : Same p n w w' := fun j a b => by
  obtain ⟨o, e⟩ : ∃ o, w.heap[p]? = some o := ⟨_, Array.getElem?_eq_getElem hl⟩
  unfold World.cell?
  rw [ho.heap e hp, e]
theorem Same.set {p n j d : Nat} {w : World} {nv : Option Nat} {rest : List Value} {hty : TypeId} (h : HeadAt w p nv d rest hty) (hj : n ≤ j) (v : Value) : Same p n w (w.setCell ⟨p, j, none⟩ v) := fun i a b => by
  rw [(cell_heap (set_heap (j := j) h v) i).1, (cell_heap h i).1]
  have hne : j ≠ i := by omega
  simp [Array.getElem?_setIfInBounds, hne]
/-- It is asked: its task asks for x. -/
theorem Phase.asked {σ : Type} {ty : TypeId} {nf tf : FuncId} {I : Nat → World → (Nat → Prop) → σ → Prop} {ask : σ → Option D} (hT : IsAsk ty nf tf I ask) {fv : Value} {E : Beside} (hE : Keeps E) {hty : TypeId} {w : World} {p d : Nat} {S : Nat → Prop} {s : σ} {x : D} (h : Phase ty fv I E hty w p d S s) (ha : ask s = some x) :
    Calls Tryz.prog 57 #[.pointer (some ⟨p, 0, none⟩)] w fun e w' => e = .returned (ansV (some x)) ∧ Phase ty fv I E hty w' p d S s ∧ Below w.heap.size w w' := by
  have h0 := h
  obtain ⟨h1, h2, pb, q, SM, X, rest, k1, k2, k3, k4, k5, k6, k7, k8⟩ := h
  refine (FNext_of hT k1 k2 k3 ha ⟨fun e => (k5 pb (.inr (.inr rfl))).2 e.symm, fun e => (k5 p (.inl e)).2 rfl, k6⟩).mono ?_
  rintro e w' ⟨rfl, -, -, -, hb⟩
  exact ⟨rfl, h0.later hT hE hb, hb⟩
theorem Idle.asked {E : Beside} (hE : Keeps E) {hty : TypeId} {w : World} {p d : Nat} {S : Nat → Prop} (h : Idle E hty w p d S) :
    Calls Tryz.prog 57 #[.pointer (some ⟨p, 0, none⟩)] w fun e w' => e = .returned (ansV none) ∧ Idle E hty w' p d S ∧ Below w.heap.size w w' := by
  have h0 := h
  obtain ⟨h1, h2, q, X, rest, k1, k2, k3⟩ := h
  refine (FNext_none k1).mono ?_
  rintro e w' ⟨rfl, hb⟩
  exact ⟨rfl, h0.later hE hb, hb⟩
/-- Where its task is done, and a method goes on: what that finds. -/
structure Freed {σ : Type} (I : Nat → World → (Nat → Prop) → σ → Prop) (E : Beside) (hty : TypeId) (w : World) (p d : Nat) (S : Nat → Prop) (s : σ) : Prop where
  base : S p
  lt : ∀ j, S j → j < w.heap.size
  parts : ∃ q SM X rest, HeadAt w p none d rest hty ∧ I q w SM s ∧ E w X rest q ∧ (∀ j, SM j ∨ X j → S j ∧ j ≠ p) ∧ ∀ j, SM j → ¬ X j
/-- It is asked, its task being done: the method m goes on to another task, that asks for x. -/
theorem Phase.passed {σ : Type} {ty : TypeId} {nf tf : FuncId} {I : Nat → World → (Nat → Prop) → σ → Prop} {ask : σ → Option D} (hT : IsAsk ty nf tf I ask) {τ : Type} {ty2 : TypeId} {nf2 tf2 : FuncId} {I2 : Nat → World → (Nat → Prop) → τ → Prop} {ask2 : τ → Option D} (hT2 : IsAsk ty2 nf2 tf2 I2 ask2) {n : Nat} {m : FuncId} {fv2 : Value} {E E2 : Beside} (hE : Keeps E) (hE2 : Keeps E2) {hty : TypeId} {w : World} {p d : Nat} {S : Nat → Prop} {s : σ} {s2 : τ} {x : D} (h : Phase ty (meth m p) I E hty w p d S s) (hd : d < 65535) (ha : ask s = none) (ha2 : ask2 s2 = some x)
    (en : ∀ (args : Array Value) (w : World), (callFunc m args).run Tryz.prog w = .ok (.enter m args) w)
    (HM : ∀ w1, Freed I E hty w1 p (d + 1) S s → Calls Tryz.prog m #[.pointer (some ⟨p, 0, none⟩)] w1 fun e w2 => e = .returned (.tuple #[]) ∧ ∃ S2, Phase ty2 fv2 I2 E2 hty w2 p (d + 1) S2 s2 ∧ Grown w1 w2 S S2 ∧ Anew hty p (d + 1) w1 w2 ∧ Same p n w1 w2) :
    Calls Tryz.prog 57 #[.pointer (some ⟨p, 0, none⟩)] w fun e w' => e = .returned (ansV (some x)) ∧ ∃ S2, Phase ty2 fv2 I2 E2 hty w' p d S2 s2 ∧ Grown w w' S S2 ∧ Anew hty p d w w' ∧ Same p n w w' := by
  obtain ⟨h1, h2, pb, q, SM, X, rest, k1, k2, k3, k4, k5, k6, k7, k8⟩ := h
  refine (FNext_goes hT hT2 (R := S) (fv2 := fv2) (s2 := s2)
    (G := fun w1 w2 rest' pb' q' S' => w.heap.size < w1.heap.size ∧ HeadAt w2 p (some pb') (d + 1) rest' hty ∧ PartAt w2 pb' (itf ty2 q') fv2 false ∧ I2 q' w2 S' s2 ∧ w1.heap.size ≤ pb' ∧ Only S w1 w2 ∧ Same p n w1 w2 ∧ ∃ X2, E2 w2 X2 rest' q' ∧ (∀ j, S' j ∨ X2 j ∨ j = pb' → (S j ∨ (w1.heap.size ≤ j ∧ j < w2.heap.size)) ∧ j ≠ p) ∧ ¬ S' pb' ∧ ¬ X2 pb' ∧ ∀ j, S' j → ¬ X2 j)
    k1 hd k2 k3 ha ⟨fun e => (k5 pb (.inr (.inr rfl))).2 e.symm, fun e => (k5 p (.inl e)).2 rfl, k6⟩ en h2 ?_ ha2 ?_).mono ?_
  · rintro w1 w2 rest' pb' q' S' ⟨g0, g1, g2, g3, g4, g5, gs, X2, g6, g7, g8, g9, g10⟩
    exact ⟨g1, g5, g2, g3, g4, fun j e => ⟨(g7 j (.inl e)).1.imp id And.left, (g7 j (.inl e)).2⟩, g8⟩
  · intro w1 f1 f2 f3
    refine (HM w1 ⟨h1, fun j e => Nat.lt_trans (h2 j e) f3, q, SM, X, rest, f1, hT.only k3 f2 fun j e z => (k5 j (.inl e)).2 z, hE.only k4 f2 fun j e z => (k5 j (.inr (.inl e))).2 z, fun j e => k5 j (e.imp id .inl), k8⟩).mono ?_
    rintro e w2 ⟨rfl, S2, ⟨g1, g2, pb', q', S', X2, rest', g3, g4, g5, g6, g7, g8, g9, g10⟩, g11, g12, gs⟩
    exact ⟨rfl, rest', pb', q', S', f3, g3, g4, g5, g12 _ _ g3, g11.1, gs, X2, g6, fun j e => ⟨g11.2 j (g7 j e).1, (g7 j e).2⟩, g8, g9, g10⟩
  · rintro e w' ⟨rfl, w1, w2, rest', pb', q', S', f1, f2, f3, ⟨-, g1, g2, g3, g4, g5, gs, X2, g6, g7, g8, g9, g10⟩, m1, m2, m3, m4⟩
    have z4 := m4.size
    have z5 := g5.size
    have hpb := m2.lt
    refine ⟨rfl, fun j => S j ∨ (w1.heap.size ≤ j ∧ j < w'.heap.size), ⟨.inl h1, fun j e => e.elim (fun e => by have := h2 j e; omega) And.right, pb', q', S', X2, rest', m1, m2, m3, hE2.only g6 m4 fun j e z => ?_, fun j e => ⟨(g7 j e).1.imp id fun e => ⟨e.1, by omega⟩, (g7 j e).2⟩, g8, g9, g10⟩, ⟨?_, fun j e => e.imp id fun e => ⟨by omega, e.2⟩⟩, fun pb2 rest2 g => by have := head_same m1 g; omega, ((Same.heads k1 f1).trans gs).trans (Same.heads g1 m1)⟩
    · rcases z with z | z | z | z
      · exact (g7 j (.inr (.inl e))).2 z
      · exact g9 (z ▸ e)
      · exact g10 j z e
      · rcases (g7 j (.inr (.inl e))).1 with q | q
        · have := h2 j q; omega
        · omega
    · refine ((f2.wide fun j e => .inl (e ▸ h1)).more g5 fun j e => .inl e).more m4 fun j e => ?_
      rcases e with e | e | e | e
      · exact .inl (e ▸ h1)
      · exact .inr (by omega)
      · exact (g7 j (.inl e)).1.imp id fun e => by omega
      · exact .inr e.1
/-- It is asked, its task being done, behind which comes nothing. -/
theorem Phase.ended {σ : Type} {ty : TypeId} {nf tf : FuncId} {I : Nat → World → (Nat → Prop) → σ → Prop} {ask : σ → Option D} (hT : IsAsk ty nf tf I ask) {s : σ} {E E2 : Beside} (hE : Keeps E) (hE2 : ∀ {w X rest q SM} (_ : I q w SM s) (_ : E w X rest q) (_ : ∀ j, SM j → ¬ X j), ∃ X2, E2 w X2 rest q ∧ ∀ j, X2 j → SM j ∨ X j) {hty : TypeId} {w : World} {p d : Nat} {S : Nat → Prop} (h : Phase ty .nilFunc I E hty w p d S s) (hd : d < 65535) (ha : ask s = none) :
    Calls Tryz.prog 57 #[.pointer (some ⟨p, 0, none⟩)] w fun e w' => e = .returned (ansV none) ∧ Idle E2 hty w' p d S ∧ Only S w w' := by
  obtain ⟨h1, h2, pb, q, SM, X, rest, k1, k2, k3, k4, k5, k6, k7, k8⟩ := h
  refine (FNext_last hT k1 hd k2 k3 ha ⟨fun e => (k5 pb (.inr (.inr rfl))).2 e.symm, fun e => (k5 p (.inl e)).2 rfl, k6⟩).mono ?_
  rintro e w' ⟨rfl, g1, g2, g3⟩
  obtain ⟨X2, e1, e2⟩ := hE2 g3 (hE.only k4 g1 fun j e z => (k5 j (.inr (.inl e))).2 z) k8
  exact ⟨rfl, ⟨h1, fun j e => Nat.lt_of_lt_of_le (h2 j e) g1.size, q, X2, rest, g2, e1, fun j e => k5 j ((e2 j e).imp id .inl)⟩, g1.wide fun j e => .inl (e ▸ h1)⟩
/-- It is given a task, that asks for x. -/
theorem Phase.made {τ : Type} {ty2 : TypeId} {nf2 tf2 : FuncId} {I2 : Nat → World → (Nat → Prop) → τ → Prop} {ask2 : τ → Option D} (hT2 : IsAsk ty2 nf2 tf2 I2 ask2) {fv2 : Value} {E2 : Beside} (hE2 : Keeps E2) (hV : Then fv2) {hty : TypeId} {w : World} {p d q : Nat} {nv : Option Nat} {rest : List Value} {S S' X2 : Nat → Prop} {s2 : τ} {x : D} (hF : HeadAt w p nv d rest hty) (hI : I2 q w S' s2) (hX : E2 w X2 rest q) (ha : ask2 s2 = some x) (hp : S p) (hlt : ∀ j, S j → j < w.heap.size)
    (hS : ∀ j, S' j ∨ X2 j → S j ∧ j ≠ p) (hd : ∀ j, S' j → ¬ X2 j) :
    Calls Tryz.prog 42 #[.pointer (some ⟨p, 0, none⟩), itf ty2 q, fv2] w fun e w' => e = .returned (.tuple #[]) ∧ ∃ S2, Phase ty2 fv2 I2 E2 hty w' p d S2 s2 ∧ Grown w w' S S2 ∧ Anew hty p d w w' ∧ ∀ n, Same p n w w' := by
  refine (To_of hT2 hV hF hI ha fun e => (hS p (.inl e)).2 rfl).mono ?_
  rintro e w' ⟨rfl, g1, g2, g3, g4⟩
  have hz := g4.size
  have hl2 := g2.lt
  have hne : ∀ j, S j → j ≠ w.heap.size := fun j e z => by have := hlt j e; omega
  refine ⟨rfl, fun j => S j ∨ j = w.heap.size, ⟨.inl hp, fun j e => e.elim (fun e => by have := hlt j e; omega) fun e => by omega, w.heap.size, q, S', X2, rest, g1, g2, g3, hE2.only hX g4 fun j e z => ?_, fun j e => ?_, fun e => hne _ (hS _ (.inl e)).1 rfl, fun e => hne _ (hS _ (.inr e)).1 rfl, hd⟩, ⟨g4.wide fun j e => ?_, fun j e => e.imp id fun e => by omega⟩, fun pb rest' g => ?_, fun n => Same.heads hF g1⟩
  · exact z.elim (fun z => (hS j (.inr e)).2 z) fun z => hd j z e
  · rcases e with e | e | e
    · exact ⟨.inl (hS j (.inl e)).1, (hS j (.inl e)).2⟩
    · exact ⟨.inl (hS j (.inr e)).1, (hS j (.inr e)).2⟩
    · have := hlt p hp
      exact ⟨.inr e, by omega⟩
  · exact .inl (e.elim (fun e => e ▸ hp) fun e => (hS j (.inl e)).1)
  · exact Nat.le_of_eq (head_same g1 g)
/-- It is given a task that is done already: what asking it comes to. -/
theorem Phase.given {τ : Type} {ty2 : TypeId} {nf2 tf2 : FuncId} {I2 : Nat → World → (Nat → Prop) → τ → Prop} {ask2 : τ → Option D} (hT2 : IsAsk ty2 nf2 tf2 I2 ask2) {fv2 : Value} {E2 : Beside} (hE2 : Keeps E2) (hV : Then fv2) {hty : TypeId} {w : World} {p d q : Nat} {nv : Option Nat} {rest : List Value} {S S' X2 : Nat → Prop} {s2 : τ} {Q : World → Prop} (hF : HeadAt w p nv d rest hty) (hI : I2 q w S' s2) (hX : E2 w X2 rest q) (hp : S p) (hlt : ∀ j, S j → j < w.heap.size)
    (hS : ∀ j, S' j ∨ X2 j → S j ∧ j ≠ p) (hd : ∀ j, S' j → ¬ X2 j)
    (HN : ∀ w1 S2, Phase ty2 fv2 I2 E2 hty w1 p d S2 s2 → Grown w w1 S S2 → (∀ n, Same p n w w1) → Calls Tryz.prog 57 #[.pointer (some ⟨p, 0, none⟩)] w1 fun e w' => (∃ o, e = .returned (ansV o)) ∧ Q w') :
    Calls Tryz.prog 42 #[.pointer (some ⟨p, 0, none⟩), itf ty2 q, fv2] w fun e w' => e = .returned (.tuple #[]) ∧ Q w' := by
  refine To_any hV hF fun w1 g1 g2 g3 g4 => ?_
  have hne : ∀ j, S j → j ≠ w.heap.size := fun j e z => by have := hlt j e; omega
  refine HN w1 (fun j => S j ∨ j = w.heap.size) ⟨.inl hp, fun j e => e.elim (fun e => by have := hlt j e; omega) fun e => by omega, w.heap.size, q, S', X2, rest, g1, g2, hT2.only hI g3 fun j e z => (hS j (.inl e)).2 z, hE2.only hX g3 fun j e z => (hS j (.inr e)).2 z, fun j e => ?_, fun e => hne _ (hS _ (.inl e)).1 rfl, fun e => hne _ (hS _ (.inr e)).1 rfl, hd⟩ ⟨g3.wide fun j e => .inl (e ▸ hp), fun j e => e.imp id fun e => by omega⟩ fun n => Same.heads hF g1
  rcases e with e | e | e
  · exact ⟨.inl (hS j (.inl e)).1, (hS j (.inl e)).2⟩
  · exact ⟨.inl (hS j (.inr e)).1, (hS j (.inr e)).2⟩
  · have := hlt p hp
    exact ⟨.inr e, by omega⟩
/-- A flow that is about to be given a task. -/
structure Given {τ : Type} (I2 : Nat → World → (Nat → Prop) → τ → Prop) (E2 : Beside) (hty : TypeId) (w : World) (p d q : Nat) (S : Nat → Prop) (s2 : τ) : Prop where
  base : S p
  lt : ∀ j, S j → j < w.heap.size
  parts : ∃ nv rest S' X2, HeadAt w p nv d rest hty ∧ I2 q w S' s2 ∧ E2 w X2 rest q ∧ (∀ j, S' j ∨ X2 j → S j ∧ j ≠ p) ∧ ∀ j, S' j → ¬ X2 j
theorem Given.later {τ : Type} {ty2 : TypeId} {nf2 tf2 : FuncId} {I2 : Nat → World → (Nat → Prop) → τ → Prop} {ask2 : τ → Option D} (hT2 : IsAsk ty2 nf2 tf2 I2 ask2) {E2 : Beside} (hE2 : Keeps E2) {hty : TypeId} {w w' : World} {p d q : Nat} {S : Nat → Prop} {s2 : τ} (h : Given I2 E2 hty w p d q S s2) (hb : Below w.heap.size w w') : Given I2 E2 hty w' p d q S s2 := by
  obtain ⟨h1, h2, nv, rest, S', X2, h3, h4, h5, h6, h7⟩ := h
  exact ⟨h1, fun j e => Nat.lt_of_lt_of_le (h2 j e) hb.size, nv, rest, S', X2, h3.later hb, hT2.only h4 (only_below (fun _ => False) hb) (fun _ _ => id), hE2.only h5 (only_below (fun _ => False) hb) (fun _ _ => id), h6, h7⟩
theorem Given.made {τ : Type} {ty2 : TypeId} {nf2 tf2 : FuncId} {I2 : Nat → World → (Nat → Prop) → τ → Prop} {ask2 : τ → Option D} (hT2 : IsAsk ty2 nf2 tf2 I2 ask2) {fv2 : Value} {E2 : Beside} (hE2 : Keeps E2) (hV : Then fv2) {hty : TypeId} {w : World} {p d q : Nat} {S : Nat → Prop} {s2 : τ} {x : D} (h : Given I2 E2 hty w p d q S s2) (ha : ask2 s2 = some x) :
    Calls Tryz.prog 42 #[.pointer (some ⟨p, 0, none⟩), itf ty2 q, fv2] w fun e w' => e = .returned (.tuple #[]) ∧ ∃ S2, Phase ty2 fv2 I2 E2 hty w' p d S2 s2 ∧ Grown w w' S S2 ∧ Anew hty p d w w' ∧ ∀ n, Same p n w w' := by
  obtain ⟨h1, h2, nv, rest, S', X2, h3, h4, h5, h6, h7⟩ := h
  exact Phase.made hT2 hE2 hV h3 h4 h5 ha h1 h2 h6 h7
theorem Given.asked {τ : Type} {ty2 : TypeId} {nf2 tf2 : FuncId} {I2 : Nat → World → (Nat → Prop) → τ → Prop} {ask2 : τ → Option D} (hT2 : IsAsk ty2 nf2 tf2 I2 ask2) {fv2 : Value} {E2 : Beside} (hE2 : Keeps E2) (hV : Then fv2) {hty : TypeId} {w : World} {p d q : Nat} {S : Nat → Prop} {s2 : τ} {Q : World → Prop} (h : Given I2 E2 hty w p d q S s2)
    (HN : ∀ w1 S2, Phase ty2 fv2 I2 E2 hty w1 p d S2 s2 → Grown w w1 S S2 → (∀ n, Same p n w w1) → Calls Tryz.prog 57 #[.pointer (some ⟨p, 0, none⟩)] w1 fun e w' => (∃ o, e = .returned (ansV o)) ∧ Q w') :
    Calls Tryz.prog 42 #[.pointer (some ⟨p, 0, none⟩), itf ty2 q, fv2] w fun e w' => e = .returned (.tuple #[]) ∧ Q w' := by
  obtain ⟨h1, h2, nv, rest, S', X2, h3, h4, h5, h6, h7⟩ := h
  exact Phase.given hT2 hE2 hV h3 h4 h5 h1 h2 h6 h7 HN
/-- It is told a word: its task is told, then it is asked again. -/
theorem Phase.told {σ : Type} {ty : TypeId} {nf tf : FuncId} {I : Nat → World → (Nat → Prop) → σ → Prop} {ask : σ → Option D} (hT : IsAsk ty nf tf I ask) {fv : Value} {E : Beside} (hE : Keeps E) {hty : TypeId} {w : World} {p d : Nat} {S : Nat → Prop} {s s' : σ} {x : D} {v : Int} {I' : Nat → World → (Nat → Prop) → σ → Prop} (h : Phase ty fv I E hty w p d S s) (ha : ask s = some x) {Q : World → Prop}
    (HTL : ∀ q SM w1, I q w1 SM s → w.heap.size ≤ w1.heap.size → Calls Tryz.prog tf #[.pointer (some ⟨q, 0, none⟩), .int .u64 v] w1 fun e w' => e = .returned (.tuple #[]) ∧ ∃ S' : Nat → Prop, I' q w' S' s' ∧ Only SM w1 w' ∧ ∀ k, S' k → SM k ∨ (w1.heap.size ≤ k ∧ k < w'.heap.size))
    (HN : ∀ w2 S2, Phase ty fv I' E hty w2 p d S2 s' → Grown w w2 S S2 → Calls Tryz.prog 57 #[.pointer (some ⟨p, 0, none⟩)] w2 fun e w' => (∃ o, e = .returned (ansV o)) ∧ Q w') :
    Calls Tryz.prog 60 #[.pointer (some ⟨p, 0, none⟩), .int .u64 v] w fun e w' => e = .returned (.tuple #[]) ∧ Q w' := by
  obtain ⟨h1, h2, pb, q, SM, X, rest, k1, k2, k3, k4, k5, k6, k7, k8⟩ := h
  refine (FTell_of hT k1 k2 k3 ha ⟨fun e => (k5 pb (.inr (.inr rfl))).2 e.symm, fun e => (k5 p (.inl e)).2 rfl, k6⟩ (s' := s') (I' := I') (Q := fun w2 w' => Q w') (fun w1 g1 g2 => HTL q SM w1 g1 g2) fun w2 S' hM hn => ?_).mono ?_
  · obtain ⟨m1, m2, m3, m4, m5⟩ := hM
    have hz := m5.size
    have hpb := k2.lt
    refine HN w2 (fun j => S j ∨ (w.heap.size ≤ j ∧ j < w2.heap.size)) ⟨.inl h1, fun j e => e.elim (fun e => by have := h2 j e; omega) And.right, pb, q, S', X, rest, m1, m2, m3, hE.only k4 m5 fun j e z => z.elim (fun z => k7 (z ▸ e)) fun z => k8 j z e, fun j e => ?_, hn.2, k7, fun j e z => ?_⟩ ⟨m5.wide fun j e => .inl (e.elim (fun e => e ▸ (k5 pb (.inr (.inr rfl))).1) fun e => (k5 j (.inl e)).1), fun j e => e⟩
    · rcases e with e | e
      · refine (m4 j e).elim (fun e => ⟨.inl (k5 j (.inl e)).1, (k5 j (.inl e)).2⟩) fun z => ⟨.inr z, fun y => hn.1 (y ▸ e)⟩
      · exact ⟨.inl (k5 j (.inr e)).1, (k5 j (.inr e)).2⟩
    · have hl := h2 j (k5 j (.inr (.inl z))).1
      exact (m4 j e).elim (fun e => k8 j e z) fun e => by omega
  · rintro e w' ⟨rfl, -, -, -, hQ⟩
    exact ⟨rfl, hQ⟩
theorem Idle.told {E : Beside} (hE : Keeps E) {hty : TypeId} {w : World} {p d : Nat} {S : Nat → Prop} {v : Int} (h : Idle E hty w p d S) :
    Calls Tryz.prog 60 #[.pointer (some ⟨p, 0, none⟩), .int .u64 v] w fun e w' => e = .returned (.tuple #[]) ∧ Idle E hty w' p d S ∧ Below w.heap.size w w' := by
  have h0 := h
  obtain ⟨h1, h2, q, X, rest, k1, k2, k3⟩ := h
  refine (FTell_none k1).mono ?_
  rintro e w' ⟨rfl, hb⟩
  exact ⟨rfl, h0.later hE hb, hb⟩
end Go.Proofs.YtlagghghbpbcbaaGreatDoor.Flows

/- A script as a flow's task. -/
namespace Go.Proofs.YtlagghghbpbcbaaGreatDoor.Flows
set_option maxRecDepth 20000
open Go.ChangeShapes Go.WideShapes Go.RowKit CM DM Lay Ints Cells Go.Proofs.YtlagghghbpbcbaaGreatDoor.Task
set_option linter.unusedVariables false
set_option linter.unusedSimpArgs false
def askS (ds : List D) (fs : List Int) : Option D := ds[fs.length]?
def tellS (ds : List D) (fs : List Int) (v : Int) : List Int := if fs.length < ds.length then fs ++ [v] else fs
def ScrI (ds : List D) (q : Nat) (w : World) (S : Nat → Prop) (fs : List Int) : Prop := ∃ qd g, Scr w q qd g ds fs ∧ S q ∧ S qd ∧ S g ∧ ∀ k, S k → k < w.heap.size
theorem scr_next (q n : Nat) (w : World) : (method (n + 1) 180 (.pointer (some ⟨q, 0, none⟩)) "Next").run Tryz.prog w = .ok (223, .pointer (some ⟨q, 0, none⟩)) w := by kernel_rfl
theorem scr_tell (q n : Nat) (w : World) : (method (n + 1) 180 (.pointer (some ⟨q, 0, none⟩)) "Tell").run Tryz.prog w = .ok (224, .pointer (some ⟨q, 0, none⟩)) w := by kernel_rfl
theorem next_enterS (args : Array Value) (w : World) : (callFunc 223 args).run Tryz.prog w = .ok (.enter 223 args) w := by kernel_rfl
theorem tell_enterS (args : Array Value) (w : World) : (callFunc 224 args).run Tryz.prog w = .ok (.enter 224 args) w := by kernel_rfl
theorem scr_only {ds : List D} {q : Nat} {w w' : World} {S R : Nat → Prop} {fs : List Int} (h : ScrI ds q w S fs) (ho : Only R w w') (hn : ∀ k, S k → ¬ R k) : ScrI ds q w' S fs := by
  obtain ⟨qd, g, h1, h2, h3, h4, h5⟩ := h
  exact ⟨qd, g, h1.only ho (hn _ h2) (hn _ h3) (hn _ h4), h2, h3, h4, fun k e => Nat.lt_of_lt_of_le (h5 k e) ho.size⟩
theorem scr_task (ds : List D) : IsTask 180 223 224 (ScrI ds) (askS ds) (tellS ds) where
  mnext := scr_next
  mtell := scr_tell
  enext := next_enterS
  etell := tell_enterS
  only := scr_only
  lt := fun h => by
    obtain ⟨qd, g, h1, h2, h3, h4, h5⟩ := h
    exact h5
  next := fun {q w S fs} h => by
    have hi := h
    obtain ⟨qd, g, h1, h2, h3, h4, h5⟩ := h
    unfold askS
    cases hx : ds[fs.length]? with
    | some x =>
      refine (Task.Next_more h1 hx).mono ?_
      rintro e w' ⟨rfl, hb⟩
      exact ⟨rfl, scr_only hi (only_below (fun _ => False) hb) (fun _ _ => id), hb⟩
    | none =>
      have hl := List.getElem?_eq_none_iff.1 hx
      refine (Task.Next_done h1 (Nat.le_antisymm h1.less hl)).mono ?_
      rintro e w' ⟨rfl, hb⟩
      exact ⟨rfl, scr_only hi (only_below (fun _ => False) hb) (fun _ _ => id), hb⟩
  tell := fun {q w S fs v} h hv => by
    have hi := h
    obtain ⟨qd, g, h1, h2, h3, h4, h5⟩ := h
    unfold tellS
    by_cases hl : fs.length < ds.length
    · rw [if_pos hl]
      refine (Task.Tell_more h1 hl v).mono ?_
      rintro e w' ⟨g', rfl, k1, k2, k3⟩
      have hg := k1.apart.2.2
      exact ⟨rfl, fun k => S k ∨ k = g', ⟨qd, g', k1, .inl h2, .inl h3, .inr rfl, fun k e => e.elim (fun e => Nat.lt_of_lt_of_le (h5 k e) k3.size) (fun e => e ▸ hg)⟩, k3.wide (fun k e => .inl (e.elim (fun e => e ▸ h2) (fun e => e ▸ h4))), fun k e => e.elim .inl (fun e => by subst e; exact k2.elim (fun e => .inl (e ▸ h4)) (fun e => .inr ⟨e, hg⟩))⟩
    · rw [if_neg hl]
      refine (Task.Tell_done h1 (Nat.le_antisymm h1.less (Nat.not_lt.1 hl)) v).mono ?_
      rintro e w' ⟨rfl, hb⟩
      exact ⟨rfl, S, scr_only hi (only_below (fun _ => False) hb) (fun _ _ => id), only_below _ hb, fun k e => .inl e⟩
end Go.Proofs.YtlagghghbpbcbaaGreatDoor.Flows
