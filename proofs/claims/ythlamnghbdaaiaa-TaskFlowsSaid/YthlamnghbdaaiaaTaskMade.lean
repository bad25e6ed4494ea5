/- Package task's Behind: a flow of two scripts is made, and stands at what it asks for first. -/
import Derived.Test.YthlamnghbdaaiaaTaskFirst
namespace Go.Proofs.Ythlamnghbdaaiaa.Task
open Go.ChangeShapes Go.WideShapes Go.RowKit CM DM Lay Ints Cells
set_option linter.unusedVariables false

theorem given_more {w W w1 : World} {f d p : Nat} {x : D} {e : Ending} (ho : Only (fun k => k = f) w W) (hlf : f < w.heap.size) (h : Passed W f w.heap.size d p x e w1) : Given w f d p .nilFunc (.returned (.tuple #[])) w1 := by
  obtain ⟨pb2, _, hF, hP, hpb, ho2⟩ := h
  have hs := ho.size
  exact ⟨pb2, rfl, hF, hP, by omega, ho.more ho2 (fun i e => e.elim .inl (fun h => .inr (by omega)))⟩
theorem given_done {w W w1 : World} {f d : Nat} {e : Ending} (ho : Only (fun k => k = f) w W) (hlf : f < w.heap.size) (h : Through W f w.heap.size d e w1) : Ended w f d (.returned (.tuple #[])) w1 := by
  obtain ⟨_, hF, ho2⟩ := h
  exact ⟨rfl, hF, ho.more ho2 (fun i e => e.elim .inl (fun h => .inr (by omega)))⟩
theorem To_both_more {f d b1 b2 p1 q1 g1 p2 q2 g2 : Nat} {nv : Option Nat} {a b : List D} {fs1 fs2 : List Int} {x : D} {w : World} (hF : FlowAt w f nv d) (hd : d < 65535) (hC : Caps w b1 b2 f p2) (hb : f ≠ b1 ∧ f ≠ b2) (hS1 : Scr w p1 q1 g1 a fs1) (h1 : f ≠ p1 ∧ f ≠ q1 ∧ f ≠ g1)
    (hS2 : Scr w p2 q2 g2 b fs2) (h2 : f ≠ p2 ∧ f ≠ q2 ∧ f ≠ g2) (hx1 : fs1.length = a.length) (hx : b[fs2.length]? = some x) :
    Calls Try.prog 16 #[.pointer (some ⟨f, 0, none⟩), taskV p1, Value.func (.func 25) #[] #[.pointer (some ⟨b1, 0, none⟩), .pointer (some ⟨b2, 0, none⟩)]] w (Given w f d p2 .nilFunc) := by
  obtain ⟨hF1, hP1, ho1, hlf⟩ := to_start (p := p1) (fv := Value.func (.func 25) #[] #[.pointer (some ⟨b1, 0, none⟩), .pointer (some ⟨b2, 0, none⟩)]) hF
  have a1 := hS1.apart
  have a2 := hS2.apart
  have l1 := hC.flow.lt
  have l2 := hC.script.lt
  have HN := Lib.hid (FNext_first_more ⟨hF1, hP1, hC.only ho1 (fun e => hb.1 e.symm) (fun e => hb.2 e.symm), hS1.only ho1 (fun e => h1.1 e.symm) (fun e => h1.2.1 e.symm) (fun e => h1.2.2 e.symm), hS2.only ho1 (fun e => h2.1 e.symm) (fun e => h2.2.1 e.symm) (fun e => h2.2.2 e.symm), by omega⟩ hd hx1 hx)
  have HF1 := Lib.hid hF1
  have HO1 := Lib.hid ho1
  have c0 := (cell_heap hF 0).1
  have c1 := (cell_heap hF 0).2
  replace c0 : _ = some (Value.pointer (nv.map fun pb => ⟨pb, 0, none⟩)) := c0
  generalize nv.map (fun pb => (⟨pb, 0, none⟩ : Addr)) = nA at c0
  clear hF1 hP1 ho1 hS1 hS2 hC hF hx hx1 a1 a2 l1 l2 hb h1 h2
  go_enter Try.func16, Try.ntmps16
  go_wp2_with fail
  refine HN.out.mono ?_
  rintro e w1 hG
  have HE := Lib.hid (given_more HO1.out hlf hG)
  obtain ⟨pb2, rfl, hF, hP, hpb, ho⟩ := hG
  clear hF ho
  try clear hP hpb
  go_wp2
  refine bodyPost_end (results_none rfl _ _ _) rfl ?_
  exact HE.out
theorem To_both_done {f d b1 b2 p1 q1 g1 p2 q2 g2 : Nat} {nv : Option Nat} {a b : List D} {fs1 fs2 : List Int}  {w : World} (hF : FlowAt w f nv d) (hd : d < 65535) (hC : Caps w b1 b2 f p2) (hb : f ≠ b1 ∧ f ≠ b2) (hS1 : Scr w p1 q1 g1 a fs1) (h1 : f ≠ p1 ∧ f ≠ q1 ∧ f ≠ g1)
    (hS2 : Scr w p2 q2 g2 b fs2) (h2 : f ≠ p2 ∧ f ≠ q2 ∧ f ≠ g2) (hx1 : fs1.length = a.length) (hx : fs2.length = b.length) :
    Calls Try.prog 16 #[.pointer (some ⟨f, 0, none⟩), taskV p1, Value.func (.func 25) #[] #[.pointer (some ⟨b1, 0, none⟩), .pointer (some ⟨b2, 0, none⟩)]] w (Ended w f d) := by
  obtain ⟨hF1, hP1, ho1, hlf⟩ := to_start (p := p1) (fv := Value.func (.func 25) #[] #[.pointer (some ⟨b1, 0, none⟩), .pointer (some ⟨b2, 0, none⟩)]) hF
  have a1 := hS1.apart
  have a2 := hS2.apart
  have l1 := hC.flow.lt
  have l2 := hC.script.lt
  have HN := Lib.hid (FNext_first_done ⟨hF1, hP1, hC.only ho1 (fun e => hb.1 e.symm) (fun e => hb.2 e.symm), hS1.only ho1 (fun e => h1.1 e.symm) (fun e => h1.2.1 e.symm) (fun e => h1.2.2 e.symm), hS2.only ho1 (fun e => h2.1 e.symm) (fun e => h2.2.1 e.symm) (fun e => h2.2.2 e.symm), by omega⟩ hd hx1 hx)
  have HF1 := Lib.hid hF1
  have HO1 := Lib.hid ho1
  have c0 := (cell_heap hF 0).1
  have c1 := (cell_heap hF 0).2
  replace c0 : _ = some (Value.pointer (nv.map fun pb => ⟨pb, 0, none⟩)) := c0
  generalize nv.map (fun pb => (⟨pb, 0, none⟩ : Addr)) = nA at c0
  clear hF1 hP1 ho1 hS1 hS2 hC hF hx hx1 a1 a2 l1 l2 hb h1 h2
  go_enter Try.func16, Try.ntmps16
  go_wp2_with fail
  refine HN.out.mono ?_
  rintro e w1 hG
  have HE := Lib.hid (given_done HO1.out hlf hG)
  obtain ⟨rfl, hF, ho⟩ := hG
  clear hF ho
  try clear hP hpb
  go_wp2
  refine bodyPost_end (results_none rfl _ _ _) rfl ?_
  exact HE.out

/-- A flow whose last part is a script that is not done. -/
structure Lone (w : World) (f pb d p q g : Nat) (ds : List D) (fs : List Int) : Prop where
  flow : FlowAt w f (some pb) d
  part : PartAt w pb (taskV p) .nilFunc false
  scr : Scr w p q g ds fs
  apart : f ≠ pb ∧ (pb ≠ p ∧ pb ≠ q ∧ pb ≠ g) ∧ (f ≠ p ∧ f ≠ q ∧ f ≠ g)
/-- What script 1 may turn lies apart from all else. -/
def Sep (f b1 b2 p1 q1 g1 p2 q2 g2 : Nat) : Prop := (f ≠ p1 ∧ f ≠ q1 ∧ f ≠ g1) ∧ (b1 ≠ p1 ∧ b1 ≠ g1 ∧ b2 ≠ p1 ∧ b2 ≠ g1) ∧ (p2 ≠ p1 ∧ p2 ≠ g1 ∧ q2 ≠ p1 ∧ q2 ≠ g1 ∧ g2 ≠ p1 ∧ g2 ≠ g1)
/-- A flow of two scripts, made since w, that was told i words; R: the blocks that it is made of. -/
structure Fl (w w' : World) (f : Nat) (a b : List D) (i : Nat) (R : Nat → Prop) : Prop where
  below : Below w.heap.size w w'
  base : R f
  bound : ∀ k, R k → w.heap.size ≤ k ∧ k < w'.heap.size
  state : (∃ pb b1 b2 p1 q1 g1 p2 q2 g2 fs1, i < a.length ∧ fs1.length = i ∧ Two w' f pb 0 b1 b2 p1 q1 g1 p2 q2 g2 a b fs1 [] ∧ Sep f b1 b2 p1 q1 g1 p2 q2 g2 ∧ R pb ∧ R p1 ∧ R g1 ∧ R p2 ∧ R g2 ∧ R b1 ∧ R b2 ∧ R q1 ∧ R q2) ∨
    (∃ pb p q g fs, a.length ≤ i ∧ i < a.length + b.length ∧ fs.length + a.length = i ∧ Lone w' f pb 0 p q g b fs ∧ R pb ∧ R p ∧ R g ∧ R q) ∨
    (i = a.length + b.length ∧ FlowAt w' f none 0)
/-- What was made in between. -/
abbrev Mades (w w' : World) (k : Nat) : Prop := w.heap.size ≤ k ∧ k < w'.heap.size

/-- What stands where ahead of the flow's first task. -/
structure Set_ (w W : World) (b1 b2 p1 q1 p2 q2 : Nat) (a b : List D) : Prop where
  flow : FlowAt W w.heap.size none 0
  caps : Caps W b1 b2 w.heap.size p2
  one : Scr W p1 q1 p1 a []
  two : Scr W p2 q2 p2 b []
  below : Below w.heap.size w W
  apart : w.heap.size < p2 ∧ w.heap.size < q2 ∧ p2 < b1 ∧ q2 < b1 ∧ b1 < b2 ∧ b2 < p1 ∧ b2 < q1
theorem Set_.mk' {w w1 w3 : World} {p1 q1 p2 q2 : Nat} {a b : List D} {o : Obj} (ho : o = .cells #[.pointer none, .int .i64 0] 62) (hs2 : Scr w1 p2 q2 p2 b []) (h1 : (w.alloc o).heap.size ≤ p2) (h2 : (w.alloc o).heap.size ≤ q2) (hb1 : Below (w.alloc o).heap.size (w.alloc o) w1)
    (hs1 : Scr w3 p1 q1 p1 a []) (h3 : w1.heap.size + 1 + 1 ≤ p1) (h4 : w1.heap.size + 1 + 1 ≤ q1)
    (hb3 : Below (w1.heap.size + 1 + 1) ((w1.alloc (.cells #[.pointer (some ⟨w.heap.size, 0, none⟩)] 36)).alloc (.cells #[.pointer (some ⟨p2, 0, none⟩)] 25)) w3) :
    Set_ w w3 w1.heap.size (w1.heap.size + 1) p1 q1 p2 q2 a b := by
  subst ho
  have hsz : ((w1.alloc (.cells #[.pointer (some ⟨w.heap.size, 0, none⟩)] 36)).alloc (.cells #[.pointer (some ⟨p2, 0, none⟩)] 25)).heap.size = w1.heap.size + 1 + 1 := by simp
  rw [← hsz] at hb3
  have hbb : Below w1.heap.size w1 ((w1.alloc (.cells #[.pointer (some ⟨w.heap.size, 0, none⟩)] 36)).alloc (.cells #[.pointer (some ⟨p2, 0, none⟩)] 25)) := ((Below.refl _ _).alloc (Nat.le_refl _) _).alloc (by simp) _
  have hl2 := hs2.apart
  have hF : FlowAt (w.alloc (.cells #[.pointer none, .int .i64 0] 62)) w.heap.size none 0 := new_heap w _
  have hs := hb1.size
  simp only [World.size_alloc] at h1 h2 hs
  have n1 := (Below.refl _ (w1.alloc (.cells #[.pointer (some ⟨w.heap.size, 0, none⟩)] 36))).alloc (Nat.le_refl _) (.cells #[.pointer (some ⟨p2, 0, none⟩)] 25)
  have n2 := new_heap (w1.alloc (.cells #[.pointer (some ⟨w.heap.size, 0, none⟩)] 36)) (.cells #[.pointer (some ⟨p2, 0, none⟩)] 25)
  rw [World.size_alloc] at n2
  have hbw : Below w.heap.size w w3 := ((((Below.refl _ _).alloc (Nat.le_refl _) _).trans (hb1.mono (by simp))).trans (hbb.mono (by omega))).trans (hb3.mono (by omega))
  refine ⟨hb3.flow (hbb.flow (hb1.flow hF)), ⟨?_, ?_⟩, hs1, (hs2.later hbb).later hb3, hbw, by omega⟩
  · exact (hb3.block _ (by omega)).trans ((n1.block _ (by simp)).trans (new_heap w1 _))
  · exact (hb3.block _ (by omega)).trans n2

theorem Set_.f1 {w W : World} {b1 b2 p1 q1 p2 q2 : Nat} {a b : List D} (h : Set_ w W b1 b2 p1 q1 p2 q2 a b) : w.heap.size ≠ p1 ∧ w.heap.size ≠ q1 ∧ w.heap.size ≠ p1 := by
  have := h.apart
  omega
theorem Set_.f2 {w W : World} {b1 b2 p1 q1 p2 q2 : Nat} {a b : List D} (h : Set_ w W b1 b2 p1 q1 p2 q2 a b) : w.heap.size ≠ p2 ∧ w.heap.size ≠ q2 ∧ w.heap.size ≠ p2 := by
  have := h.apart
  omega
theorem Set_.fb {w W : World} {b1 b2 p1 q1 p2 q2 : Nat} {a b : List D} (h : Set_ w W b1 b2 p1 q1 p2 q2 a b) : w.heap.size ≠ b1 ∧ w.heap.size ≠ b2 := by
  have := h.apart
  omega
theorem Set_.keeps {w W W' : World} {b1 b2 p1 q1 p2 q2 : Nat} {a b : List D} (h : Set_ w W b1 b2 p1 q1 p2 q2 a b) (ho : Only (fun k => k = w.heap.size) W W') : W'.cell? ⟨b1, 0, none⟩ = some (.pointer (some ⟨w.heap.size, 0, none⟩)) :=
  ho.cell h.caps.flow.cell (fun e => h.fb.1 e.symm)
theorem Set_.one' {w W w' : World} {b1 b2 p1 q1 p2 q2 : Nat} {a b : List D} {e : Ending} (h : Set_ w W b1 b2 p1 q1 p2 q2 a b) (hl : 0 < a.length) (hG : Given W w.heap.size 0 p1 (Value.func (.func 25) #[] #[.pointer (some ⟨b1, 0, none⟩), .pointer (some ⟨b2, 0, none⟩)]) e w') : Fl w w' w.heap.size a b 0 (Mades w w') := by
  obtain ⟨hF, hC, h1, h2, hb, hap⟩ := h
  obtain ⟨pb, _, hF', hP', hpb, ho⟩ := hG
  have hs := hb.size
  have hso := ho.size
  have hlp := (Array.getElem?_eq_some_iff.1 hP').1
  have a1 := h1.apart
  have a2 := h2.apart
  have l1 := hC.flow.lt
  have l2 := hC.script.lt
  refine ⟨hb.trans (ho.below hs (fun k e => by omega)), ⟨Nat.le_refl _, by omega⟩, fun k e => e, .inl ⟨pb, b1, b2, p1, q1, p1, p2, q2, p2, [], hl, rfl, ⟨hF', hP', hC.only ho (by omega) (by omega), h1.only ho (by omega) (by omega) (by omega), h2.only ho (by omega) (by omega) (by omega), by omega⟩, ?_, ⟨by omega, hlp⟩, ⟨by omega, by omega⟩, ⟨by omega, by omega⟩, ⟨by omega, by omega⟩, ⟨by omega, by omega⟩, ⟨by omega, by omega⟩, ⟨by omega, by omega⟩, ⟨by omega, by omega⟩, ⟨by omega, by omega⟩⟩⟩
  unfold Sep
  omega
theorem Set_.two' {w W w' : World} {b1 b2 p1 q1 p2 q2 : Nat} {a b : List D} {e : Ending} (h : Set_ w W b1 b2 p1 q1 p2 q2 a b) (hx1 : ([] : List Int).length = a.length) (hl : 0 < b.length) (hG : Given W w.heap.size 0 p2 .nilFunc e w') : Fl w w' w.heap.size a b 0 (Mades w w') := by
  obtain ⟨hF, hC, h1, h2, hb, hap⟩ := h
  obtain ⟨pb, _, hF', hP', hpb, ho⟩ := hG
  have hs := hb.size
  have hso := ho.size
  have hlp := (Array.getElem?_eq_some_iff.1 hP').1
  have a2 := h2.apart
  have hx1' : a.length = 0 := hx1.symm
  exact ⟨hb.trans (ho.below hs (fun k e => by omega)), ⟨Nat.le_refl _, by omega⟩, fun k e => e, .inr (.inl ⟨pb, p2, q2, p2, [], by omega, by omega, by rw [List.length_nil]; omega, ⟨hF', hP', h2.only ho (by omega) (by omega) (by omega), by omega⟩, ⟨by omega, hlp⟩, ⟨by omega, by omega⟩, ⟨by omega, by omega⟩, ⟨by omega, by omega⟩⟩)⟩
theorem Set_.none' {w W w' : World} {b1 b2 p1 q1 p2 q2 : Nat} {a b : List D} {e : Ending} (h : Set_ w W b1 b2 p1 q1 p2 q2 a b) (hx1 : ([] : List Int).length = a.length) (hx2 : ([] : List Int).length = b.length) (hG : Ended W w.heap.size 0 e w') : Fl w w' w.heap.size a b 0 (Mades w w') := by
  obtain ⟨hF, hC, h1, h2, hb, hap⟩ := h
  obtain ⟨_, hF', ho⟩ := hG
  have hs := hb.size
  have hx1' : a.length = 0 := hx1.symm
  have hx2' : b.length = 0 := hx2.symm
  exact ⟨hb.trans (ho.below hs (fun k e => by omega)), ⟨Nat.le_refl _, (Array.getElem?_eq_some_iff.1 hF').1⟩, fun k e => e, .inr (.inr ⟨by omega, hF'⟩)⟩

theorem Behind_one {A1 A2 : Option Addr} {n1 n2 c1 c2 : Nat} {a b : List D} {w : World} (hR1 : Row w w.heap.size A1 (flat encD a)) (hn1 : n1 = a.length) (hR2 : Row w w.heap.size A2 (flat encD b)) (hn2 : n2 = b.length) (hl1 : n1 ≤ 1000000) (hl2 : n2 ≤ 1000000) (hx1 : 0 < a.length) (hx2 : True) :
    Calls Try.prog 12 #[.slice A1 n1 c1, .slice A2 n2 c2] w fun e w' => ∃ f, e = .returned (.pointer (some ⟨f, 0, none⟩)) ∧ Fl w w' f a b 0 (Mades w w') := by
  have HR1 := Lib.hid hR1
  have HR2 := Lib.hid hR2
  have HN1 := Lib.hid hn1
  have HN2 := Lib.hid hn2
  have HLA := Lib.hid hx1
  have HLB := Lib.hid hx2
  have HX1 := Lib.hid (fun h : 0 < a.length => List.getElem?_eq_getElem h)
  have HX2 := Lib.hid (fun h : 0 < b.length => List.getElem?_eq_getElem h)
  have hf := hmf
  clear hR1 hR2 hn1 hn2 hx1 hx2
  go_enter Try.func12, Try.ntmps12
  go_wp2_with fail
  refine (NewScript_any (HR2.out.later ((Below.refl _ _).alloc (Nat.le_refl _) _)) HN2.out hl2).mono ?_
  rintro e w1 ⟨p2, q2, rfl, hs2, hp2, hq2, hb1⟩
  have HS2 := Lib.hid hs2
  have HP2 := Lib.hid hp2
  have HQ2 := Lib.hid hq2
  have HB1 := Lib.hid hb1
  have hbw : Below w.heap.size w ((w1.alloc (.cells #[.pointer (some ⟨w.heap.size, 0, none⟩)] 36)).alloc (.cells #[.pointer (some ⟨p2, 0, none⟩)] 25)) :=
    ((((Below.refl _ _).alloc (Nat.le_refl _) _).trans (hb1.mono (by simp))).alloc (by have := hb1.size; simp at this; omega) _).alloc (by have := hb1.size; simp at this ⊢; omega) _
  have HBW := Lib.hid hbw
  have c0 : ((w1.alloc (.cells #[.pointer (some ⟨w.heap.size, 0, none⟩)] 36)).alloc (.cells #[.pointer (some ⟨p2, 0, none⟩)] 25)).cell? ⟨w1.heap.size, 0, none⟩ = some (.pointer (some ⟨w.heap.size, 0, none⟩)) := cell_later ((Below.refl _ _).alloc (Nat.le_refl _) _) (cell_heap (new_heap w1 _) 0).1
  clear hs2 hp2 hq2 hb1 hbw
  go_wp2
  go_region_held3 (fun W => W.cell? ⟨w1.heap.size, 0, none⟩ = some (.pointer (some ⟨w.heap.size, 0, none⟩)))
    ((first | (with_reducible exact c0) | (exact HS.out.caps.flow.cell) | (exact HC4.out) | (exact (show _ from c0))))
    (first
      | (go_at_call 7; refine (NewScript_any (HR1.out.later HBW.out.drew) HN1.out hl1).mono ?_; rintro e w3 ⟨p1, q1, rfl, hs1, hp1, hq1, hb3⟩; have HS := Lib.hid (Set_.mk' rfl HS2.out HP2.out HQ2.out HB1.out hs1 (by simpa using hp1) (by simpa using hq1) (by have h := ((Below.refl _ _).drew.trans hb3); simpa using h)); clear hs1 hp1 hq1 hb3)
      | (go_at_call 16; refine (To_first HS.out.flow HS.out.one (HX1.out HLA.out) HS.out.f1).mono ?_; rintro e w4 hE; have HC4 := Lib.hid (HS.out.keeps (hE.choose_spec.2.2.2.2)); have HFL := Lib.hid (HS.out.one' HLA.out hE); have he : e = .returned (.tuple #[]) := hE.choose_spec.1; clear hE; subst he))
  all_goals (have hc4 := HC4.out; go_wp2; go_ret; exact ⟨_, rfl, HFL.out⟩)
theorem Behind_two {A1 A2 : Option Addr} {n1 n2 c1 c2 : Nat} {a b : List D} {w : World} (hR1 : Row w w.heap.size A1 (flat encD a)) (hn1 : n1 = a.length) (hR2 : Row w w.heap.size A2 (flat encD b)) (hn2 : n2 = b.length) (hl1 : n1 ≤ 1000000) (hl2 : n2 ≤ 1000000) (hx1 : ([] : List Int).length = a.length) (hx2 : 0 < b.length) :
    Calls Try.prog 12 #[.slice A1 n1 c1, .slice A2 n2 c2] w fun e w' => ∃ f, e = .returned (.pointer (some ⟨f, 0, none⟩)) ∧ Fl w w' f a b 0 (Mades w w') := by
  have HR1 := Lib.hid hR1
  have HR2 := Lib.hid hR2
  have HN1 := Lib.hid hn1
  have HN2 := Lib.hid hn2
  have HLA := Lib.hid hx1
  have HLB := Lib.hid hx2
  have HX1 := Lib.hid (fun h : 0 < a.length => List.getElem?_eq_getElem h)
  have HX2 := Lib.hid (fun h : 0 < b.length => List.getElem?_eq_getElem h)
  have hf := hmf
  clear hR1 hR2 hn1 hn2 hx1 hx2
  go_enter Try.func12, Try.ntmps12
  go_wp2_with fail
  refine (NewScript_any (HR2.out.later ((Below.refl _ _).alloc (Nat.le_refl _) _)) HN2.out hl2).mono ?_
  rintro e w1 ⟨p2, q2, rfl, hs2, hp2, hq2, hb1⟩
  have HS2 := Lib.hid hs2
  have HP2 := Lib.hid hp2
  have HQ2 := Lib.hid hq2
  have HB1 := Lib.hid hb1
  have hbw : Below w.heap.size w ((w1.alloc (.cells #[.pointer (some ⟨w.heap.size, 0, none⟩)] 36)).alloc (.cells #[.pointer (some ⟨p2, 0, none⟩)] 25)) :=
    ((((Below.refl _ _).alloc (Nat.le_refl _) _).trans (hb1.mono (by simp))).alloc (by have := hb1.size; simp at this; omega) _).alloc (by have := hb1.size; simp at this ⊢; omega) _
  have HBW := Lib.hid hbw
  have c0 : ((w1.alloc (.cells #[.pointer (some ⟨w.heap.size, 0, none⟩)] 36)).alloc (.cells #[.pointer (some ⟨p2, 0, none⟩)] 25)).cell? ⟨w1.heap.size, 0, none⟩ = some (.pointer (some ⟨w.heap.size, 0, none⟩)) := cell_later ((Below.refl _ _).alloc (Nat.le_refl _) _) (cell_heap (new_heap w1 _) 0).1
  clear hs2 hp2 hq2 hb1 hbw
  go_wp2
  go_region_held3 (fun W => W.cell? ⟨w1.heap.size, 0, none⟩ = some (.pointer (some ⟨w.heap.size, 0, none⟩)))
    ((first | (with_reducible exact c0) | (exact HS.out.caps.flow.cell) | (exact HC4.out) | (exact (show _ from c0))))
    (first
      | (go_at_call 7; refine (NewScript_any (HR1.out.later HBW.out.drew) HN1.out hl1).mono ?_; rintro e w3 ⟨p1, q1, rfl, hs1, hp1, hq1, hb3⟩; have HS := Lib.hid (Set_.mk' rfl HS2.out HP2.out HQ2.out HB1.out hs1 (by simpa using hp1) (by simpa using hq1) (by have h := ((Below.refl _ _).drew.trans hb3); simpa using h)); clear hs1 hp1 hq1 hb3)
      | (go_at_call 16; refine (To_both_more HS.out.flow (by decide) HS.out.caps HS.out.fb HS.out.one HS.out.f1 HS.out.two HS.out.f2 HLA.out (HX2.out HLB.out)).mono ?_; rintro e w4 hE; have HC4 := Lib.hid (HS.out.keeps (hE.choose_spec.2.2.2.2)); have HFL := Lib.hid (HS.out.two' HLA.out HLB.out hE); have he : e = .returned (.tuple #[]) := hE.choose_spec.1; clear hE; subst he))
  all_goals (have hc4 := HC4.out; go_wp2; go_ret; exact ⟨_, rfl, HFL.out⟩)
theorem Behind_none {A1 A2 : Option Addr} {n1 n2 c1 c2 : Nat} {a b : List D} {w : World} (hR1 : Row w w.heap.size A1 (flat encD a)) (hn1 : n1 = a.length) (hR2 : Row w w.heap.size A2 (flat encD b)) (hn2 : n2 = b.length) (hl1 : n1 ≤ 1000000) (hl2 : n2 ≤ 1000000) (hx1 : ([] : List Int).length = a.length) (hx2 : ([] : List Int).length = b.length) :
    Calls Try.prog 12 #[.slice A1 n1 c1, .slice A2 n2 c2] w fun e w' => ∃ f, e = .returned (.pointer (some ⟨f, 0, none⟩)) ∧ Fl w w' f a b 0 (Mades w w') := by
  have HR1 := Lib.hid hR1
  have HR2 := Lib.hid hR2
  have HN1 := Lib.hid hn1
  have HN2 := Lib.hid hn2
  have HLA := Lib.hid hx1
  have HLB := Lib.hid hx2
  have HX1 := Lib.hid (fun h : 0 < a.length => List.getElem?_eq_getElem h)
  have HX2 := Lib.hid (fun h : 0 < b.length => List.getElem?_eq_getElem h)
  have hf := hmf
  clear hR1 hR2 hn1 hn2 hx1 hx2
  go_enter Try.func12, Try.ntmps12
  go_wp2_with fail
  refine (NewScript_any (HR2.out.later ((Below.refl _ _).alloc (Nat.le_refl _) _)) HN2.out hl2).mono ?_
  rintro e w1 ⟨p2, q2, rfl, hs2, hp2, hq2, hb1⟩
  have HS2 := Lib.hid hs2
  have HP2 := Lib.hid hp2
  have HQ2 := Lib.hid hq2
  have HB1 := Lib.hid hb1
  have hbw : Below w.heap.size w ((w1.alloc (.cells #[.pointer (some ⟨w.heap.size, 0, none⟩)] 36)).alloc (.cells #[.pointer (some ⟨p2, 0, none⟩)] 25)) :=
    ((((Below.refl _ _).alloc (Nat.le_refl _) _).trans (hb1.mono (by simp))).alloc (by have := hb1.size; simp at this; omega) _).alloc (by have := hb1.size; simp at this ⊢; omega) _
  have HBW := Lib.hid hbw
  have c0 : ((w1.alloc (.cells #[.pointer (some ⟨w.heap.size, 0, none⟩)] 36)).alloc (.cells #[.pointer (some ⟨p2, 0, none⟩)] 25)).cell? ⟨w1.heap.size, 0, none⟩ = some (.pointer (some ⟨w.heap.size, 0, none⟩)) := cell_later ((Below.refl _ _).alloc (Nat.le_refl _) _) (cell_heap (new_heap w1 _) 0).1
  clear hs2 hp2 hq2 hb1 hbw
  go_wp2
  go_region_held3 (fun W => W.cell? ⟨w1.heap.size, 0, none⟩ = some (.pointer (some ⟨w.heap.size, 0, none⟩)))
    ((first | (with_reducible exact c0) | (exact HS.out.caps.flow.cell) | (exact HC4.out) | (exact (show _ from c0))))
    (first
      | (go_at_call 7; refine (NewScript_any (HR1.out.later HBW.out.drew) HN1.out hl1).mono ?_; rintro e w3 ⟨p1, q1, rfl, hs1, hp1, hq1, hb3⟩; have HS := Lib.hid (Set_.mk' rfl HS2.out HP2.out HQ2.out HB1.out hs1 (by simpa using hp1) (by simpa using hq1) (by have h := ((Below.refl _ _).drew.trans hb3); simpa using h)); clear hs1 hp1 hq1 hb3)
      | (go_at_call 16; refine (To_both_done HS.out.flow (by decide) HS.out.caps HS.out.fb HS.out.one HS.out.f1 HS.out.two HS.out.f2 HLA.out HLB.out).mono ?_; rintro e w4 hE; have HC4 := Lib.hid (HS.out.keeps (hE.2.2)); have HFL := Lib.hid (HS.out.none' HLA.out HLB.out hE); have he : e = .returned (.tuple #[]) := hE.1; clear hE; subst he))
  all_goals (have hc4 := HC4.out; go_wp2; go_ret; exact ⟨_, rfl, HFL.out⟩)
theorem Behind_any {A1 A2 : Option Addr} {n1 n2 c1 c2 : Nat} {a b : List D} {w : World} (hR1 : Row w w.heap.size A1 (flat encD a)) (hn1 : n1 = a.length) (hR2 : Row w w.heap.size A2 (flat encD b)) (hn2 : n2 = b.length) (hl1 : n1 ≤ 1000000) (hl2 : n2 ≤ 1000000) :
    Calls Try.prog 12 #[.slice A1 n1 c1, .slice A2 n2 c2] w fun e w' => ∃ f, e = .returned (.pointer (some ⟨f, 0, none⟩)) ∧ Fl w w' f a b 0 (Mades w w') := by
  by_cases h1 : 0 < a.length
  · exact Behind_one hR1 hn1 hR2 hn2 hl1 hl2 h1 trivial
  · by_cases h2 : 0 < b.length
    · exact Behind_two hR1 hn1 hR2 hn2 hl1 hl2 (by rw [List.length_nil]; omega) h2
    · exact Behind_none hR1 hn1 hR2 hn2 hl1 hl2 (by rw [List.length_nil]; omega) (by rw [List.length_nil]; omega)
end Go.Proofs.Ythlamnghbdaaiaa.Task
