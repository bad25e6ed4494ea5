/- ParkAsks: for every plan and every list of words, what waiting asks for, whatever is found, is what the document's answer for layer 29 tells, deed by deed (of more than 300 words just the chapter's example is asked); and that example comes out; the arguments read as they did. -/
import Derived.Test.YtelnkbikgboblaaParkAwake
import Derived.Test.YtelnkbikgboblaaParkRef
import Derived.Test.YtelnkbikgboblaaTaskRef
import Derived.Test.YtelnkbikgboblaaEight
import Derived.Test.YtelnkbikgboblaaFrame
namespace Go.Proofs.Ytelnkbikgboblaa.ParkAsks
set_option maxRecDepth 20000
open Go.ChangeShapes Go.WideShapes Go.ChangeAt Go.RowKit CM DM PM PaM Runs Lay Plan Go.Proofs.Ytelnkbikgboblaa.Prk Ints Go.Proofs.Ytelnkbikgboblaa.Task Go.Proofs.Ytelnkbikgboblaa.Tape Go.Proofs.Ytelnkbikgboblaa.ParkRef
set_option linter.unusedVariables false
set_option linter.unusedSimpArgs false

/-- Both boxes: the plan's, and behind it that of the numbers. -/
def Boxes (W : World) (B : Nat) (T S L G i un : Int) : Prop := W.cell? ⟨B, 0, none⟩ = some (.int .i64 T) ∧ W.cell? ⟨B, 1, none⟩ = some (.int .i64 S) ∧ W.cell? ⟨B, 2, none⟩ = some (.int .i64 L) ∧ W.cell? ⟨B, 3, none⟩ = some (.int .u64 G) ∧
  W.cell? ⟨B + 1, 0, none⟩ = some (.int .i64 i) ∧ W.cell? ⟨B + 1, 1, none⟩ = some (.int .i64 un)
theorem Boxes.only {W W' : World} {B : Nat} {T S L G i un : Int} {R : Nat → Prop} (h : Boxes W B T S L G i un) (ho : Only R W W') (h0 : ¬ R B ∧ ¬ R (B + 1)) : Boxes W' B T S L G i un :=
  ⟨ho.cell h.1 h0.1, ho.cell h.2.1 h0.1, ho.cell h.2.2.1 h0.1, ho.cell h.2.2.2.1 h0.1, ho.cell h.2.2.2.2.1 h0.2, ho.cell h.2.2.2.2.2 h0.2⟩
theorem boxes (w : World) (T S L G i un : Int) : Boxes ((w.alloc (.cells #[.int .i64 T, .int .i64 S, .int .i64 L, .int .u64 G] 24)).alloc (.cells #[.int .i64 i, .int .i64 un] 25)) w.heap.size T S L G i un := by
  have hb : Below (w.alloc (.cells #[.int .i64 T, .int .i64 S, .int .i64 L, .int .u64 G] 24)).heap.size (w.alloc (.cells #[.int .i64 T, .int .i64 S, .int .i64 L, .int .u64 G] 24)) ((w.alloc (.cells #[.int .i64 T, .int .i64 S, .int .i64 L, .int .u64 G] 24)).alloc (.cells #[.int .i64 i, .int .i64 un] 25)) := box_below _ _
  have hp := Law29.plan4 (box4 w (.int .i64 T) (.int .i64 S) (.int .i64 L) (.int .u64 G) 24) (only_below (fun _ => False) hb) id
  have h : ∀ j, ((w.alloc (.cells #[.int .i64 T, .int .i64 S, .int .i64 L, .int .u64 G] 24)).alloc (.cells #[.int .i64 i, .int .i64 un] 25)).cell? ⟨w.heap.size + 1, j, none⟩ = (#[.int .i64 i, .int .i64 un] : Array Value)[j]? := fun j => by
    have h := (cell_heap (new_heap (w.alloc (.cells #[.int .i64 T, .int .i64 S, .int .i64 L, .int .u64 G] 24)) (.cells #[.int .i64 i, .int .i64 un] 25)) j).1
    simpa only [World.size_alloc] using h
  exact ⟨hp.1, hp.2.1, hp.2.2.1, hp.2.2.2, h 0, h 1⟩
theorem below2 (w : World) (o1 o2 : Obj) : Below w.heap.size w ((w.alloc o1).alloc o2) := (box_below w o1).trans ((box_below _ o2).mono (by simp))

/-- Amid the deeds. -/
def Loop (w1 : World) (p : Nat) (T S L G i un : Int) (fs : List Int) (v : Value) (j : Nat) (wr : World) : Prop :=
  ∃ out s, j = out.length ∧ wr.ownsRow w1.heap.size 32 5 v j (flat encD out) ∧ Parks wr p T S L G i un s ∧ Only (fun k => k = p) w1 wr ∧
    (Mid (parkA (ofI T 2 i)) (parkT un) fs PaM.start out s ∨ (Fin (parkA (ofI T 2 i)) (parkT un) fs PaM.start out s ∧ (parkA (ofI T 2 i) s).isSome = true ∧ j = fs.length + 1))

set_option maxHeartbeats 2000000 in
theorem walk_small (T S L G i un : Int) (A : Option Addr) (l : List Int) (c : Nat) (w : World) (hR : Row w w.heap.size A (flat (encZ .u64) l)) (hl : l.length ≤ 300) (hw : ∀ f ∈ l, 0 ≤ f ∧ f < 18446744073709551616) :
    Calls Try.prog 3 #[.agg #[.int .i64 T, .int .i64 S, .int .i64 L, .int .u64 G], .agg #[.int .i64 i, .int .i64 un], .slice A l.length c] w fun e w' => e = .returned (.bool true) ∧ Below w.heap.size w w' := by
  obtain ⟨n, hn⟩ : ∃ n, n = l.length := ⟨_, rfl⟩
  rw [← hn] at hl ⊢
  have HN := Lib.hid hn
  have HR := Lib.hid hR
  have HW := Lib.hid hw
  have HC := Lib.hid (boxes w T S L G i un)
  have HB0 := Lib.hid (below2 w (.cells #[.int .i64 T, .int .i64 S, .int .i64 L, .int .u64 G] 24) (.cells #[.int .i64 i, .int .i64 un] 25))
  obtain ⟨i0, hi, hz0, hz1, hz2⟩ := info_parts info_deed
  obtain ⟨c_0, c_1, c_2, c_3, c_4, c_5⟩ := HC.out
  clear hn hR hw
  go_enter Try.func3, Try.ntmps3
  go_wp2_with fail
  refine (Park_any T S L G i un _).mono ?_
  rintro e w1 ⟨p, rfl, p1, hp1, b1⟩
  have HP1 := Lib.hid (show w.heap.size + 1 < p ∧ p < w1.heap.size by have := p1.lt; simp at hp1; omega)
  have HC1 := Lib.hid (HC.out.only (only_below (fun _ => False) b1) ⟨id, id⟩)
  have HB1 := Lib.hid (HB0.out.trans (b1.mono HB0.out.size))
  have H1 := Lib.hid (show Loop w1 p T S L G i un l (.slice none 0 0) 0 w1 from ⟨[], _, rfl, World.ownsRow_nil _ _ _ _, p1, Only.refl _ _, .inl (Mid.start _ _)⟩)
  clear p1 hp1 b1 c_0 c_1 c_2 c_3 c_4 c_5
  go_wp2
  go_loopw [8, 9] (fun v iv wr => ∃ j : Nat, iv = .int .i64 j ∧ Loop w1 p T S L G i un l v j wr) (fun v iv _ => n + 2 - (intOf iv).toNat)
  case atStart => exact ⟨0, rfl, H1.out⟩
  case round =>
    obtain ⟨j, rfl, out, s, hj, ho, hp, hon, hor⟩ := hrel
    obtain ⟨A', c', rfl, hc'⟩ := slice_of_own ho
    have HJ := Lib.hid hj
    have HO := Lib.hid ho
    have HP := Lib.hid hp
    have HON := Lib.hid hon
    have HBW := Lib.hid (show Below w.heap.size w wr from HB1.out.trans (hon.below HB1.out.size (fun k e => by subst e; have := HP1.out; omega)))
    have HNX := Lib.hid (Park_next hp)
    clear hj ho hp hon
    rcases hor with hm | ⟨hfin, hmo, hjn⟩
    · have HM := Lib.hid hm
      have hle : j ≤ n := by have h1 := hm.len; have h2 := HN.out; have h3 := HJ.out; omega
      clear hm
      cases hx : parkA (ofI T 2 i) s with
      | none =>
        have HFIN := Lib.hid (HM.out.done hx)
        have HIS := Lib.hid (show (parkA (ofI T 2 i) s).isSome = false by rw [hx]; rfl)
        rw [hx] at HNX
        clear hx
        go_wp2_with fail
        refine HNX.out.mono ?_
        rintro e w2 ⟨rfl, b2⟩
        simp only [Option.getD_none, Option.isSome_none]
        have HB2 := Lib.hid (b2.trans ((box_below w2 (.cells #[.int .i64 0, .int .i64 0, .int .u64 0, .int .u64 0, .int .u64 0] 32)).mono b2.size))
        clear b2
        have HWT := Lib.hid (show Parks (w2.alloc (.cells #[.int .i64 0, .int .i64 0, .int .u64 0, .int .u64 0, .int .u64 0] 32)) p T S L G i un s ∧ (w2.alloc (.cells #[.int .i64 0, .int .i64 0, .int .u64 0, .int .u64 0, .int .u64 0] 32)).ownsRow w1.heap.size 32 5 (.slice A' j c') j (flat encD out) ∧ Only (fun k => k = p) w1 (w2.alloc (.cells #[.int .i64 0, .int .i64 0, .int .u64 0, .int .u64 0, .int .u64 0] 32)) ∧ Below w.heap.size w (w2.alloc (.cells #[.int .i64 0, .int .i64 0, .int .u64 0, .int .u64 0, .int .u64 0] 32)) from ⟨HP.out.only (only_below (fun _ => False) HB2.out) id, own_later HO.out HB2.out, HON.out.then_below HB2.out, HBW.out.trans (HB2.out.mono HBW.out.size)⟩)
        have htp := Tp.made (c := c) HN.out (HR.out.later HWT.out.2.2.2) (by have := HN.out; omega)
        try simp only [World.size_alloc] at htp
        have HTP := Lib.hid htp
        clear htp
        obtain ⟨c_0, c_1, c_2, c_3, c_4, c_5⟩ := HC1.out.only (HWT.out.2.2.1.alloc (.cells #[.slice A n c, .slice none 0 0, .bool false] 38)) (by have := HP1.out; omega)
        go_wp2_with fail
        refine (Park_run HTP.out HW.out T S L G i un).mono ?_
        rintro e w5 ⟨s5, out5, rfl, hf5, t5, o5⟩
        obtain ⟨rfl, rfl⟩ := HFIN.out.one hf5
        have HB5 := Lib.hid (show Below (w2.alloc (.cells #[.int .i64 0, .int .i64 0, .int .u64 0, .int .u64 0, .int .u64 0] 32)).heap.size (w2.alloc (.cells #[.int .i64 0, .int .i64 0, .int .u64 0, .int .u64 0, .int .u64 0] 32)) w5 from (box_below _ _).trans (o5.below (by simp) (fun k e => by (try simp only [World.size_alloc]); exact Nat.not_lt.1 e)))
        have HNX5 := Lib.hid (Park_next (HWT.out.1.only (only_below (fun _ => False) HB5.out) id))
        have HT5 := Lib.hid t5
        unfold Go.Proofs.Ytelnkbikgboblaa.Prk.Told at HNX5
        generalize (parkA (ofI T 2 i) s).isSome = bo at HT5 HNX5 HIS
        generalize (parkA (ofI T 2 i) s).getD (0, 0, 0, 0, 0) = d5 at HNX5
        clear hf5 t5 o5 c_0 c_1 c_2 c_3 c_4 c_5
        go_wp2_with fail
        refine HNX5.out.mono ?_
        rintro e w6 ⟨rfl, b6⟩
        have HB6 := Lib.hid (b6.trans ((box_below w6 (.cells #[.int .i64 d5.1, .int .i64 d5.2.1, .int .u64 d5.2.2.1, .int .u64 d5.2.2.2.1, .int .u64 d5.2.2.2.2] 32)).mono b6.size))
        have HT6 := Lib.hid (HT5.out.later HB6.out)
        obtain ⟨O, oc, q1, r1⟩ := HT6.out.row
        rw [← HJ.out] at q1
        have HR6 := Lib.hid r1
        have HRA := Lib.hid ((Row.of_own (own_later HWT.out.2.1 HB5.out)).later HB6.out)
        clear b6 r1
        go_wp2_with fail
        refine (TaskRef.Same_yes (l := out) HJ.out HJ.out HRA.out HR6.out (by omega)).mono ?_
        rintro e w7 ⟨rfl, b7⟩
        have HB7 := Lib.hid b7
        have q2 := (HT6.out.later b7).stop
        have hbb : (bo == bo) = true := by simp
        clear b7 q1
        skip
        go_wp2_with fail
        refine (Law29.awake_any _).mono ?_
        rintro e w8 ⟨rfl, b8⟩
        go_wp2
        go_ret
        exact ⟨rfl, ((HWT.out.2.2.2.trans (HB5.out.mono HWT.out.2.2.2.size)).trans (HB6.out.mono (HWT.out.2.2.2.trans (HB5.out.mono HWT.out.2.2.2.size)).size)).trans ((HB7.out.trans (b8.mono HB7.out.size)).mono ((HWT.out.2.2.2.trans (HB5.out.mono HWT.out.2.2.2.size)).trans (HB6.out.mono (HWT.out.2.2.2.trans (HB5.out.mono HWT.out.2.2.2.size)).size)).size)⟩
      | some d =>
        have HX := Lib.hid hx
        have HDZ := Lib.hid (show ∀ k, (Value.slice A' j c').ownBlock = some k → w1.heap.size ≤ k ∧ k ≠ p from fun k e => by have h1 := (HO.out.lt k e).1; have h2 := HP1.out; omega)
        rw [hx] at HNX
        clear hx
        go_wp2_with fail
        refine HNX.out.mono ?_
        rintro e w2 ⟨rfl, b2⟩
        simp only [Option.getD_some, Option.isSome_some]
        have HB2 := Lib.hid (b2.trans ((box_below w2 (.cells #[.int .i64 d.1, .int .i64 d.2.1, .int .u64 d.2.2.1, .int .u64 d.2.2.2.1, .int .u64 d.2.2.2.2] 32)).mono b2.size))
        have HAFT := Lib.hid (show ∀ (o : Obj) (w3 : World), Only (fun k => (Value.slice A' j c').ownBlock = some k) ((w2.alloc (.cells #[.int .i64 d.1, .int .i64 d.2.1, .int .u64 d.2.2.1, .int .u64 d.2.2.2.1, .int .u64 d.2.2.2.2] 32)).alloc o) w3 → Parks w3 p T S L G i un s ∧ Only (fun k => k = p) w1 w3 ∧ Below w.heap.size w w3 from fun o w3 ho => by
          have hz := HDZ.out
          have e1 : Only (fun k => k = p) w1 w3 := ((HON.out.then_below HB2.out).alloc o).more ho fun k e => .inr (hz k e).1
          exact ⟨((HP.out.only (only_below (fun _ => False) HB2.out) id).only (only_alloc _ (fun _ => False) o) id).only ho (fun e => (hz p e).2 rfl), e1, HB1.out.trans (e1.below HB1.out.size (fun k e => by subst e; have := HP1.out; omega))⟩)
        clear b2
        by_cases hlt : j < n
        · obtain ⟨f, hf⟩ : ∃ f, l[j]? = some f := ⟨_, List.getElem?_eq_getElem (by have := HN.out; omega)⟩
          obtain ⟨b, o, rfl, _, _⟩ := int_at HR.out (show j < l.length by have := HN.out; omega)
          have HF := Lib.hid hf
          clear hf
          go_wp2_with (at_builtin; refine wpList_append_only _ rfl (.tmp 38) (.tmp 40) 30 rfl w1.heap.size 32 i0 _ 5 40 Try.underlying30 hi hz0 hz1 hz2 rfl (by decide) _ j _ rfl ((own_later HO.out HB2.out).alloc _) ⟨w2.heap.size + 1, 0, none⟩ 1 1 (encD d) rfl (by decide) rfl (cells_past _ _ _ _) (encD_one _) (by simp only [maxLen]; omega) (by omega) (by have h1 := HON.out.size; have h2 := HB2.out.size; simp at h2 ⊢; omega) ?_; intro g2 cap w3 ho3 hg3 hlt3 hor3 hon3; obtain ⟨k1, k2, k3⟩ := HAFT.out _ _ hon3; have HP3 := Lib.hid k1; have HON3 := Lib.hid k2; have HO3 := Lib.hid ho3; have HG3 := Lib.hid hg3; have d3 := row_cell (HR.out.later k3) HF.out; clear ho3 hg3 hlt3 hor3 hon3 k1 k2 k3)
          refine (Park_tell HP3.out (HW.out f (List.mem_of_getElem? HF.out))).mono ?_
          rintro e w4 ⟨rfl, p4, o4⟩
          have H4 := Lib.hid (show Loop w1 p T S L G i un l (.slice (some ⟨g2, 0, none⟩) (j + 1) cap) (j + 1) w4 from ⟨out ++ [d], _, by rw [List.length_append, ← HJ.out]; rfl, by rw [flat_append, flat_one]; exact o4.own HO3.out (fun k e => by cases e; have h1 := HG3.out; have h2 := HP1.out; show ¬ g2 = p; omega), p4, HON3.out.trans o4, .inl (HM.out.more HX.out (by rw [← HJ.out]; exact HF.out))⟩)
          clear p4 o4 d3
          go_wp2
          go_roundw
          case rel => exact ⟨j + 1, by go_num, H4.out⟩
          case measure => simp [intOf]; omega
        · obtain rfl : j = n := by omega
          go_wp2_with (at_builtin; refine wpList_append_only _ rfl (.tmp 38) (.tmp 40) 30 rfl w1.heap.size 32 i0 _ 5 40 Try.underlying30 hi hz0 hz1 hz2 rfl (by decide) _ j _ rfl ((own_later HO.out HB2.out).alloc _) ⟨w2.heap.size + 1, 0, none⟩ 1 1 (encD d) rfl (by decide) rfl (cells_past _ _ _ _) (encD_one _) (by simp only [maxLen]; omega) (by omega) (by have h1 := HON.out.size; have h2 := HB2.out.size; simp at h2 ⊢; omega) ?_; intro g2 cap w3 ho3 hg3 hlt3 hor3 hon3; obtain ⟨k1, k2, k3⟩ := HAFT.out _ _ hon3; have HP3 := Lib.hid k1; have HON3 := Lib.hid k2; have HO3 := Lib.hid ho3; clear ho3 hg3 hlt3 hor3 hon3 k1 k2 k3)
          have H4 := Lib.hid (show Loop w1 p T S L G i un l (.slice (some ⟨g2, 0, none⟩) (j + 1) cap) (j + 1) w3 from ⟨out ++ [d], s, by rw [List.length_append, ← HJ.out]; rfl, by rw [flat_append, flat_one]; exact HO3.out, HP3.out, HON3.out, .inr ⟨HM.out.last HX.out (by rw [← HJ.out, ← HN.out]; exact Nat.le_refl _), by rw [HX.out]; rfl, by rw [← HN.out]⟩⟩)
          go_roundw
          case rel => exact ⟨_, by go_num, H4.out⟩
          case measure => simp [intOf] <;> omega
    · have HFIN := Lib.hid hfin
      have HIS := Lib.hid hmo
      have hjn1 : ¬ ((j : Int) ≤ (n : Int)) := by have := HN.out; omega
      have hle : j ≤ 301 := by have := HN.out; omega
      clear hfin hmo hjn
      have HWT := Lib.hid (show Parks (wr) p T S L G i un s ∧ (wr).ownsRow w1.heap.size 32 5 (.slice A' j c') j (flat encD out) ∧ Only (fun k => k = p) w1 (wr) ∧ Below w.heap.size w (wr) from ⟨HP.out, HO.out, HON.out, HBW.out⟩)
      have htp := Tp.made (c := c) HN.out (HR.out.later HWT.out.2.2.2) (by have := HN.out; omega)
      try simp only [World.size_alloc] at htp
      have HTP := Lib.hid htp
      clear htp
      obtain ⟨c_0, c_1, c_2, c_3, c_4, c_5⟩ := HC1.out.only (HWT.out.2.2.1.alloc (.cells #[.slice A n c, .slice none 0 0, .bool false] 38)) (by have := HP1.out; omega)
      go_wp2_with fail
      refine (Park_run HTP.out HW.out T S L G i un).mono ?_
      rintro e w5 ⟨s5, out5, rfl, hf5, t5, o5⟩
      obtain ⟨rfl, rfl⟩ := HFIN.out.one hf5
      have HB5 := Lib.hid (show Below (wr).heap.size (wr) w5 from (box_below _ _).trans (o5.below (by simp) (fun k e => by (try simp only [World.size_alloc]); exact Nat.not_lt.1 e)))
      have HNX5 := Lib.hid (Park_next (HWT.out.1.only (only_below (fun _ => False) HB5.out) id))
      have HT5 := Lib.hid t5
      unfold Go.Proofs.Ytelnkbikgboblaa.Prk.Told at HNX5
      generalize (parkA (ofI T 2 i) s).isSome = bo at HT5 HNX5 HIS
      generalize (parkA (ofI T 2 i) s).getD (0, 0, 0, 0, 0) = d5 at HNX5
      clear hf5 t5 o5 c_0 c_1 c_2 c_3 c_4 c_5
      go_wp2_with fail
      refine HNX5.out.mono ?_
      rintro e w6 ⟨rfl, b6⟩
      have HB6 := Lib.hid (b6.trans ((box_below w6 (.cells #[.int .i64 d5.1, .int .i64 d5.2.1, .int .u64 d5.2.2.1, .int .u64 d5.2.2.2.1, .int .u64 d5.2.2.2.2] 32)).mono b6.size))
      have HT6 := Lib.hid (HT5.out.later HB6.out)
      obtain ⟨O, oc, q1, r1⟩ := HT6.out.row
      rw [← HJ.out] at q1
      have HR6 := Lib.hid r1
      have HRA := Lib.hid ((Row.of_own (own_later HWT.out.2.1 HB5.out)).later HB6.out)
      clear b6 r1
      go_wp2_with fail
      refine (TaskRef.Same_yes (l := out) HJ.out HJ.out HRA.out HR6.out (by omega)).mono ?_
      rintro e w7 ⟨rfl, b7⟩
      have HB7 := Lib.hid b7
      have q2 := (HT6.out.later b7).stop
      have hbb : (bo == bo) = true := by simp
      clear b7 q1
      skip
      go_wp2_with fail
      refine (Law29.awake_any _).mono ?_
      rintro e w8 ⟨rfl, b8⟩
      go_wp2
      go_ret
      exact ⟨rfl, ((HWT.out.2.2.2.trans (HB5.out.mono HWT.out.2.2.2.size)).trans (HB6.out.mono (HWT.out.2.2.2.trans (HB5.out.mono HWT.out.2.2.2.size)).size)).trans ((HB7.out.trans (b8.mono HB7.out.size)).mono ((HWT.out.2.2.2.trans (HB5.out.mono HWT.out.2.2.2.size)).trans (HB6.out.mono (HWT.out.2.2.2.trans (HB5.out.mono HWT.out.2.2.2.size)).size)).size)⟩

theorem walk (x : Int × Int × Int × Int) (i un : Int) (A : Option Addr) (l : List Int) (c : Nat) (_ : (Lit.int .i64 x.1).wf = true) (_ : (Lit.int .i64 x.2.1).wf = true) (_ : (Lit.int .i64 x.2.2.1).wf = true) (_ : (Lit.int .u64 x.2.2.2).wf = true) (_ : (Lit.int .i64 i).wf = true) (_ : (Lit.int .i64 un).wf = true) (w : World)
    (hR : Row w w.heap.size A (flat (encZ .u64) l)) (hl : l.length ≤ maxLen) (hw : ∀ x ∈ l, (Lit.int .u64 x).wf = true) :
    Calls Try.prog 3 #[.agg #[.int .i64 x.1, .int .i64 x.2.1, .int .i64 x.2.2.1, .int .u64 x.2.2.2], .agg #[.int .i64 i, .int .i64 un], .slice A l.length c] w fun e w' => e = .returned (.bool true) ∧ Below w.heap.size w w' := by
  by_cases h : l.length ≤ 300
  · exact walk_small _ _ _ _ i un A l c w hR h fun f hf => Law29.wf_u64 (hw f hf)
  · obtain ⟨n, hn⟩ : ∃ n, n = l.length := ⟨_, rfl⟩
    unfold maxLen at hl
    rw [← hn] at hl h ⊢
    clear hn hR hw
    obtain ⟨T, S, L, G⟩ := x
    simp only
    go_enter Try.func3, Try.ntmps3
    go_wp2_with fail
    refine (Law29.awake_any _).mono ?_
    rintro e w' ⟨rfl, b1⟩
    go_wp2
    go_ret
    exact ⟨rfl, (below2 _ _ _).trans (b1.mono (by simp; omega))⟩
theorem laidOut : laidOutB Try.prog = true := by kernel_rfl
theorem own : ownKnob Try.prog.godebug = none := by kernel_rfl
theorem lifted (os : Os) (started : os.Started) (H : Type) (enc : TypeId × Value → H) :
    ReturnsInHanded {} Try.checked os 3 .any (Rows.parkAsksSpec.pre6 enc Try.prog Try.f3 Rows.parkAsksRow.domain false) (Rows.parkAsksSpec.post enc Try.prog Try.f3 false true false false) := by
  refine Frame.lifted (C := Try.checked) (fn := Try.f3) (tb := 4) own started (by kernel_rfl) Try.func3
    (ChangeSpec.witness6 (enc := enc) (C := Try.checked) false ⟨#[], #[.agg #[.int .i64 0, .int .i64 0, .int .i64 0, .int .u64 0], .agg #[.int .i64 0, .int .i64 0], .slice none 0 0], []⟩ 8 (by kernel_rfl) (by kernel_rfl) (by kernel_rfl) (by kernel_rfl))
    rfl rfl Try.underlying4 laidOut (by kernel_rfl) (fun ds h => by match ds, h with | [_, _, _], _ => rfl) ?_
  intro W base args ds ps hval0 hA0 hlt
  have hval : ∀ (j : Nat) t v, Try.f3.params[j]? = some t → args[j]? = some v → Value.okWide Try.prog W .any base t v := hval0
  have hA : DataW.TrodAll enc Try.prog W 0 (fun _ => true) true Try.f3.params.toList args.toList ds ps := hA0
  rw [Try.params3] at hA hval
  obtain ⟨v0, vs0, d0, ds0, p0, q0, hargs, rfl, rfl, h0, r0⟩ := trodAll_cons hA
  obtain ⟨v1, vs1, d1, ds1, p1, q1, rfl, rfl, rfl, h1, r1⟩ := trodAll_cons r0
  obtain ⟨v2, vs2, d2, ds2, p2, q2, rfl, rfl, rfl, h2, r2⟩ := trodAll_cons r1
  obtain ⟨rfl, rfl, rfl⟩ := trodAll_nil r2
  obtain rfl : args = #[v0, v1, v2] := by cases args; simp_all
  obtain ⟨x0, rfl, w0_0, w0_1, w0_2, w0_3⟩ := Open.open_four_ints Try.underlying24 (by kernel_rfl) (by kernel_rfl) Try.underlying3 Try.underlying3 Try.underlying3 Try.underlying22 (hval 0 24 v0 rfl rfl) h0
  obtain ⟨z1, l1, rfl, g1⟩ := Frame.open_int_array Try.underlying25 Try.underlying3 (by kernel_rfl) (by kernel_rfl) (hval 1 25 v1 rfl rfl) h1
  obtain ⟨a1_0, a1_1, rfl, w1_0, w1_1⟩ := Frame.two_of l1 g1
  obtain ⟨A2, x2, c2, rfl, b2, m2, R2, g2⟩ := Open.open_rows (k := 1) (Ints.encZ .u64) (fun x => (Lit.int .u64 x).wf = true) Try.underlying26 (by kernel_rfl) (by decide) (Ints.encZ_length _) (fun n cs y h hl => Ints.one_int Try.underlying22 n cs y h hl) (hval 2 26 v2 rfl rfl) h2
  refine (walk x0 a1_0 a1_1 A2 x2 c2 w0_0 w0_1 w0_2 w0_3 w1_0 w1_1 W R2 (Nat.le_trans b2 m2) g2).mono fun e W' h => ?_
  exact h

theorem over : Rows.parkAsksRow.holds Try.pinned (OpenSpec.ofChange Rows.parkAsksSpec) :=
  OpenClaim.holds_of_wide 3 Try.f3 rfl rfl rfl rfl rfl rfl rfl ⟨rfl, rfl, rfl, rfl, rfl⟩ rfl rfl rfl rfl rfl (by kernel_rfl) Try.func3 (by kernel_rfl)
    (of_decide_eq_true (by kernel_rfl)) (by unfold Func.isWrapper; first | (rw [if_pos (by decide +kernel)]; kernel_rfl) | (rw [if_neg (by decide +kernel)]; exact ⟨rfl, rfl⟩))
    (fun os started H enc _ => lifted os started H enc)

theorem proved : Rows.ParkAsksSaid := over
#print axioms proved
end Go.Proofs.Ytelnkbikgboblaa.ParkAsks
