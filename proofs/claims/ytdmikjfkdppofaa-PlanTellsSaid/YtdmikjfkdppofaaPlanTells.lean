/- PlanTells: for every plan p and all numbers i and k, whether p is right, how many words there are, and where the words of thread or slot i and of level k are, are what the document's answer for layer 8 tells, and the chapter's examples come out; the arguments read as they did. No condition. -/
import Derived.Test.YtdmikjfkdppofaaPlanAwake
import Derived.Test.YtdmikjfkdppofaaPlanRef
import Derived.Test.YtdmikjfkdppofaaFour
import Derived.Test.YtdmikjfkdppofaaFrame
import Derived.Deep.RegionHeld3
import Derived.Deep.DeepCutAuto
namespace Go.Proofs.Ytdmikjfkdppofaa.PlanTells
open Go.ChangeShapes Go.WideShapes Go.ChangeAt Go.RowKit PM Lay Plan
set_option linter.unusedVariables false

theorem past {w : World} {o : Obj} (p : After (w.alloc o)) : Below (w.heap.size + 1) (w.alloc o) p.x := by
  have := p.ok
  simpa using this

theorem start {w w2 : World} (T S L G : Int) (hb : Below (w.heap.size + 1) (w.alloc (.cells #[.int .i64 T, .int .i64 S, .int .i64 L, .int .u64 G] 24)) w2) : w2.drew.cell? ⟨w.heap.size, 0, none⟩ = some (.int .i64 T) ∧ w2.drew.cell? ⟨w.heap.size, 1, none⟩ = some (.int .i64 S) ∧ w2.drew.cell? ⟨w.heap.size, 2, none⟩ = some (.int .i64 L) ∧ w2.drew.cell? ⟨w.heap.size, 3, none⟩ = some (.int .u64 G) ∧ Below (w.heap.size + 1) (w.alloc (.cells #[.int .i64 T, .int .i64 S, .int .i64 L, .int .u64 G] 24)) w2.drew :=
  have hd := hb.drew
  have ⟨a, b, c, d⟩ := box4_later hd
  ⟨a, b, c, d, hd⟩
theorem keep {w W w' : World} {T S L G : Int} (hb : Below W.heap.size W w') (h : W.cell? ⟨w.heap.size, 0, none⟩ = some (.int .i64 T) ∧ W.cell? ⟨w.heap.size, 1, none⟩ = some (.int .i64 S) ∧ W.cell? ⟨w.heap.size, 2, none⟩ = some (.int .i64 L) ∧ W.cell? ⟨w.heap.size, 3, none⟩ = some (.int .u64 G) ∧ Below (w.heap.size + 1) (w.alloc (.cells #[.int .i64 T, .int .i64 S, .int .i64 L, .int .u64 G] 24)) W) :
    w'.cell? ⟨w.heap.size, 0, none⟩ = some (.int .i64 T) ∧ w'.cell? ⟨w.heap.size, 1, none⟩ = some (.int .i64 S) ∧ w'.cell? ⟨w.heap.size, 2, none⟩ = some (.int .i64 L) ∧ w'.cell? ⟨w.heap.size, 3, none⟩ = some (.int .u64 G) ∧ Below (w.heap.size + 1) (w.alloc (.cells #[.int .i64 T, .int .i64 S, .int .i64 L, .int .u64 G] 24)) w' :=
  have hd := h.2.2.2.2.trans (hb.mono (size_past h.2.2.2.2))
  have ⟨a, b, c, d⟩ := box4_later hd
  ⟨a, b, c, d, hd⟩

theorem keep_set {w W : World} {T S L G : Int} {g j : Nat} {v : Value} (hz : w.heap.size < g) (h : W.cell? ⟨w.heap.size, 0, none⟩ = some (.int .i64 T) ∧ W.cell? ⟨w.heap.size, 1, none⟩ = some (.int .i64 S) ∧ W.cell? ⟨w.heap.size, 2, none⟩ = some (.int .i64 L) ∧ W.cell? ⟨w.heap.size, 3, none⟩ = some (.int .u64 G) ∧ Below (w.heap.size + 1) (w.alloc (.cells #[.int .i64 T, .int .i64 S, .int .i64 L, .int .u64 G] 24)) W) :
    (W.setCell ⟨g, j, none⟩ v).cell? ⟨w.heap.size, 0, none⟩ = some (.int .i64 T) ∧ (W.setCell ⟨g, j, none⟩ v).cell? ⟨w.heap.size, 1, none⟩ = some (.int .i64 S) ∧ (W.setCell ⟨g, j, none⟩ v).cell? ⟨w.heap.size, 2, none⟩ = some (.int .i64 L) ∧ (W.setCell ⟨g, j, none⟩ v).cell? ⟨w.heap.size, 3, none⟩ = some (.int .u64 G) ∧ Below (w.heap.size + 1) (w.alloc (.cells #[.int .i64 T, .int .i64 S, .int .i64 L, .int .u64 G] 24)) (W.setCell ⟨g, j, none⟩ v) :=
  have hd := h.2.2.2.2.setCell (p := ⟨g, j, none⟩) hz v
  have ⟨a, b, c, d⟩ := box4_later hd
  ⟨a, b, c, d, hd⟩
theorem keep_set2 {w W : World} {T S L G : Int} {o : Obj} (hz : w.heap.size < W.heap.size) (h : W.cell? ⟨w.heap.size, 0, none⟩ = some (.int .i64 T) ∧ W.cell? ⟨w.heap.size, 1, none⟩ = some (.int .i64 S) ∧ W.cell? ⟨w.heap.size, 2, none⟩ = some (.int .i64 L) ∧ W.cell? ⟨w.heap.size, 3, none⟩ = some (.int .u64 G) ∧ Below (w.heap.size + 1) (w.alloc (.cells #[.int .i64 T, .int .i64 S, .int .i64 L, .int .u64 G] 24)) W) :
    (W.alloc o).cell? ⟨w.heap.size, 0, none⟩ = some (.int .i64 T) ∧ (W.alloc o).cell? ⟨w.heap.size, 1, none⟩ = some (.int .i64 S) ∧ (W.alloc o).cell? ⟨w.heap.size, 2, none⟩ = some (.int .i64 L) ∧ (W.alloc o).cell? ⟨w.heap.size, 3, none⟩ = some (.int .u64 G) ∧ Below (w.heap.size + 1) (w.alloc (.cells #[.int .i64 T, .int .i64 S, .int .i64 L, .int .u64 G] 24)) (W.alloc o) := keep (box_below _ _) h
/-- A block of six cells that was made, and may be written. -/
def Made (g : Nat) (W : World) : Prop :=
  (W.cell? ⟨g, 0, none⟩ = some (.int .i64 0) ∧ W.cell? ⟨g, 1, none⟩ = some (.int .i64 0) ∧ W.cell? ⟨g, 2, none⟩ = some (.int .i64 0) ∧ W.cell? ⟨g, 3, none⟩ = some (.int .i64 0) ∧ W.cell? ⟨g, 4, none⟩ = some (.int .i64 0) ∧ W.cell? ⟨g, 5, none⟩ = some (.int .i64 0)) ∧
  (W.frozen? ⟨g, 0, none⟩ = false ∧ W.frozen? ⟨g, 1, none⟩ = false ∧ W.frozen? ⟨g, 2, none⟩ = false ∧ W.frozen? ⟨g, 3, none⟩ = false ∧ W.frozen? ⟨g, 4, none⟩ = false ∧ W.frozen? ⟨g, 5, none⟩ = false)
theorem Made.later {g : Nat} {W W' : World} (h : Made g W) (hb : Below W.heap.size W W') : Made g W' := by
  obtain ⟨⟨u0, u1, u2, u3, u4, u5⟩, ⟨v0, v1, v2, v3, v4, v5⟩⟩ := h
  have hg : g < W.heap.size := World.block_lt_of_cell? W ⟨g, 0, none⟩ u0
  exact ⟨⟨cell_later hb u0, cell_later hb u1, cell_later hb u2, cell_later hb u3, cell_later hb u4, cell_later hb u5⟩,
    ⟨(hb.frozen hg).trans v0, (hb.frozen hg).trans v1, (hb.frozen hg).trans v2, (hb.frozen hg).trans v3, (hb.frozen hg).trans v4, (hb.frozen hg).trans v5⟩⟩
theorem made_six (w : World) (t : TypeId) : Made w.heap.size (w.alloc (.cells #[.int .i64 0, .int .i64 0, .int .i64 0, .int .i64 0, .int .i64 0, .int .i64 0] t)) := by
  refine ⟨⟨?_, ?_, ?_, ?_, ?_, ?_⟩, ⟨?_, ?_, ?_, ?_, ?_, ?_⟩⟩
  all_goals first
    | (rw [cell_of_row _ _ _ _ _ _ (heap_alloc_new w _)]; rfl)
    | simp

/-- The block holds where the slot's words are. -/
def Six (T L i : Int) (g : Nat) (W : World) : Prop := ∀ j : Nat, j < 6 → W.cell? ⟨g, j, none⟩ = some (.int .i64 (atI T L i (j : Int)))
theorem Six.later {T L i : Int} {g : Nat} {W W' : World} (h : Six T L i g W) (hb : Below W.heap.size W W') : Six T L i g W' := fun j hj => cell_later hb (h j hj)
theorem six_alloc (w : World) (T L i : Int) (t : TypeId) : Six T L i w.heap.size (w.alloc (.cells #[.int .i64 (atI T L i 0), .int .i64 (atI T L i 1), .int .i64 (atI T L i 2), .int .i64 (atI T L i 3), .int .i64 (atI T L i 4), .int .i64 (atI T L i 5)] t)) := by
  intro j hj
  rw [cell_of_row _ _ _ _ _ _ (heap_alloc_new w _)]
  match j, hj with
  | 0, _ | 1, _ | 2, _ | 3, _ | 4, _ | 5, _ => rfl
theorem six_set {g : Nat} {W : World} (h : Made g W) (T L i : Int) : Six T L i g ((((((W.setCell ⟨g, 0, none⟩ (.int .i64 (atI T L i 0))).setCell ⟨g, 1, none⟩ (.int .i64 (atI T L i 1))).setCell ⟨g, 2, none⟩ (.int .i64 (atI T L i 2))).setCell ⟨g, 3, none⟩ (.int .i64 (atI T L i 3))).setCell ⟨g, 4, none⟩ (.int .i64 (atI T L i 4))).setCell ⟨g, 5, none⟩ (.int .i64 (atI T L i 5))) := by
  obtain ⟨⟨u0, u1, u2, u3, u4, u5⟩, _⟩ := h
  intro j hj
  match j, hj with
  | 0, _ | 1, _ | 2, _ | 3, _ | 4, _ | 5, _ => simp [World.cell?_setCell_same', World.cell?_setCell_other, *]

theorem six_name {T L i : Int} {g : Nat} {W : World} (h : Six T L i g W) : ∃ g', g' = g ∧ Six T L i g' W := ⟨g, rfl, h⟩

set_option maxHeartbeats 4000000 in
set_option maxRecDepth 100000 in
theorem walk_yes (T S L G i k : Int) (h : rightB T S L G = true) (w : World) :
    Calls Try.prog 3 #[.agg #[.int .i64 T, .int .i64 S, .int .i64 L, .int .u64 G], .int .i64 i, .int .i64 k] w fun e w' => e = .returned (.bool true) ∧ Below w.heap.size w w' := by
  obtain ⟨c_0, c_1, c_2, c_3⟩ := box4 w (.int .i64 T) (.int .i64 S) (.int .i64 L) (.int .u64 G) 24
  have C_0 := fun p : After (w.alloc (.cells #[.int .i64 T, .int .i64 S, .int .i64 L, .int .u64 G] 24)) => p.cell c_0
  have C_1 := fun p : After (w.alloc (.cells #[.int .i64 T, .int .i64 S, .int .i64 L, .int .u64 G] 24)) => p.cell c_1
  have C_2 := fun p : After (w.alloc (.cells #[.int .i64 T, .int .i64 S, .int .i64 L, .int .u64 G] 24)) => p.cell c_2
  have C_3 := fun p : After (w.alloc (.cells #[.int .i64 T, .int .i64 S, .int .i64 L, .int .u64 G] 24)) => p.cell c_3
  clear c_0 c_1 c_2 c_3
  have H1 := Lib.hid h
  clear h
  go_enter Try.func3, Try.ntmps3
  go_wp2
  refine wp_region_after mixed (by kernel_rfl) ?_
  repeat (first | go_big_quiet_step ((first | (with_reducible exact calls_after (Plan.Right_yes H1.out _)) | (with_reducible exact calls_after (PlanRef.Right_yes H1.out _)) | (with_reducible exact calls_after (Plan.Words_any T S L G _)) | (with_reducible exact calls_after (PlanRef.Words_any T S L G _)))) | quiet_step ((first | (with_reducible exact calls_after (Plan.Right_yes H1.out _)) | (with_reducible exact calls_after (PlanRef.Right_yes H1.out _)) | (with_reducible exact calls_after (Plan.Words_any T S L G _)) | (with_reducible exact calls_after (PlanRef.Words_any T S L G _)))))
  refine wpQuiet_nil ?_
  intro _ hw'
  obtain ⟨pq, hw''⟩ := hw'
  subst hw''
  have B1 := Lib.hid (past pq)
  generalize pq.x = w1 at B1 ⊢
  clear C_0 C_1 C_2 C_3
  obtain ⟨c_0, c_1, c_2, c_3⟩ := box4_later B1.out
  have C_0 := fun p : After w1 => p.cell c_0
  have C_1 := fun p : After w1 => p.cell c_1
  have C_2 := fun p : After w1 => p.cell c_2
  have C_3 := fun p : After w1 => p.cell c_3
  clear c_0 c_1 c_2 c_3
  go_wp2
  refine wp_region_after mixed (by kernel_rfl) ?_
  repeat (first | go_big_quiet_step ((first | (with_reducible exact calls_after (Plan.Pin_any T S L G i _)) | (with_reducible exact calls_after (PlanRef.Pin_any T S L G i _)) | (with_reducible exact calls_after (Plan.Sleep_any T S L G i _)) | (with_reducible exact calls_after (PlanRef.Sleep_any T S L G i _)) | (with_reducible exact calls_after (Plan.Sem_any T S L G i _)) | (with_reducible exact calls_after (PlanRef.Sem_any T S L G i _)) | (with_reducible exact calls_after (Plan.Next_any T S L G i k _)) | (with_reducible exact calls_after (PlanRef.Next_any T S L G i k _)))) | quiet_step ((first | (with_reducible exact calls_after (Plan.Pin_any T S L G i _)) | (with_reducible exact calls_after (PlanRef.Pin_any T S L G i _)) | (with_reducible exact calls_after (Plan.Sleep_any T S L G i _)) | (with_reducible exact calls_after (PlanRef.Sleep_any T S L G i _)) | (with_reducible exact calls_after (Plan.Sem_any T S L G i _)) | (with_reducible exact calls_after (PlanRef.Sem_any T S L G i _)) | (with_reducible exact calls_after (Plan.Next_any T S L G i k _)) | (with_reducible exact calls_after (PlanRef.Next_any T S L G i k _)))))
  refine wpQuiet_nil ?_
  intro _ hw'
  obtain ⟨pq, hw''⟩ := hw'
  subst hw''
  have B2 := Lib.hid (B1.out.trans (pq.ok.mono (size_past B1.out)))
  generalize pq.x = w2 at B2 ⊢
  clear C_0 C_1 C_2 C_3
  have Z2 := size_past B2.out
  obtain ⟨c_0, c_1, c_2, c_3⟩ := box4_later B2.out
  go_upto_region 5 with fail
  go_cut [7] (fun s7 wx => ∃ g : Nat, s7 = .pointer (some ⟨g, 0, none⟩) ∧ Six T L i g wx ∧ Below (w.heap.size + 1) (w.alloc (.cells #[.int .i64 T, .int .i64 S, .int .i64 L, .int .u64 G] 24)) wx)
  case first =>
    go_region_held3 (fun W => W.cell? ⟨w.heap.size, 0, none⟩ = some (.int .i64 T) ∧ W.cell? ⟨w.heap.size, 1, none⟩ = some (.int .i64 S) ∧ W.cell? ⟨w.heap.size, 2, none⟩ = some (.int .i64 L) ∧ W.cell? ⟨w.heap.size, 3, none⟩ = some (.int .u64 G) ∧ Below (w.heap.size + 1) (w.alloc (.cells #[.int .i64 T, .int .i64 S, .int .i64 L, .int .u64 G] 24)) W)
        ((first | (with_reducible exact start T S L G B2.out) | (with_reducible exact HS3.out) | (with_reducible exact keep_set hza (keep_set hza (keep_set hza (keep_set hza (keep_set hza (keep_set hza HS3.out)))))) | (with_reducible exact keep (box_below _ _) HS3.out) | (with_reducible exact keep (box_below _ _) (start T S L G B2.out)) | (with_reducible exact keep_set2 hz3 HS3.out)))
        (first
          | (go_at_call 17; (with_reducible refine (Plan.State_any T S L G i (w2.alloc (.cells #[.int .i64 0, .int .i64 0, .int .i64 0, .int .i64 0, .int .i64 0, .int .i64 0] 31)).drew).mono ?_); have hza := Z2; rintro e w4 ⟨rfl, hb⟩; have HA := Lib.hid (((made_six w2 31).later (Below.refl _ _).drew).later hb); have HS3 := Lib.hid (keep hb (by assumption)); clear hb)
          | (go_at_call 17; (with_reducible refine (Plan.State_any T S L G i (w2.drew.alloc (.cells #[.int .i64 0, .int .i64 0, .int .i64 0, .int .i64 0, .int .i64 0, .int .i64 0] 31))).mono ?_); have hza := Z2; rintro e w4 ⟨rfl, hb⟩; have HA := Lib.hid ((made_six w2.drew 31).later hb); have HS3 := Lib.hid (keep hb (by assumption)); clear hb)
          | (go_at_call 17; refine (Plan.State_any T S L G i _).mono ?_; rintro e w3 ⟨rfl, hb⟩; have HA := Lib.hid (HA.out.later hb); have HS3 := Lib.hid (keep hb (by assumption)); clear hb)
          | (go_at_call 17; refine (Plan.State_any T S L G i _).mono ?_; rintro e w3 ⟨rfl, hb⟩; have HS3 := Lib.hid (keep hb (by assumption)); have hz3 := size_past HS3.out.2.2.2.2; clear hb)
          | (go_at_call 18; (with_reducible refine (Plan.Dead_any T S L G i (w3.alloc (.cells #[.int .i64 0, .int .i64 0, .int .i64 0, .int .i64 0, .int .i64 0, .int .i64 0] 31))).mono ?_); have hza := hz3; rintro e w4 ⟨rfl, hb⟩; have HA := Lib.hid ((made_six w3 31).later hb); have HS3 := Lib.hid (keep hb (by assumption)); clear hb)
          | (go_at_call 18; refine (Plan.Dead_any T S L G i _).mono ?_; rintro e w3 ⟨rfl, hb⟩; have HA := Lib.hid (HA.out.later hb); have HS3 := Lib.hid (keep hb (by assumption)); clear hb)
          | (go_at_call 18; refine (Plan.Dead_any T S L G i _).mono ?_; rintro e w3 ⟨rfl, hb⟩; have HS3 := Lib.hid (keep hb (by assumption)); have hz3 := size_past HS3.out.2.2.2.2; clear hb)
          | (go_at_call 19; (with_reducible refine (Plan.Seq_any T S L G i (w3.alloc (.cells #[.int .i64 0, .int .i64 0, .int .i64 0, .int .i64 0, .int .i64 0, .int .i64 0] 31))).mono ?_); have hza := hz3; rintro e w4 ⟨rfl, hb⟩; have HA := Lib.hid ((made_six w3 31).later hb); have HS3 := Lib.hid (keep hb (by assumption)); clear hb)
          | (go_at_call 19; refine (Plan.Seq_any T S L G i _).mono ?_; rintro e w3 ⟨rfl, hb⟩; have HA := Lib.hid (HA.out.later hb); have HS3 := Lib.hid (keep hb (by assumption)); clear hb)
          | (go_at_call 19; refine (Plan.Seq_any T S L G i _).mono ?_; rintro e w3 ⟨rfl, hb⟩; have HS3 := Lib.hid (keep hb (by assumption)); have hz3 := size_past HS3.out.2.2.2.2; clear hb)
          | (go_at_call 20; (with_reducible refine (Plan.Tall_any T S L G i (w3.alloc (.cells #[.int .i64 0, .int .i64 0, .int .i64 0, .int .i64 0, .int .i64 0, .int .i64 0] 31))).mono ?_); have hza := hz3; rintro e w4 ⟨rfl, hb⟩; have HA := Lib.hid ((made_six w3 31).later hb); have HS3 := Lib.hid (keep hb (by assumption)); clear hb)
          | (go_at_call 20; refine (Plan.Tall_any T S L G i _).mono ?_; rintro e w3 ⟨rfl, hb⟩; have HA := Lib.hid (HA.out.later hb); have HS3 := Lib.hid (keep hb (by assumption)); clear hb)
          | (go_at_call 20; refine (Plan.Tall_any T S L G i _).mono ?_; rintro e w3 ⟨rfl, hb⟩; have HS3 := Lib.hid (keep hb (by assumption)); have hz3 := size_past HS3.out.2.2.2.2; clear hb)
          | (go_at_call 21; (with_reducible refine (Plan.Hold_any T S L G i (w3.alloc (.cells #[.int .i64 0, .int .i64 0, .int .i64 0, .int .i64 0, .int .i64 0, .int .i64 0] 31))).mono ?_); have hza := hz3; rintro e w4 ⟨rfl, hb⟩; have HA := Lib.hid ((made_six w3 31).later hb); have HS3 := Lib.hid (keep hb (by assumption)); clear hb)
          | (go_at_call 21; refine (Plan.Hold_any T S L G i _).mono ?_; rintro e w3 ⟨rfl, hb⟩; have HA := Lib.hid (HA.out.later hb); have HS3 := Lib.hid (keep hb (by assumption)); clear hb)
          | (go_at_call 21; refine (Plan.Hold_any T S L G i _).mono ?_; rintro e w3 ⟨rfl, hb⟩; have HS3 := Lib.hid (keep hb (by assumption)); have hz3 := size_past HS3.out.2.2.2.2; clear hb)
          | (go_at_call 22; (with_reducible refine (Plan.Succ_any T S L G i (w3.alloc (.cells #[.int .i64 0, .int .i64 0, .int .i64 0, .int .i64 0, .int .i64 0, .int .i64 0] 31))).mono ?_); have hza := hz3; rintro e w4 ⟨rfl, hb⟩; have HA := Lib.hid ((made_six w3 31).later hb); have HS3 := Lib.hid (keep hb (by assumption)); clear hb; obtain ⟨⟨u0, u1, u2, u3, u4, u5⟩, ⟨v0, v1, v2, v3, v4, v5⟩⟩ := HA.out)
          | (go_at_call 22; refine (Plan.Succ_any T S L G i _).mono ?_; rintro e w3 ⟨rfl, hb⟩; have HA := Lib.hid (HA.out.later hb); have HS3 := Lib.hid (keep hb (by assumption)); clear hb; obtain ⟨⟨u0, u1, u2, u3, u4, u5⟩, ⟨v0, v1, v2, v3, v4, v5⟩⟩ := HA.out)
          | (go_at_call 22; refine (Plan.Succ_any T S L G i _).mono ?_; rintro e w3 ⟨rfl, hb⟩; have HS3 := Lib.hid (keep hb (by assumption)); have hz3 := size_past HS3.out.2.2.2.2; clear hb))
    all_goals
      rename_i hh
      have HP := Lib.hid hh.2.2.2.2
      first
        | have HX := Lib.hid (six_set HA.out T L i)
        | have HX := Lib.hid (six_alloc w3 T L i 31)
      clear hh
      go_wp2_with fail
      go_meet
      case rel => exact ⟨_, rfl, HX.out, HP.out⟩
  case rest =>
    obtain ⟨g, rfl, hx0, hp0⟩ := hcut
    have HX0 := Lib.hid hx0
    have HP0 := Lib.hid hp0
    clear hx0 hp0
    go_wp2
    go_loopw [8] (fun n wr => ∃ k : Nat, k ≤ 6 ∧ n = .int .i64 k ∧ Six T L i g wr ∧ Below (w.heap.size + 1) (w.alloc (.cells #[.int .i64 T, .int .i64 S, .int .i64 L, .int .u64 G] 24)) wr)
      (fun n _ => 6 - (intOf n).toNat)
    case atStart => exact ⟨0, Nat.zero_le _, rfl, HX0.out, HP0.out⟩
    case round =>
      obtain ⟨m, hm, rfl, hx, hp⟩ := hrel
      have HX := Lib.hid hx
      have HQ := Lib.hid hp
      by_cases hlt : m < 6
      · obtain ⟨c_0, c_1, c_2, c_3⟩ := box4_later HQ.out
        have d := hx m hlt
        have C_0 := fun p : After wr => p.cell c_0
        have C_1 := fun p : After wr => p.cell c_1
        have C_2 := fun p : After wr => p.cell c_2
        have C_3 := fun p : After wr => p.cell c_3
        have D := fun p : After wr => p.cell d
        have hi : (0 : Int) ≤ (m : Int) := by omega
        clear c_0 c_1 c_2 c_3 d hx hp
        go_wp2
        refine wp_region_after mixed (by kernel_rfl) ?_
        repeat (first | go_big_quiet_step (exact calls_after (PlanRef.Slot_any T S L G i (m : Int) _)) | quiet_step (exact calls_after (PlanRef.Slot_any T S L G i (m : Int) _)))
        refine wpQuiet_nil ?_
        intro _ hw'
        obtain ⟨pq, hw''⟩ := hw'
        subst hw''
        go_wp2
        go_roundw
        case rel => exact ⟨m + 1, by omega, by go_num, HX.out.later pq.ok, HQ.out.trans (pq.ok.mono (size_past HQ.out))⟩
        case measure => simp [intOf]; omega
      · clear hx hp
        go_wp2_with fail
        refine (Law08.awake_any _).mono ?_
        rintro e w' ⟨rfl, hb⟩
        go_wp2
        go_ret
        exact ⟨rfl, below_past (HQ.out.trans (hb.mono (size_past HQ.out)))⟩
set_option maxHeartbeats 4000000 in
set_option maxRecDepth 100000 in
theorem walk_no (T S L G i k : Int) (h : rightB T S L G = false) (w : World) :
    Calls Try.prog 3 #[.agg #[.int .i64 T, .int .i64 S, .int .i64 L, .int .u64 G], .int .i64 i, .int .i64 k] w fun e w' => e = .returned (.bool true) ∧ Below w.heap.size w w' := by
  obtain ⟨c_0, c_1, c_2, c_3⟩ := box4 w (.int .i64 T) (.int .i64 S) (.int .i64 L) (.int .u64 G) 24
  have C_0 := fun p : After (w.alloc (.cells #[.int .i64 T, .int .i64 S, .int .i64 L, .int .u64 G] 24)) => p.cell c_0
  have C_1 := fun p : After (w.alloc (.cells #[.int .i64 T, .int .i64 S, .int .i64 L, .int .u64 G] 24)) => p.cell c_1
  have C_2 := fun p : After (w.alloc (.cells #[.int .i64 T, .int .i64 S, .int .i64 L, .int .u64 G] 24)) => p.cell c_2
  have C_3 := fun p : After (w.alloc (.cells #[.int .i64 T, .int .i64 S, .int .i64 L, .int .u64 G] 24)) => p.cell c_3
  clear c_0 c_1 c_2 c_3
  have H1 := Lib.hid h
  clear h
  go_enter Try.func3, Try.ntmps3
  go_wp2
  refine wp_region_after mixed (by kernel_rfl) ?_
  repeat (first | go_big_quiet_step ((first | (with_reducible exact calls_after (Plan.Right_no H1.out _)) | (with_reducible exact calls_after (PlanRef.Right_no H1.out _)) | (with_reducible exact calls_after (Plan.Words_any T S L G _)) | (with_reducible exact calls_after (PlanRef.Words_any T S L G _)))) | quiet_step ((first | (with_reducible exact calls_after (Plan.Right_no H1.out _)) | (with_reducible exact calls_after (PlanRef.Right_no H1.out _)) | (with_reducible exact calls_after (Plan.Words_any T S L G _)) | (with_reducible exact calls_after (PlanRef.Words_any T S L G _)))))
  refine wpQuiet_nil ?_
  intro _ hw'
  obtain ⟨pq, hw''⟩ := hw'
  subst hw''
  have B1 := Lib.hid (past pq)
  generalize pq.x = w1 at B1 ⊢
  clear C_0 C_1 C_2 C_3
  obtain ⟨c_0, c_1, c_2, c_3⟩ := box4_later B1.out
  have C_0 := fun p : After w1 => p.cell c_0
  have C_1 := fun p : After w1 => p.cell c_1
  have C_2 := fun p : After w1 => p.cell c_2
  have C_3 := fun p : After w1 => p.cell c_3
  clear c_0 c_1 c_2 c_3
  go_wp2
  refine wp_region_after mixed (by kernel_rfl) ?_
  repeat (first | go_big_quiet_step ((first | (with_reducible exact calls_after (Plan.Pin_any T S L G i _)) | (with_reducible exact calls_after (PlanRef.Pin_any T S L G i _)) | (with_reducible exact calls_after (Plan.Sleep_any T S L G i _)) | (with_reducible exact calls_after (PlanRef.Sleep_any T S L G i _)) | (with_reducible exact calls_after (Plan.Sem_any T S L G i _)) | (with_reducible exact calls_after (PlanRef.Sem_any T S L G i _)) | (with_reducible exact calls_after (Plan.Next_any T S L G i k _)) | (with_reducible exact calls_after (PlanRef.Next_any T S L G i k _)))) | quiet_step ((first | (with_reducible exact calls_after (Plan.Pin_any T S L G i _)) | (with_reducible exact calls_after (PlanRef.Pin_any T S L G i _)) | (with_reducible exact calls_after (Plan.Sleep_any T S L G i _)) | (with_reducible exact calls_after (PlanRef.Sleep_any T S L G i _)) | (with_reducible exact calls_after (Plan.Sem_any T S L G i _)) | (with_reducible exact calls_after (PlanRef.Sem_any T S L G i _)) | (with_reducible exact calls_after (Plan.Next_any T S L G i k _)) | (with_reducible exact calls_after (PlanRef.Next_any T S L G i k _)))))
  refine wpQuiet_nil ?_
  intro _ hw'
  obtain ⟨pq, hw''⟩ := hw'
  subst hw''
  have B2 := Lib.hid (B1.out.trans (pq.ok.mono (size_past B1.out)))
  generalize pq.x = w2 at B2 ⊢
  clear C_0 C_1 C_2 C_3
  have Z2 := size_past B2.out
  obtain ⟨c_0, c_1, c_2, c_3⟩ := box4_later B2.out
  go_upto_region 5 with fail
  go_cut [7] (fun s7 wx => ∃ g : Nat, s7 = .pointer (some ⟨g, 0, none⟩) ∧ Six T L i g wx ∧ Below (w.heap.size + 1) (w.alloc (.cells #[.int .i64 T, .int .i64 S, .int .i64 L, .int .u64 G] 24)) wx)
  case first =>
    go_region_held3 (fun W => W.cell? ⟨w.heap.size, 0, none⟩ = some (.int .i64 T) ∧ W.cell? ⟨w.heap.size, 1, none⟩ = some (.int .i64 S) ∧ W.cell? ⟨w.heap.size, 2, none⟩ = some (.int .i64 L) ∧ W.cell? ⟨w.heap.size, 3, none⟩ = some (.int .u64 G) ∧ Below (w.heap.size + 1) (w.alloc (.cells #[.int .i64 T, .int .i64 S, .int .i64 L, .int .u64 G] 24)) W)
        ((first | (with_reducible exact start T S L G B2.out) | (with_reducible exact HS3.out) | (with_reducible exact keep_set hza (keep_set hza (keep_set hza (keep_set hza (keep_set hza (keep_set hza HS3.out)))))) | (with_reducible exact keep (box_below _ _) HS3.out) | (with_reducible exact keep (box_below _ _) (start T S L G B2.out)) | (with_reducible exact keep_set2 hz3 HS3.out)))
        (first
          | (go_at_call 17; (with_reducible refine (Plan.State_any T S L G i (w2.alloc (.cells #[.int .i64 0, .int .i64 0, .int .i64 0, .int .i64 0, .int .i64 0, .int .i64 0] 31)).drew).mono ?_); have hza := Z2; rintro e w4 ⟨rfl, hb⟩; have HA := Lib.hid (((made_six w2 31).later (Below.refl _ _).drew).later hb); have HS3 := Lib.hid (keep hb (by assumption)); clear hb)
          | (go_at_call 17; (with_reducible refine (Plan.State_any T S L G i (w2.drew.alloc (.cells #[.int .i64 0, .int .i64 0, .int .i64 0, .int .i64 0, .int .i64 0, .int .i64 0] 31))).mono ?_); have hza := Z2; rintro e w4 ⟨rfl, hb⟩; have HA := Lib.hid ((made_six w2.drew 31).later hb); have HS3 := Lib.hid (keep hb (by assumption)); clear hb)
          | (go_at_call 17; refine (Plan.State_any T S L G i _).mono ?_; rintro e w3 ⟨rfl, hb⟩; have HA := Lib.hid (HA.out.later hb); have HS3 := Lib.hid (keep hb (by assumption)); clear hb)
          | (go_at_call 17; refine (Plan.State_any T S L G i _).mono ?_; rintro e w3 ⟨rfl, hb⟩; have HS3 := Lib.hid (keep hb (by assumption)); have hz3 := size_past HS3.out.2.2.2.2; clear hb)
          | (go_at_call 18; (with_reducible refine (Plan.Dead_any T S L G i (w3.alloc (.cells #[.int .i64 0, .int .i64 0, .int .i64 0, .int .i64 0, .int .i64 0, .int .i64 0] 31))).mono ?_); have hza := hz3; rintro e w4 ⟨rfl, hb⟩; have HA := Lib.hid ((made_six w3 31).later hb); have HS3 := Lib.hid (keep hb (by assumption)); clear hb)
          | (go_at_call 18; refine (Plan.Dead_any T S L G i _).mono ?_; rintro e w3 ⟨rfl, hb⟩; have HA := Lib.hid (HA.out.later hb); have HS3 := Lib.hid (keep hb (by assumption)); clear hb)
          | (go_at_call 18; refine (Plan.Dead_any T S L G i _).mono ?_; rintro e w3 ⟨rfl, hb⟩; have HS3 := Lib.hid (keep hb (by assumption)); have hz3 := size_past HS3.out.2.2.2.2; clear hb)
          | (go_at_call 19; (with_reducible refine (Plan.Seq_any T S L G i (w3.alloc (.cells #[.int .i64 0, .int .i64 0, .int .i64 0, .int .i64 0, .int .i64 0, .int .i64 0] 31))).mono ?_); have hza := hz3; rintro e w4 ⟨rfl, hb⟩; have HA := Lib.hid ((made_six w3 31).later hb); have HS3 := Lib.hid (keep hb (by assumption)); clear hb)
          | (go_at_call 19; refine (Plan.Seq_any T S L G i _).mono ?_; rintro e w3 ⟨rfl, hb⟩; have HA := Lib.hid (HA.out.later hb); have HS3 := Lib.hid (keep hb (by assumption)); clear hb)
          | (go_at_call 19; refine (Plan.Seq_any T S L G i _).mono ?_; rintro e w3 ⟨rfl, hb⟩; have HS3 := Lib.hid (keep hb (by assumption)); have hz3 := size_past HS3.out.2.2.2.2; clear hb)
          | (go_at_call 20; (with_reducible refine (Plan.Tall_any T S L G i (w3.alloc (.cells #[.int .i64 0, .int .i64 0, .int .i64 0, .int .i64 0, .int .i64 0, .int .i64 0] 31))).mono ?_); have hza := hz3; rintro e w4 ⟨rfl, hb⟩; have HA := Lib.hid ((made_six w3 31).later hb); have HS3 := Lib.hid (keep hb (by assumption)); clear hb)
          | (go_at_call 20; refine (Plan.Tall_any T S L G i _).mono ?_; rintro e w3 ⟨rfl, hb⟩; have HA := Lib.hid (HA.out.later hb); have HS3 := Lib.hid (keep hb (by assumption)); clear hb)
          | (go_at_call 20; refine (Plan.Tall_any T S L G i _).mono ?_; rintro e w3 ⟨rfl, hb⟩; have HS3 := Lib.hid (keep hb (by assumption)); have hz3 := size_past HS3.out.2.2.2.2; clear hb)
          | (go_at_call 21; (with_reducible refine (Plan.Hold_any T S L G i (w3.alloc (.cells #[.int .i64 0, .int .i64 0, .int .i64 0, .int .i64 0, .int .i64 0, .int .i64 0] 31))).mono ?_); have hza := hz3; rintro e w4 ⟨rfl, hb⟩; have HA := Lib.hid ((made_six w3 31).later hb); have HS3 := Lib.hid (keep hb (by assumption)); clear hb)
          | (go_at_call 21; refine (Plan.Hold_any T S L G i _).mono ?_; rintro e w3 ⟨rfl, hb⟩; have HA := Lib.hid (HA.out.later hb); have HS3 := Lib.hid (keep hb (by assumption)); clear hb)
          | (go_at_call 21; refine (Plan.Hold_any T S L G i _).mono ?_; rintro e w3 ⟨rfl, hb⟩; have HS3 := Lib.hid (keep hb (by assumption)); have hz3 := size_past HS3.out.2.2.2.2; clear hb)
          | (go_at_call 22; (with_reducible refine (Plan.Succ_any T S L G i (w3.alloc (.cells #[.int .i64 0, .int .i64 0, .int .i64 0, .int .i64 0, .int .i64 0, .int .i64 0] 31))).mono ?_); have hza := hz3; rintro e w4 ⟨rfl, hb⟩; have HA := Lib.hid ((made_six w3 31).later hb); have HS3 := Lib.hid (keep hb (by assumption)); clear hb; obtain ⟨⟨u0, u1, u2, u3, u4, u5⟩, ⟨v0, v1, v2, v3, v4, v5⟩⟩ := HA.out)
          | (go_at_call 22; refine (Plan.Succ_any T S L G i _).mono ?_; rintro e w3 ⟨rfl, hb⟩; have HA := Lib.hid (HA.out.later hb); have HS3 := Lib.hid (keep hb (by assumption)); clear hb; obtain ⟨⟨u0, u1, u2, u3, u4, u5⟩, ⟨v0, v1, v2, v3, v4, v5⟩⟩ := HA.out)
          | (go_at_call 22; refine (Plan.Succ_any T S L G i _).mono ?_; rintro e w3 ⟨rfl, hb⟩; have HS3 := Lib.hid (keep hb (by assumption)); have hz3 := size_past HS3.out.2.2.2.2; clear hb))
    all_goals
      rename_i hh
      have HP := Lib.hid hh.2.2.2.2
      first
        | have HX := Lib.hid (six_set HA.out T L i)
        | have HX := Lib.hid (six_alloc w3 T L i 31)
      clear hh
      go_wp2_with fail
      go_meet
      case rel => exact ⟨_, rfl, HX.out, HP.out⟩
  case rest =>
    obtain ⟨g, rfl, hx0, hp0⟩ := hcut
    have HX0 := Lib.hid hx0
    have HP0 := Lib.hid hp0
    clear hx0 hp0
    go_wp2
    go_loopw [8] (fun n wr => ∃ k : Nat, k ≤ 6 ∧ n = .int .i64 k ∧ Six T L i g wr ∧ Below (w.heap.size + 1) (w.alloc (.cells #[.int .i64 T, .int .i64 S, .int .i64 L, .int .u64 G] 24)) wr)
      (fun n _ => 6 - (intOf n).toNat)
    case atStart => exact ⟨0, Nat.zero_le _, rfl, HX0.out, HP0.out⟩
    case round =>
      obtain ⟨m, hm, rfl, hx, hp⟩ := hrel
      have HX := Lib.hid hx
      have HQ := Lib.hid hp
      by_cases hlt : m < 6
      · obtain ⟨c_0, c_1, c_2, c_3⟩ := box4_later HQ.out
        have d := hx m hlt
        have C_0 := fun p : After wr => p.cell c_0
        have C_1 := fun p : After wr => p.cell c_1
        have C_2 := fun p : After wr => p.cell c_2
        have C_3 := fun p : After wr => p.cell c_3
        have D := fun p : After wr => p.cell d
        have hi : (0 : Int) ≤ (m : Int) := by omega
        clear c_0 c_1 c_2 c_3 d hx hp
        go_wp2
        refine wp_region_after mixed (by kernel_rfl) ?_
        repeat (first | go_big_quiet_step (exact calls_after (PlanRef.Slot_any T S L G i (m : Int) _)) | quiet_step (exact calls_after (PlanRef.Slot_any T S L G i (m : Int) _)))
        refine wpQuiet_nil ?_
        intro _ hw'
        obtain ⟨pq, hw''⟩ := hw'
        subst hw''
        go_wp2
        go_roundw
        case rel => exact ⟨m + 1, by omega, by go_num, HX.out.later pq.ok, HQ.out.trans (pq.ok.mono (size_past HQ.out))⟩
        case measure => simp [intOf]; omega
      · clear hx hp
        go_wp2_with fail
        refine (Law08.awake_any _).mono ?_
        rintro e w' ⟨rfl, hb⟩
        go_wp2
        go_ret
        exact ⟨rfl, below_past (HQ.out.trans (hb.mono (size_past HQ.out)))⟩
theorem walk (x : Int × Int × Int × Int) (i k : Int) (_ : (Lit.int .i64 x.1).wf = true) (_ : (Lit.int .i64 x.2.1).wf = true) (_ : (Lit.int .i64 x.2.2.1).wf = true) (_ : (Lit.int .u64 x.2.2.2).wf = true) (_ : (Lit.int .i64 i).wf = true) (_ : (Lit.int .i64 k).wf = true) (w : World) :
    Calls Try.prog 3 #[.agg #[.int .i64 x.1, .int .i64 x.2.1, .int .i64 x.2.2.1, .int .u64 x.2.2.2], .int .i64 i, .int .i64 k] w fun e w' => e = .returned (.bool true) ∧ Below w.heap.size w w' := by
  cases h : rightB x.1 x.2.1 x.2.2.1 x.2.2.2
  · exact walk_no _ _ _ _ i k h w
  · exact walk_yes _ _ _ _ i k h w
theorem laidOut : laidOutB Try.prog = true := by kernel_rfl
theorem own : ownKnob Try.prog.godebug = none := by kernel_rfl
theorem lifted (os : Os) (started : os.Started) (H : Type) (enc : TypeId × Value → H) :
    ReturnsInHanded {} Try.checked os 3 .any (Rows.planTellsSpec.pre6 enc Try.prog Try.f3 Rows.planTellsRow.domain false) (Rows.planTellsSpec.post enc Try.prog Try.f3 false true false false) := by
  refine Frame.lifted (C := Try.checked) (fn := Try.f3) (tb := 4) own started (by kernel_rfl) Try.func3
    (ChangeSpec.witness6 (enc := enc) (C := Try.checked) false ⟨#[], #[.agg #[.int .i64 0, .int .i64 0, .int .i64 0, .int .u64 0], .int .i64 0, .int .i64 0], []⟩ 8 (by kernel_rfl) (by kernel_rfl) (by kernel_rfl) (by kernel_rfl))
    rfl rfl Try.underlying4 laidOut (by kernel_rfl) (fun ds h => by match ds, h with | [_, _, _], _ => rfl) ?_
  intro W base args ds ps hval0 hA0 hlt
  have hval : ∀ (j : Nat) t v, Try.f3.params[j]? = some t → args[j]? = some v → Value.okWide Try.prog W .any base t v := hval0
  have hA : DataW.TrodAll enc Try.prog W 0 (fun _ => true) true Try.f3.params.toList args.toList ds ps := hA0
  rw [Try.params3] at hA hval
  obtain ⟨v0, vs0, d0, ds0, p0, q0, hargs, rfl, rfl, h0, r0⟩ := trodAll_cons hA
  obtain ⟨v1, vs1, d1, ds1, p1, q1, rfl, rfl, rfl, h1, r1⟩ := trodAll_cons r0
  obtain ⟨v2, vs2, d2, ds2, p2, q2, rfl, rfl, rfl, h2, r2⟩ := trodAll_cons r1
  obtain ⟨rfl, rfl, rfl⟩ := trodAll_nil r2
  obtain rfl : args = #[v0, v1, v2] := by cases args; simp_all
  obtain ⟨x0, rfl, w0_0, w0_1, w0_2, w0_3⟩ := Open.open_four_ints Try.underlying24 (by kernel_rfl) (by kernel_rfl) Try.underlying3 Try.underlying3 Try.underlying3 Try.underlying22 (hval 0 24 v0 rfl rfl) h0
  obtain ⟨a1, rfl, _, _, w1⟩ := open_int Try.underlying3 (hval 1 3 v1 rfl rfl) h1
  obtain ⟨a2, rfl, _, _, w2⟩ := open_int Try.underlying3 (hval 2 3 v2 rfl rfl) h2
  refine (walk x0 a1 a2 w0_0 w0_1 w0_2 w0_3 w1 w2 W).mono fun e W' h => ?_
  exact h

theorem over : Rows.planTellsRow.holds Try.pinned (OpenSpec.ofChange Rows.planTellsSpec) :=
  OpenClaim.holds_of_wide 3 Try.f3 rfl rfl rfl rfl rfl rfl rfl ⟨rfl, rfl, rfl, rfl, rfl⟩ rfl rfl rfl rfl rfl (by kernel_rfl) Try.func3 (by kernel_rfl)
    (of_decide_eq_true (by kernel_rfl)) (by unfold Func.isWrapper; first | (rw [if_pos (by decide +kernel)]; kernel_rfl) | (rw [if_neg (by decide +kernel)]; exact ⟨rfl, rfl⟩))
    (fun os started H enc _ => lifted os started H enc)

theorem proved : Rows.PlanTellsSaid := over
#print axioms proved
end Go.Proofs.Ytdmikjfkdppofaa.PlanTells
