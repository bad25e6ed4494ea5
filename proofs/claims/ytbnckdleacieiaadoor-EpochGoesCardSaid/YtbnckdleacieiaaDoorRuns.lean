/- Tasks in plain lists: what one asks for, told words from a list, and where it is then; done alone to a memory. No program is named. -/
import Derived.Test.YtbnckdleacieiaaDoorDeedMath
namespace Go.Proofs.YtbnckdleacieiaaDoor.Runs
open DM

section
variable {σ : Type} (ask : σ → Option D) (tell : σ → Int → σ)

/-- All deeds that are asked for, up to the one behind the last word. -/
def askL : List Int → σ → List D
  | [], s => (ask s).toList
  | f :: fs, s => match ask s with
    | none => []
    | some d => d :: askL fs (tell s f)
/-- Where the task is then. -/
def endL : List Int → σ → σ
  | [], s => s
  | f :: fs, s => match ask s with
    | none => s
    | some _ => endL fs (tell s f)

/-- Amid a run: out was asked for and told, s is next. -/
def Mid (fs : List Int) (s0 : σ) (out : List D) (s : σ) : Prop :=
  out.length ≤ fs.length ∧ askL ask tell fs s0 = out ++ askL ask tell (fs.drop out.length) s ∧ endL ask tell fs s0 = endL ask tell (fs.drop out.length) s
/-- At its end. -/
def Fin (fs : List Int) (s0 : σ) (out : List D) (s : σ) : Prop := askL ask tell fs s0 = out ∧ endL ask tell fs s0 = s

variable {ask tell} {fs : List Int} {s0 s : σ} {out : List D} {d : D} {f : Int}
theorem Mid.start (fs : List Int) (s0 : σ) : Mid ask tell fs s0 [] s0 := ⟨Nat.zero_le _, rfl, rfl⟩
theorem Mid.len (h : Mid ask tell fs s0 out s) : out.length ≤ fs.length := h.1
theorem Mid.more (h : Mid ask tell fs s0 out s) (ha : ask s = some d) (hf : fs[out.length]? = some f) : Mid ask tell fs s0 (out ++ [d]) (tell s f) := by
  obtain ⟨hlt, rfl⟩ := List.getElem?_eq_some_iff.1 hf
  obtain ⟨_, h1, h2⟩ := h
  rw [List.drop_eq_getElem_cons hlt] at h1 h2
  simp only [askL, endL, ha] at h1 h2
  refine ⟨by simp; omega, ?_, ?_⟩
  · rw [h1, List.length_append, List.length_singleton, List.append_assoc]; rfl
  · rw [h2, List.length_append, List.length_singleton]
theorem Mid.last (h : Mid ask tell fs s0 out s) (ha : ask s = some d) (hl : fs.length ≤ out.length) : Fin ask tell fs s0 (out ++ [d]) s := by
  obtain ⟨_, h1, h2⟩ := h
  rw [List.drop_eq_nil_of_le hl] at h1 h2
  simp only [askL, endL, ha] at h1 h2
  exact ⟨h1, h2⟩
theorem Mid.done (h : Mid ask tell fs s0 out s) (ha : ask s = none) : Fin ask tell fs s0 out s := by
  obtain ⟨_, h1, h2⟩ := h
  cases hd : fs.drop out.length with
  | nil =>
    rw [hd] at h1 h2
    simp only [askL, endL, ha] at h1 h2
    exact ⟨by simpa using h1, h2⟩
  | cons x xs =>
    rw [hd] at h1 h2
    simp only [askL, endL, ha] at h1 h2
    exact ⟨by simpa using h1, h2⟩
theorem Fin.one {out' : List D} {s' : σ} (h : Fin ask tell fs s0 out s) (h' : Fin ask tell fs s0 out' s') : out = out' ∧ s = s' := ⟨h.1.symm.trans h'.1, h.2.symm.trans h'.2⟩

variable (ask tell) in
/-- Done alone, some deeds at most: the words, and where the task is then. -/
def alone : Nat → List Int → σ → List Int × σ
  | 0, l, s => (l, s)
  | k + 1, l, s => match ask s with
    | none => (l, s)
    | some d => alone k (nextD l d) (tell s (foundD l d))
theorem alone_done {k : Nat} {l : List Int} (ha : ask s = none) : alone ask tell k l s = (l, s) := by
  cases k with
  | zero => rfl
  | succ k => simp only [alone, ha]
theorem alone_more {k : Nat} {l : List Int} (ha : ask s = some d) : alone ask tell (k + 1) l s = alone ask tell k (nextD l d) (tell s (foundD l d)) := by
  simp only [alone, ha]
end
end Go.Proofs.YtbnckdleacieiaaDoor.Runs
