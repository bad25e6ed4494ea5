/- Tasks in plain lists: what one asks for, told words from a list, and where it is then; done alone to a memory. No program is named. -/
import Derived.Test.YtjbfhnkjcfpfpaaDoorDeedMath
namespace Go.Proofs.YtjbfhnkjcfpfpaaDoor.Runs
open DM

section
variable {σ : Type} (ask : σ → Option D) (tell : σ → Int → σ)

/-- All deeds that are asked for, up to the one behind the last word. -/
def askL : List Int → σ → List D
  | [], s => (ask s).toList
  | f :: fs, s => match ask s with
    | none => []
    | some d => d :: askL fs (tell s f)
/-- Where the task is then. -/
def endL : List Int → σ → σ
  | [], s => s
  | f :: fs, s => match ask s with
    | none => s
    | some _ => endL fs (tell s f)

/-- Amid a run: out was asked for and told, s is next. -/
def Mid (fs : List Int) (s0 : σ) (out : List D) (s : σ) : Prop :=
  out.length ≤ fs.length ∧ askL ask tell fs s0 = out ++ askL ask tell (fs.drop out.length) s ∧ endL ask tell fs s0 = endL ask tell (fs.drop out.length) s
/-- At its end. -/
def Fin (fs : List Int) (s0 : σ) (out : List D) (s : σ) : Prop := askL ask tell fs s0 = out ∧ endL ask tell fs s0 = s

variable {ask tell} {fs : List Int} {s0 s : σ} {out : List D} {d : D} {f : Int}
theorem Mid.start (fs : List Int) (s0 : σ) : Mid ask tell fs s0 [] s0 := ⟨Nat.zero_le _, rfl, rfl⟩
theorem Mid.len (h : Mid ask tell fs s0 out s) : out.length ≤ fs.length := h.1
theorem Mid.more (h : Mid ask tell fs s0 out s) (ha : ask s = some d) (hf : fs[out.length]? = some f) : Mid ask tell fs s0 (out ++ [d]) (tell s f) := by
  obtain ⟨hlt, rfl⟩ := List.getElem?_eq_some_iff.1 hf
  obtain ⟨_, h1, h2⟩ := h
  rw [List.drop_eq_getElem_cons hlt] at h1 h2
  simp only [askL, endL, ha] at h1 h2
  refine ⟨by simp; omega, ?_, ?_⟩
  · rw [h1, List.length_append, List.length_singleton, List.append_assoc]; rfl
  · rw [h2, List.length_append, List.length_singleton]
theorem Mid.last (h : Mid ask tell fs s0 out s) (ha : ask s = some d) (hl : fs.length ≤ out.length) : Fin ask tell fs s0 (out ++ [d]) s := by
  obtain ⟨_, h1, h2⟩ := h
  rw [List.drop_eq_nil_of_le hl] at h1 h2
  simp only [askL, endL, ha] at h1 h2
  exact ⟨h1, h2⟩
theorem Mid.done (h : Mid ask tell fs s0 out s) (ha : ask s = none) : Fin ask tell fs s0 out s := by
  obtain ⟨_, h1, h2⟩ := h
  cases hd : fs.drop out.length with
  | nil =>
    rw [hd] at h1 h2
    simp only [askL, endL, ha] at h1 h2
    exact ⟨by simpa using h1, h2⟩
  | cons x xs =>
    rw [hd] at h1 h2
    simp only [askL, endL, ha] at h1 h2
    exact ⟨by simpa using h1, h2⟩
theorem Fin.one {out' : List D} {s' : σ} (h : Fin ask tell fs s0 out s) (h' : Fin ask tell fs s0 out' s') : out = out' ∧ s = s' := ⟨h.1.symm.trans h'.1, h.2.symm.trans h'.2⟩

variable (ask tell) in
/-- All that is asked for behind pre, which was asked for (and told) ahead; where the task is then. -/
def Fins (fs : List Int) (pre : List D) (s0 : σ) (out : List D) (s : σ) : Prop := pre ++ askL ask tell (fs.drop pre.length) s0 = out ∧ endL ask tell (fs.drop pre.length) s0 = s
variable (ask tell) in
/-- Amid such a run: out, of which pre is a part, was asked for and told, s is next. -/
def Amid (fs : List Int) (pre : List D) (s0 : σ) (out : List D) (s : σ) : Prop :=
  out.length ≤ fs.length ∧ pre ++ askL ask tell (fs.drop pre.length) s0 = out ++ askL ask tell (fs.drop out.length) s ∧ endL ask tell (fs.drop pre.length) s0 = endL ask tell (fs.drop out.length) s
variable {pre : List D}
theorem Amid.start {fs : List Int} {pre : List D} (h : pre.length ≤ fs.length) (s0 : σ) : Amid ask tell fs pre s0 pre s0 := ⟨h, rfl, rfl⟩
theorem Amid.len (h : Amid ask tell fs pre s0 out s) : out.length ≤ fs.length := h.1
theorem Amid.more (h : Amid ask tell fs pre s0 out s) (ha : ask s = some d) (hf : fs[out.length]? = some f) : Amid ask tell fs pre s0 (out ++ [d]) (tell s f) := by
  obtain ⟨hlt, rfl⟩ := List.getElem?_eq_some_iff.1 hf
  obtain ⟨_, h1, h2⟩ := h
  rw [List.drop_eq_getElem_cons hlt] at h1 h2
  simp only [askL, endL, ha] at h1 h2
  refine ⟨by simp; omega, ?_, ?_⟩
  · rw [h1, List.length_append, List.length_singleton, List.append_assoc]; rfl
  · rw [h2, List.length_append, List.length_singleton]
theorem Amid.last (h : Amid ask tell fs pre s0 out s) (ha : ask s = some d) (hl : fs.length ≤ out.length) : Fins ask tell fs pre s0 (out ++ [d]) s := by
  obtain ⟨_, h1, h2⟩ := h
  rw [List.drop_eq_nil_of_le hl] at h1 h2
  simp only [askL, endL, ha] at h1 h2
  exact ⟨h1, h2⟩
theorem Amid.done (h : Amid ask tell fs pre s0 out s) (ha : ask s = none) : Fins ask tell fs pre s0 out s := by
  obtain ⟨_, h1, h2⟩ := h
  cases hd : fs.drop out.length with
  | nil =>
    rw [hd] at h1 h2
    simp only [askL, endL, ha] at h1 h2
    exact ⟨by simpa using h1, h2⟩
  | cons x xs =>
    rw [hd] at h1 h2
    simp only [askL, endL, ha] at h1 h2
    exact ⟨by simpa using h1, h2⟩
theorem Fins.start (h : Fins ask tell fs [] s0 out s) : Fin ask tell fs s0 out s := h
theorem Fins.one {out' : List D} {s' : σ} (h : Fins ask tell fs pre s0 out s) (h' : Fins ask tell fs pre s0 out' s') : out = out' ∧ s = s' := ⟨h.1.symm.trans h'.1, h.2.symm.trans h'.2⟩

/-! A task that goes the steps of another one, as long as that has some. -/
section
variable {τ : Type} {askS : τ → Option D} {tellS : τ → Int → τ} {ι : τ → σ}
/-- Each step of the inner one is one of the outer one. -/
def Holds (ask : σ → Option D) (tell : σ → Int → σ) (askS : τ → Option D) (tellS : τ → Int → τ) (ι : τ → σ) : Prop := ∀ t d, askS t = some d → ask (ι t) = some d ∧ ∀ f, tell (ι t) f = ι (tellS t f)
theorem askL_in (h : Holds ask tell askS tellS ι) : ∀ (fs : List Int) (t : τ),
    (∃ d, askS (endL askS tellS fs t) = some d ∧ askL ask tell fs (ι t) = askL askS tellS fs t ∧ endL ask tell fs (ι t) = ι (endL askS tellS fs t)) ∨
    (askS (endL askS tellS fs t) = none ∧ (askL askS tellS fs t).length ≤ fs.length ∧ askL ask tell fs (ι t) = askL askS tellS fs t ++ askL ask tell (fs.drop (askL askS tellS fs t).length) (ι (endL askS tellS fs t)) ∧
      endL ask tell fs (ι t) = endL ask tell (fs.drop (askL askS tellS fs t).length) (ι (endL askS tellS fs t)))
  | [], t => by
    cases ha : askS t with
    | none => exact .inr ⟨by simp [endL, ha], by simp [askL, ha], by simp [askL, endL, ha], by simp [askL, endL, ha]⟩
    | some d => exact .inl ⟨d, by simp [endL, ha], by simp [askL, ha, (h t d ha).1], by simp [endL]⟩
  | f :: fs, t => by
    cases ha : askS t with
    | none => exact .inr ⟨by simp [endL, ha], by simp [askL, ha], by simp [askL, endL, ha], by simp [askL, endL, ha]⟩
    | some d =>
      obtain ⟨h1, h2⟩ := h t d ha
      have h3 := h2 f
      rcases askL_in h fs (tellS t f) with ⟨d', q1, q2, q3⟩ | ⟨q1, q2, q3, q4⟩
      · exact .inl ⟨d', by simpa [endL, ha] using q1, by simp [askL, ha, h1, h3, q2], by simp [endL, ha, h1, h3, q3]⟩
      · refine .inr ⟨by simpa [endL, ha] using q1, by simp [askL, ha]; exact q2, ?_, ?_⟩
        · simp [askL, endL, ha, h1, h3]; exact q3
        · simp [askL, endL, ha, h1, h3]; exact q4
/-- Behind the inner one's run the outer one is at its end, or goes on. -/
theorem Amid.inner {t : τ} (h : Amid ask tell fs pre s0 out (ι t)) (hh : Holds ask tell askS tellS ι) {out' : List D} {t' : τ} (hf : Fins askS tellS fs out t out' t') :
    ((askS t').isSome = true → Fins ask tell fs pre s0 out' (ι t')) ∧ (askS t' = none → Amid ask tell fs pre s0 out' (ι t')) := by
  obtain ⟨hl, h1, h2⟩ := h
  obtain ⟨rfl, rfl⟩ := hf
  rcases askL_in hh (fs.drop out.length) t with ⟨d, q1, q2, q3⟩ | ⟨q1, q2, q3, q4⟩
  · refine ⟨fun _ => ⟨by rw [h1, q2], by rw [h2, q3]⟩, fun e => ?_⟩
    rw [q1] at e
    cases e
  · refine ⟨fun e => ?_, fun _ => ⟨?_, ?_, ?_⟩⟩
    · rw [q1] at e
      cases e
    · rw [List.length_append]
      rw [List.length_drop] at q2
      omega
    · rw [h1, q3, List.length_append, ← List.drop_drop, List.append_assoc]
    · rw [h2, q4, List.length_append, ← List.drop_drop]
end

/-! A task that goes the steps of another one, and goes on behind its last one as soon as that is told. -/
section
variable {τ : Type} {askS : τ → Option D} {tellS : τ → Int → τ} {ι : τ → σ} {κ : σ}
/-- Each step of the inner one is one of the outer one, which stands at κ as soon as the inner one is done. -/
def Passes (ask : σ → Option D) (tell : σ → Int → σ) (askS : τ → Option D) (tellS : τ → Int → τ) (ι : τ → σ) (κ : σ) : Prop := ∀ t d, askS t = some d → ask (ι t) = some d ∧ ∀ f, tell (ι t) f = if (askS (tellS t f)).isSome then ι (tellS t f) else κ
theorem askL_pass (h : Passes ask tell askS tellS ι κ) : ∀ (fs : List Int) (t : τ) (d0 : D), askS t = some d0 →
    (∃ d, askS (endL askS tellS fs t) = some d ∧ askL ask tell fs (ι t) = askL askS tellS fs t ∧ endL ask tell fs (ι t) = ι (endL askS tellS fs t)) ∨
    (askS (endL askS tellS fs t) = none ∧ (askL askS tellS fs t).length ≤ fs.length ∧ askL ask tell fs (ι t) = askL askS tellS fs t ++ askL ask tell (fs.drop (askL askS tellS fs t).length) κ ∧
      endL ask tell fs (ι t) = endL ask tell (fs.drop (askL askS tellS fs t).length) κ)
  | [], t, d, ha => .inl ⟨d, by simp [endL, ha], by simp [askL, ha, (h t d ha).1], by simp [endL]⟩
  | f :: fs, t, d, ha => by
    obtain ⟨h1, h2⟩ := h t d ha
    have h3 := h2 f
    cases hb : askS (tellS t f) with
    | none =>
      rw [hb, Option.isSome_none, if_neg (by simp)] at h3
      have e1 : askL askS tellS fs (tellS t f) = [] := by cases fs <;> simp [askL, hb]
      have e2 : endL askS tellS fs (tellS t f) = tellS t f := by cases fs <;> simp [endL, hb]
      refine .inr ⟨by simp [endL, ha, e2, hb], by simp [askL, ha, e1], ?_, ?_⟩
      · simp [askL, ha, h1, h3, e1]
      · simp [askL, endL, ha, h1, h3, e1]
    | some d2 =>
      rw [hb, Option.isSome_some, if_pos rfl] at h3
      rcases askL_pass h fs (tellS t f) d2 hb with ⟨d', q1, q2, q3⟩ | ⟨q1, q2, q3, q4⟩
      · exact .inl ⟨d', by simpa [endL, ha] using q1, by simp [askL, ha, h1, h3, q2], by simp [endL, ha, h1, h3, q3]⟩
      · refine .inr ⟨by simpa [endL, ha] using q1, by simp [askL, ha]; exact q2, ?_, ?_⟩
        · simp [askL, ha, h1, h3]; exact q3
        · simp [askL, endL, ha, h1, h3]; exact q4
/-- Behind the inner one's run the outer one is at its end, or goes on at κ. -/
theorem Amid.pass {t : τ} {d0 : D} (h : Amid ask tell fs pre s0 out (ι t)) (hh : Passes ask tell askS tellS ι κ) (ha : askS t = some d0) {out' : List D} {t' : τ} (hf : Fins askS tellS fs out t out' t') :
    ((askS t').isSome = true → Fins ask tell fs pre s0 out' (ι t')) ∧ (askS t' = none → Amid ask tell fs pre s0 out' κ) := by
  obtain ⟨hl, h1, h2⟩ := h
  obtain ⟨rfl, rfl⟩ := hf
  rcases askL_pass hh (fs.drop out.length) t d0 ha with ⟨d, q1, q2, q3⟩ | ⟨q1, q2, q3, q4⟩
  · refine ⟨fun _ => ⟨by rw [h1, q2], by rw [h2, q3]⟩, fun e => ?_⟩
    rw [q1] at e
    cases e
  · refine ⟨fun e => ?_, fun _ => ⟨?_, ?_, ?_⟩⟩
    · rw [q1] at e
      cases e
    · rw [List.length_append]
      rw [List.length_drop] at q2
      omega
    · rw [h1, q3, List.length_append, ← List.drop_drop, List.append_assoc]
    · rw [h2, q4, List.length_append, ← List.drop_drop]
end

variable (ask tell) in
/-- Done alone, some deeds at most: the words, and where the task is then. -/
def alone : Nat → List Int → σ → List Int × σ
  | 0, l, s => (l, s)
  | k + 1, l, s => match ask s with
    | none => (l, s)
    | some d => alone k (nextD l d) (tell s (foundD l d))
theorem alone_done {k : Nat} {l : List Int} (ha : ask s = none) : alone ask tell k l s = (l, s) := by
  cases k with
  | zero => rfl
  | succ k => simp only [alone, ha]
theorem alone_more {k : Nat} {l : List Int} (ha : ask s = some d) : alone ask tell (k + 1) l s = alone ask tell k (nextD l d) (tell s (foundD l d)) := by
  simp only [alone, ha]
theorem alone_pass {τ : Type} {askS : τ → Option D} {tellS : τ → Int → τ} {ι : τ → σ} {κ : σ} (h : Passes ask tell askS tellS ι κ) : ∀ (m k : Nat) (l l' : List Int) (t t' : τ) (d0 : D), askS t = some d0 → alone askS tellS m l t = (l', t') → askS t' = none →
    ∃ j, j ≤ m ∧ alone ask tell (m + k) l (ι t) = alone ask tell (k + j) l' κ
  | 0, k, l, l', t, t', d, ha, hs, hn => by
    cases hs
    rw [ha] at hn
    cases hn
  | m + 1, k, l, l', t, t', d, ha, hs, hn => by
    obtain ⟨h1, h2⟩ := h t d ha
    rw [alone_more ha] at hs
    rw [show m + 1 + k = (m + k) + 1 by omega, alone_more h1, h2]
    cases hb : askS (tellS t (foundD l d)) with
    | none =>
      rw [alone_done hb] at hs
      cases hs
      rw [Option.isSome_none, if_neg (by simp)]
      exact ⟨m, by omega, by rw [Nat.add_comm]⟩
    | some d2 =>
      rw [Option.isSome_some, if_pos rfl]
      obtain ⟨j, hj, e⟩ := alone_pass h m k _ _ _ _ d2 hb hs hn
      exact ⟨j, by omega, e⟩
variable (ask tell) in
/-- Just k deeds, each asked for, done alone. -/
def steps : Nat → List Int → σ → Option (List Int × σ)
  | 0, l, s => some (l, s)
  | k + 1, l, s => match ask s with
    | none => none
    | some d => steps k (nextD l d) (tell s (foundD l d))
theorem steps_more {k : Nat} {l : List Int} (ha : ask s = some d) : steps ask tell (k + 1) l s = steps ask tell k (nextD l d) (tell s (foundD l d)) := by
  simp only [steps, ha]
/-- Amid just so many steps: one is asked for, as long as some are left. -/
theorem steps_amid {k : Nat} {l lf : List Int} {s sf : σ} (h : steps ask tell (k + 1) l s = some (lf, sf)) : ∃ d, ask s = some d ∧ steps ask tell k (nextD l d) (tell s (foundD l d)) = some (lf, sf) := by
  cases ha : ask s with
  | none => simp [steps, ha] at h
  | some d => exact ⟨d, rfl, by rwa [steps_more ha] at h⟩
theorem steps_pass {τ : Type} {askS : τ → Option D} {tellS : τ → Int → τ} {ι : τ → σ} {κ : σ} (h : Passes ask tell askS tellS ι κ) : ∀ (m k : Nat) (l l' : List Int) (t t' : τ) (d0 : D), askS t = some d0 → steps askS tellS m l t = some (l', t') → askS t' = none → steps ask tell (m + k) l (ι t) = steps ask tell k l' κ
  | 0, k, l, l', t, t', d, ha, hs, hn => by
    simp only [steps, Option.some.injEq, Prod.mk.injEq] at hs
    rw [← hs.2, ha] at hn
    cases hn
  | m + 1, k, l, l', t, t', d, ha, hs, hn => by
    obtain ⟨h1, h2⟩ := h t d ha
    rw [steps_more ha] at hs
    rw [show m + 1 + k = (m + k) + 1 by omega, steps_more h1, h2]
    cases hb : askS (tellS t (foundD l d)) with
    | none =>
      cases m with
      | zero =>
        simp only [steps, Option.some.injEq, Prod.mk.injEq] at hs
        rw [Option.isSome_none, if_neg (by simp), Nat.zero_add, hs.1]
      | succ m => simp [steps, hb] at hs
    | some d2 =>
      rw [Option.isSome_some, if_pos rfl]
      exact steps_pass h m k _ _ _ _ d2 hb hs hn
/-! .. and goes on behind its last one at what that one has come to. -/
section
variable {τ : Type} {askS : τ → Option D} {tellS : τ → Int → τ} {ι κ : τ → σ}
/-- Each step of the inner one is one of the outer one, which stands at κ of it as soon as the inner one is done. -/
def Leads (ask : σ → Option D) (tell : σ → Int → σ) (askS : τ → Option D) (tellS : τ → Int → τ) (ι κ : τ → σ) : Prop := ∀ t d, askS t = some d → ask (ι t) = some d ∧ ∀ f, tell (ι t) f = if (askS (tellS t f)).isSome then ι (tellS t f) else κ (tellS t f)
theorem steps_lead (h : Leads ask tell askS tellS ι κ) : ∀ (m k : Nat) (l l' : List Int) (t t' : τ) (d0 : D), askS t = some d0 → steps askS tellS m l t = some (l', t') → askS t' = none → steps ask tell (m + k) l (ι t) = steps ask tell k l' (κ t')
  | 0, k, l, l', t, t', d, ha, hs, hn => by
    simp only [steps, Option.some.injEq, Prod.mk.injEq] at hs
    rw [← hs.2, ha] at hn
    cases hn
  | m + 1, k, l, l', t, t', d, ha, hs, hn => by
    obtain ⟨h1, h2⟩ := h t d ha
    rw [steps_more ha] at hs
    rw [show m + 1 + k = (m + k) + 1 by omega, steps_more h1, h2]
    cases hb : askS (tellS t (foundD l d)) with
    | none =>
      cases m with
      | zero =>
        simp only [steps, Option.some.injEq, Prod.mk.injEq] at hs
        rw [Option.isSome_none, if_neg (by simp), Nat.zero_add, hs.1, hs.2]
      | succ m => simp [steps, hb] at hs
    | some d2 =>
      rw [Option.isSome_some, if_pos rfl]
      exact steps_lead h m k _ _ _ _ d2 hb hs hn
end
end
end Go.Proofs.YtjbfhnkjcfpfpaaDoor.Runs
