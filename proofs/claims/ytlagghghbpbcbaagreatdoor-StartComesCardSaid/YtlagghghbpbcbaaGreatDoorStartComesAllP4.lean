import Derived.Test.YtlagghghbpbcbaaGreatDoorStartComesAllP1
import Derived.Test.YtlagghghbpbcbaaGreatDoorStartComesAllP3
import Derived.Test.YtlagghghbpbcbaaGreatDoorStartComesAllP2
/- A timer that is made, in plain arithmetic: what its maker asks for, and where it is then. No program is named. -/
namespace Go.Proofs.YtlagghghbpbcbaaGreatDoor.MiM
open DM PM CM Runs
set_option linter.unusedVariables false

/-- A maker: how many deeds are done, what it stores as the state, the timer's reference, its number. -/
structure St where
  k : Nat
  sa : Int
  r : Int
  sq : Int
/-- What it asks for: T and L the plan's numbers, i the slot, dw and tw the deadline and the height as words. -/
def minA (T L i dw tw : Int) (s : St) : Option D :=
  match s.k with
  | 0 => some (1, atI T L i 0, 0, 0, 0)
  | 1 => some (2, atI T L i 0, s.sa, 0, 0)
  | 2 => some (4, 2, 1, 0, 0)
  | 3 => some (2, atI T L i 1, dw, 0, s.r)
  | 4 => some (2, atI T L i 2, s.sq, 0, s.r)
  | 5 => some (2, atI T L i 3, tw, 0, s.r)
  | 6 => some (2, atI T L i 4, 2, 0, s.r)
  | _ => none
def minT (i : Int) (s : St) (f : Int) : St :=
  match s.k with
  | 0 => ⟨1, SM.stI (f / 4294967296) 1, RM.ofI (f / 4294967296) i, s.sq⟩
  | 1 => ⟨2, s.sa, s.r, s.sq⟩
  | 2 => ⟨3, s.sa, s.r, f⟩
  | 3 => ⟨4, s.sa, s.r, s.sq⟩
  | 4 => ⟨5, s.sa, s.r, s.sq⟩
  | 5 => ⟨6, s.sa, s.r, s.sq⟩
  | 6 => ⟨7, s.sa, s.r, s.sq⟩
  | _ => s
/-- The timer, when it is made. -/
def refI (s : St) : Int := if s.k = 7 then s.r else 0
def keyI (dl : Int) (s : St) : Int × Int := if s.k = 7 then (dl, s.sq) else (0, 0)
def Word (x : Int) : Prop := 0 ≤ x ∧ x < 18446744073709551616
def Ok (s : St) : Prop := s.k ≤ 7 ∧ Word s.sa ∧ Word s.r ∧ Word s.sq
theorem ref_done {sa r sq : Int} : refI ⟨7, sa, r, sq⟩ = r := if_pos rfl
theorem key_done {dl sa r sq : Int} : keyI dl ⟨7, sa, r, sq⟩ = (dl, sq) := if_pos rfl
theorem ref_not {s : St} (h : s.k < 7) : refI s = 0 := if_neg (by omega)
theorem key_not {dl : Int} {s : St} (h : s.k < 7) : keyI dl s = (0, 0) := if_neg (by omega)
theorem word_zero : Word 0 := ⟨by omega, by omega⟩
theorem ofI_word {g i : Int} (h : 0 ≤ g) : Word (RM.ofI g i) := by
  unfold Word RM.ofI
  split <;> omega
theorem ok_new : Ok ⟨0, 0, 0, 0⟩ := ⟨by simp, word_zero, word_zero, word_zero⟩
/-- How many deeds are done, one by one. -/
theorem k_cases {s : St} (h : Ok s) : s.k = 0 ∨ s.k = 1 ∨ s.k = 2 ∨ s.k = 3 ∨ s.k = 4 ∨ s.k = 5 ∨ s.k = 6 ∨ s.k = 7 := by
  have := h.1
  omega
theorem minT_ok {i f : Int} {s : St} (h : Ok s) (hf : Word f) : Ok (minT i s f) := by
  have hc := k_cases h
  obtain ⟨h1, h2, h3, h4⟩ := h
  obtain ⟨k, sa, r, sq⟩ := s
  simp only at hc h1 h2 h3 h4
  rcases hc with rfl | rfl | rfl | rfl | rfl | rfl | rfl | rfl
  · exact ⟨by show 1 ≤ 7; omega, ⟨SM.stI_lo _ _, SM.stI_hi _ _⟩, ofI_word (by unfold Word at hf; omega), h4⟩
  · exact ⟨by show 2 ≤ 7; omega, h2, h3, h4⟩
  · exact ⟨by show 3 ≤ 7; omega, h2, h3, hf⟩
  · exact ⟨by show 4 ≤ 7; omega, h2, h3, h4⟩
  · exact ⟨by show 5 ≤ 7; omega, h2, h3, h4⟩
  · exact ⟨by show 6 ≤ 7; omega, h2, h3, h4⟩
  · exact ⟨by show 7 ≤ 7; omega, h2, h3, h4⟩
  · exact ⟨h1, h2, h3, h4⟩
theorem minA_none {T L i dw tw : Int} {s : St} (h : s.k = 7) : minA T L i dw tw s = none := by
  obtain ⟨k, sa, r, sq⟩ := s
  subst h
  rfl
theorem minA_some {T L i dw tw : Int} {s : St} (h : s.k < 7) : ∃ d, minA T L i dw tw s = some d := by
  obtain ⟨k, sa, r, sq⟩ := s
  simp only at h
  have hc : k = 0 ∨ k = 1 ∨ k = 2 ∨ k = 3 ∨ k = 4 ∨ k = 5 ∨ k = 6 := by omega
  rcases hc with rfl | rfl | rfl | rfl | rfl | rfl | rfl <;> exact ⟨_, rfl⟩
end Go.Proofs.YtlagghghbpbcbaaGreatDoor.MiM

/- A timer that is brought in, and one that is started, in plain arithmetic: what an inserter, a starter asks for, and what it becomes. No program is named. -/
namespace Go.Proofs.YtlagghghbpbcbaaGreatDoor.InM
set_option maxRecDepth 20000
open DM PM CM KM Runs
open MiM (minA minT)
open LiM (linkA linkT)
open LfM (liftA liftT)
open StM (settleA settleT)
open WkM (wakeA wakeT)
open PiM (pinA pinT)
open PoM (popA popT popI)
open Go.RowKit (wrap64)
set_option linter.unusedVariables false
set_option linter.unusedSimpArgs false

/-- An inserter: at which of its steps it is; m: its timer. -/
inductive St where
  | mint (m : MiM.St)
  | link (m : MiM.St) (s : LiM.St)
  | live (m : MiM.St) (s : LiM.St)
  | lift (m : MiM.St) (s : LfM.St)
  | settle (m : MiM.St) (s : StM.St)
  | wake (m : MiM.St) (s : WkM.St)
def start : St := .mint ⟨0, 0, 0, 0⟩
def insA (T L i dw tw : Int) : St → Option D
  | .mint m => minA T L i dw tw m
  | .link m s => linkA T L m.r s
  | .live m s => some (2, atI T L i 0, SM.stI (m.r / 4294967296) 2, 0, 0)
  | .lift m s => liftA T L m.r s
  | .settle m s => settleA T L m.r s
  | .wake m s => wakeA T s
/-- Amid an inner task, or behind it. -/
def onM (T L i dw tw : Int) (m : MiM.St) : St := if (minA T L i dw tw m).isSome then .mint m else .link m (LiM.begin L 0)
def onK (T L : Int) (m : MiM.St) (s : LiM.St) : St := if (linkA T L m.r s).isSome then .link m s else .live m s
def onF (T L : Int) (m : MiM.St) (s : LfM.St) : St := if (liftA T L m.r s).isSome then .lift m s else .settle m StM.new
def onS (T L : Int) (m : MiM.St) (s : StM.St) : St := if (settleA T L m.r s).isSome then .settle m s else .wake m WkM.start
def insT (T L i dl dw tw tall : Int) : St → Int → St
  | .mint m, f => onM T L i dw tw (minT i m f)
  | .link m s, f => onK T L m (linkT L dl m.sq tall s f)
  | .live m s, f => onF T L m (LfM.reach tall 1 0 s.ps s.ss)
  | .lift m s, f => onF T L m (liftT L dl m.sq tall s f)
  | .settle m s, f => onS T L m (settleT L dl m.sq s f)
  | .wake m s, f => .wake m (wakeT T dl s f)
/-- Whether its timer lives; its reference. -/
def livesB : St → Bool
  | .lift _ _ => true
  | .settle _ _ => true
  | .wake _ _ => true
  | _ => false
def refS : St → Int
  | .mint m => m.r
  | .link m _ => m.r
  | .live m _ => m.r
  | .lift m _ => m.r
  | .settle m _ => m.r
  | .wake m _ => m.r
/-- What comes into the limbo when it is told a word. -/
def retS (L dl : Int) (m : MiM.St) (s : StM.St) : Option (Int × Int) := if s.st = 0 ∧ s.wt = true then some (m.r, s.ep) else none
def retI (L dl : Int) : St → Int → Option (Int × Int)
  | .settle m s, f => retS L dl m (settleT L dl m.sq s f)
  | _, _ => none
/-- A timer that is made. -/
def Done (m : MiM.St) : Prop := MiM.Ok m ∧ m.k = 7
/-- Such an inserter as there can be, told k words at most. -/
def Ok (T L tall : Int) (k : Nat) : St → Prop
  | .mint m => MiM.Ok m ∧ m.k < 7
  | .link m s => Done m ∧ LiM.Ok L tall k s ∧ ¬ s.st = 0
  | .live m s => Done m ∧ LiM.Ok L tall k s ∧ s.st = 0
  | .lift m s => Done m ∧ LfM.Ok L tall k s ∧ ¬ s.st = 0
  | .settle m s => Done m ∧ StM.Ok L k s ∧ ¬ s.st = 0
  | .wake m s => Done m ∧ WkM.Ok T s
theorem some_ne {o : Option D} (h : ¬ o = none) : o.isSome = true := by cases o with | none => exact absurd rfl h | some x => rfl
section
variable {T L i dl dw tw tall r f : Int} {k : Nat}
theorem link_none {s : LiM.St} (h : LiM.Ok L tall k s) : linkA T L r s = none ↔ s.st = 0 := by
  obtain ⟨st, lv, sk, ps, ss⟩ := s
  have h0 := h.st
  have h1 := h.look
  simp only at h0 h1
  rcases h0 with rfl | rfl | rfl | rfl
  · simp [LiM.linkA_0]
  · rw [LiM.linkA_1, seekA_none h.ok]
    exact ⟨fun e => absurd e (h1 rfl).1, fun e => absurd e (show ¬ (1 : Int) = 0 by decide)⟩
  · simp [LiM.linkA_2]
  · simp [LiM.linkA_3]
theorem lift_none {s : LfM.St} (h : LfM.Ok L tall k s) : liftA T L r s = none ↔ s.st = 0 := by
  obtain ⟨st, lv, wy, un, ps, ss⟩ := s
  have h0 := h.st
  have h1 := h.un
  simp only at h0 h1
  cases un with
  | some q =>
    obtain ⟨a, b, c, d⟩ := h1 q rfl
    rw [LfM.liftA_s, seekA_none a]
    exact ⟨fun e => absurd e c, fun e => absurd (d.symm.trans e) (by decide)⟩
  | none =>
    rcases h0 with rfl | rfl | rfl | rfl
    · simp [LfM.liftA_0]
    · simp [LfM.liftA_1]
    · simp [LfM.liftA_2]
    · simp [LfM.liftA_3]
theorem settle_none {s : StM.St} (h : StM.Ok L k s) : settleA T L r s = none ↔ s.st = 0 := by
  obtain ⟨st, sk, ep, wt⟩ := s
  have h0 := h.st
  have h1 := h.look
  simp only at h0 h1
  rcases h0 with rfl | rfl | rfl | rfl
  · simp [StM.settleA_0]
  · simp [StM.settleA_1]
  · rw [StM.settleA_2, seekA_none (h1 rfl).2]
    exact ⟨fun e => absurd e (h1 rfl).1, fun e => absurd e (show ¬ (2 : Int) = 0 by decide)⟩
  · simp [StM.settleA_3]
theorem mint_none {m : MiM.St} (h : MiM.Ok m) : minA T L i dw tw m = none ↔ m.k = 7 := by
  constructor
  · intro e
    by_cases h7 : m.k < 7
    · obtain ⟨d, hd⟩ := MiM.minA_some (T := T) (L := L) (i := i) (dw := dw) (tw := tw) h7
      rw [hd] at e; cases e
    · have := h.1; omega
  · exact MiM.minA_none
theorem new_some : (settleA T L r StM.new).isSome = true := by unfold StM.new; rw [StM.settleA_1]; rfl
theorem new_step : settleA T L r StM.new = some (4, atI T L (idx r) 4, 18446744073709551615, 0, r) := by unfold StM.new; exact StM.settleA_1
theorem begin_step (hL : 1 ≤ L ∧ L ≤ 9223372036854775807) : ∃ x, linkA T L r (LiM.begin L 0) = some x := by
  unfold LiM.begin
  rw [LiM.linkA_1]
  exact Option.ne_none_iff_exists'.1 fun e => by
    have := (seekA_none (anew_ok (k := 0) (by omega) (by omega) (by omega))).1 e
    unfold anew at this
    rw [desc_on (by omega)] at this
    simp at this
theorem wake_step (hT : 1 ≤ T) : wakeA T WkM.start = some (1, ofI T 1 0, 0, 0, 0) := WkM.wakeA_look (by omega)
theorem onM_more {m : MiM.St} (h : m.k < 7) : onM T L i dw tw m = .mint m := by
  obtain ⟨d, hd⟩ := MiM.minA_some (T := T) (L := L) (i := i) (dw := dw) (tw := tw) h
  unfold onM; rw [hd]; rfl
theorem onM_done {m : MiM.St} (h : m.k = 7) : onM T L i dw tw m = .link m (LiM.begin L 0) := by
  unfold onM; rw [MiM.minA_none h]; rfl
theorem onK_more {m : MiM.St} {s : LiM.St} (h : LiM.Ok L tall k s) (h0 : ¬ s.st = 0) : onK T L m s = .link m s := if_pos (some_ne fun e => h0 ((link_none h).1 e))
theorem onK_done {m : MiM.St} {s : LiM.St} (h : LiM.Ok L tall k s) (h0 : s.st = 0) : onK T L m s = .live m s := by unfold onK; rw [(link_none h).2 h0]; rfl
theorem onF_more {m : MiM.St} {s : LfM.St} (h : LfM.Ok L tall k s) (h0 : ¬ s.st = 0) : onF T L m s = .lift m s := if_pos (some_ne fun e => h0 ((lift_none h).1 e))
theorem onF_done {m : MiM.St} {s : LfM.St} (h : LfM.Ok L tall k s) (h0 : s.st = 0) : onF T L m s = .settle m StM.new := by unfold onF; rw [(lift_none h).2 h0]; rfl
theorem onS_more {m : MiM.St} {s : StM.St} (h : StM.Ok L k s) (h0 : ¬ s.st = 0) : onS T L m s = .settle m s := if_pos (some_ne fun e => h0 ((settle_none h).1 e))
theorem onS_done {m : MiM.St} {s : StM.St} (h : StM.Ok L k s) (h0 : s.st = 0) : onS T L m s = .wake m WkM.start := by unfold onS; rw [(settle_none h).2 h0]; rfl
theorem Ok.up {k' : Nat} {s : St} (h : Ok T L tall k s) (hk : k ≤ k') : Ok T L tall k' s := by
  cases s with
  | mint m => exact h
  | link m s => exact ⟨h.1, h.2.1.up hk, h.2.2⟩
  | live m s => exact ⟨h.1, h.2.1.up hk, h.2.2⟩
  | lift m s => exact ⟨h.1, h.2.1.up hk, h.2.2⟩
  | settle m s => exact ⟨h.1, h.2.1.up hk, h.2.2⟩
  | wake m s => exact h
theorem start_ok : Ok T L tall k start := ⟨MiM.ok_new, by decide⟩
theorem live_reach {s : LiM.St} (h : LiM.Ok L tall k s) (hk : k ≤ 1000000) (h0 : s.st = 0) (j : Nat) : LfM.Ok L tall j (LfM.reach tall 1 0 s.ps s.ss) := by
  have h1 := h.len (by rw [h0]; decide)
  have h2 := h.few
  exact LfM.reach_ok ⟨by decide, by decide⟩ ⟨by decide, by decide⟩ h.ps h.ss (by omega) (by omega)
theorem onF_ok {m : MiM.St} {s : LfM.St} (hm : Done m) (h : LfM.Ok L tall k s) : Ok T L tall k (onF T L m s) := by
  by_cases e : s.st = 0
  · rw [onF_done h e]; exact ⟨hm, StM.new_ok, by decide⟩
  · rw [onF_more h e]; exact ⟨hm, h, e⟩
theorem insT_ok {s : St} (h : Ok T L tall k s) (hL : 1 ≤ L ∧ L ≤ 9223372036854775807) (hk : k + 1 ≤ 1000000) (hf : Word f) : Ok T L tall (k + 1) (insT T L i dl dw tw tall s f) := by
  cases s with
  | mint m =>
    obtain ⟨h1, h2⟩ := h
    have h3 := MiM.minT_ok (i := i) h1 hf
    by_cases e : (minT i m f).k = 7
    · show Ok T L tall (k + 1) (onM T L i dw tw _)
      rw [onM_done e]
      exact ⟨⟨h3, e⟩, LiM.begin_ok hL.1 hL.2 ⟨by omega, by omega⟩, by unfold LiM.begin; simp⟩
    · have e7 : (minT i m f).k < 7 := by have := h3.1; omega
      show Ok T L tall (k + 1) (onM T L i dw tw _)
      rw [onM_more e7]
      exact ⟨h3, e7⟩
  | link m s =>
    obtain ⟨h1, h2, h3⟩ := h
    have h4 := LiM.linkT_ok (dl := dl) (sq := m.sq) h2 hL.1 hL.2 hf
    show Ok T L tall (k + 1) (onK T L m _)
    by_cases e : (linkT L dl m.sq tall s f).st = 0
    · rw [onK_done h4 e]; exact ⟨h1, h4, e⟩
    · rw [onK_more h4 e]; exact ⟨h1, h4, e⟩
  | live m s =>
    obtain ⟨h1, h2, h3⟩ := h
    exact onF_ok h1 (live_reach h2 (by omega) h3 _)
  | lift m s =>
    obtain ⟨h1, h2, h3⟩ := h
    exact onF_ok h1 (LfM.liftT_ok h2 hL.1 hL.2 hk hf)
  | settle m s =>
    obtain ⟨h1, h2, h3⟩ := h
    have h4 := StM.settleT_ok (dl := dl) (sq := m.sq) h2 hL.2 hf
    show Ok T L tall (k + 1) (onS T L m _)
    by_cases e : (settleT L dl m.sq s f).st = 0
    · rw [onS_done h4 e]; exact ⟨h1, WkM.start_ok T⟩
    · rw [onS_more h4 e]; exact ⟨h1, h4, e⟩
  | wake m s => exact ⟨h.1, WkM.wakeT_ok h.2⟩
/-! Each inner task's steps are the inserter's. -/
theorem mint_leads : Leads (insA T L i dw tw) (insT T L i dl dw tw tall) (minA T L i dw tw) (minT i) St.mint fun m => .link m (LiM.begin L 0) := fun t d hd => ⟨hd, fun f => rfl⟩
theorem link_leads (m : MiM.St) : Leads (insA T L i dw tw) (insT T L i dl dw tw tall) (linkA T L m.r) (linkT L dl m.sq tall) (St.link m) (St.live m) := fun t d hd => ⟨hd, fun f => rfl⟩
theorem lift_leads (m : MiM.St) : Leads (insA T L i dw tw) (insT T L i dl dw tw tall) (liftA T L m.r) (liftT L dl m.sq tall) (St.lift m) fun _ => .settle m StM.new := fun t d hd => ⟨hd, fun f => rfl⟩
theorem wake_holds (m : MiM.St) : Holds (insA T L i dw tw) (insT T L i dl dw tw tall) (wakeA T) (wakeT T dl) (St.wake m) := fun t d hd => ⟨hd, fun f => rfl⟩
end
end Go.Proofs.YtlagghghbpbcbaaGreatDoor.InM

/- A timer that is started, in plain arithmetic: what a starter asks for, what it becomes, what it answers, and what it did. No program is named. -/
namespace Go.Proofs.YtlagghghbpbcbaaGreatDoor.SrM
set_option maxRecDepth 20000
open DM PM CM KM Runs
open InM (insA insT livesB refS some_ne)
open PiM (pinA pinT)
open PoM (popA popT popI)
set_option linter.unusedVariables false
set_option linter.unusedSimpArgs false

/-- Where a starter stands: it pins, it takes a slot, it brings its timer in (in the slot i), it leaves, it is done. -/
inductive At where
  | pin (s : PiM.St)
  | pop (s : PoM.St)
  | ins (i : Int) (s : InM.St)
  | leave (s : PiM.St)
  | idle
/-- A starter: how many deeds it counted, its acts, its answer (an error, whether it is one with a handle, the handle). -/
structure St where
  pl : At
  n : Nat
  acts : List (Int × Int × Int × Int)
  err : Int
  ok : Bool
  hd : Int
/-- The handle of an inserter's timer. -/
def handS (s : InM.St) : Int := if livesB s = true then WaM.handI (refS s) else 0
def goA (T L dw tw : Int) : At → Option D
  | .pin s => pinA s
  | .pop s => popA T L s
  | .ins i s => insA T L i dw tw s
  | .leave s => pinA s
  | .idle => none
def stA (T L dw tw : Int) (s : St) : Option D := goA T L dw tw s.pl
/-- Leaving, with what is answered then. -/
def out (T th : Int) (n : Nat) (acts : List (Int × Int × Int × Int)) (err : Int) (ok : Bool) (hd : Int) : St := ⟨.leave ⟨2, ofI T 0 th, 0⟩, n, acts, err, ok, hd⟩
/-- Whether its timer lives; its handle. -/
def livesP (s : St) : Bool := match s.pl with
  | .ins _ t => livesB t
  | .leave _ => s.ok
  | .idle => s.ok
  | _ => false
def handP (s : St) : Int := match s.pl with
  | .ins _ t => handS t
  | _ => s.hd
/-- What its flow becomes when it is told a word. -/
def flT (T L th dl dw tw tall : Int) (s : St) (f : Int) : St := match s.pl with
  | .pin t => if (pinA (pinT t f)).isSome then ⟨.pin (pinT t f), s.n, s.acts, s.err, s.ok, s.hd⟩ else ⟨.pop ⟨1, 0, 0⟩, s.n, s.acts, s.err, s.ok, s.hd⟩
  | .pop t => if (popA T L (popT t f)).isSome then ⟨.pop (popT t f), s.n, s.acts, s.err, s.ok, s.hd⟩ else
      if popI (popT t f) = 0 then out T th s.n (s.acts ++ [(5, 0, 0, (s.n : Int))]) 3 s.ok s.hd else ⟨.ins (popI (popT t f)) InM.start, s.n, s.acts, s.err, s.ok, s.hd⟩
  | .ins i t => if (insA T L i dw tw (insT T L i dl dw tw tall t f)).isSome then ⟨.ins i (insT T L i dl dw tw tall t f), s.n, s.acts, s.err, s.ok, s.hd⟩ else out T th s.n s.acts s.err true (handS (insT T L i dl dw tw tall t f))
  | .leave t => if (pinA (pinT t f)).isSome then ⟨.leave (pinT t f), s.n, s.acts, s.err, s.ok, s.hd⟩ else ⟨.idle, s.n, s.acts, s.err, s.ok, s.hd⟩
  | .idle => s
/-- One deed more is counted; an act is noted. -/
def count (s : St) : St := ⟨s.pl, s.n + 1, s.acts, s.err, s.ok, s.hd⟩
def noted (dl : Int) (s : St) : St := ⟨s.pl, s.n, s.acts ++ [(1, handP s, dl, (s.n : Int))], s.err, s.ok, s.hd⟩
def after (dl : Int) (s s' : St) : St := if livesP s' = true ∧ livesP s = false then noted dl s' else s'
def stT (T L th dl dw tw tall : Int) (s : St) (f : Int) : St := if (stA T L dw tw s).isSome then after dl s (flT T L th dl dw tw tall (count s) f) else s
theorem stT_some {T L th dl dw tw tall f : Int} {s : St} {x : D} (h : stA T L dw tw s = some x) : stT T L th dl dw tw tall s f = after dl s (flT T L th dl dw tw tall (count s) f) := by unfold stT; rw [h]; rfl
theorem stT_none {T L th dl dw tw tall f : Int} {s : St} (h : stA T L dw tw s = none) : stT T L th dl dw tw tall s f = s := by unfold stT; rw [h]; rfl
/-- A timer begins to live just where the inserter goes on with others of its steps. -/
theorem lives_on {T L i dl dw tw tall f : Int} {t : InM.St} (h0 : livesB t = false) (h1 : livesB (insT T L i dl dw tw tall t f) = true) : (insA T L i dw tw (insT T L i dl dw tw tall t f)).isSome = true := by
  have hF : ∀ (m : MiM.St) (s : LfM.St), (insA T L i dw tw (InM.onF T L m s)).isSome = true := fun m s => by
    unfold InM.onF
    split
    · assumption
    · exact InM.new_some
  cases t with
  | mint m =>
    change livesB (InM.onM T L i dw tw _) = true at h1
    unfold InM.onM at h1
    split at h1 <;> cases h1
  | link m s =>
    change livesB (InM.onK T L m _) = true at h1
    unfold InM.onK at h1
    split at h1 <;> cases h1
  | live m s => exact hF _ _
  | lift m s => cases h0
  | settle m s => cases h0
  | wake m s => cases h0
/-- At its end its timer lives. -/
theorem lives_end {T L i dw tw tall : Int} {k : Nat} {t : InM.St} (h : InM.Ok T L tall k t) (hn : insA T L i dw tw t = none) : livesB t = true := by
  cases t with
  | mint m =>
    obtain ⟨d, hd⟩ := MiM.minA_some (T := T) (L := L) (i := i) (dw := dw) (tw := tw) h.2
    exact absurd (hd.symm.trans hn) (by simp)
  | link m s => exact absurd ((InM.link_none h.2.1).1 hn) h.2.2
  | live m s => cases hn
  | lift m s => rfl
  | settle m s => rfl
  | wake m s => rfl
/-- A new one; one whose deadline is wrong. -/
def new (T th : Int) : St := ⟨.pin ⟨1, ofI T 0 th, 0⟩, 0, [], 0, false, 0⟩
def wrong : St := ⟨.idle, 0, [], 2, false, 0⟩
end Go.Proofs.YtlagghghbpbcbaaGreatDoor.SrM

/- What starting a timer, done alone, does to the words, step by step, in plain lists: pinned, a slot taken, made, linked, live, lifted, settled, the sleepers woken, unpinned. No program is named. -/
namespace Go.Proofs.YtlagghghbpbcbaaGreatDoor.StaM
set_option maxRecDepth 20000
open DM PM CM BM OM MM Runs
open KM hiding reach
open LiM (chain_on chains_on at_inj at_in told_way told_key told_own toldL told_len told_fits Linked link_run res_word map_getD)
open LfM (good_chain good_kept good_low good_of chain_off)
open Go.RowKit (wrap64)
set_option linter.unusedVariables false
set_option linter.unusedSimpArgs false

/-! Words that turn where no way on stands, nor another slot's key. -/
structure Off (T N L : Nat) (r : Int) (l m : List Int) : Prop where
  len : m.length = l.length
  fit : BM.Fits l → BM.Fits m
  way : ∀ (x : Int) (g : Nat), idx x ≤ (N : Int) → g < L → wayI T L m x g = wayI T L l x g
  key : ∀ x : Int, 1 ≤ idx x → idx x ≤ (N : Int) → idx x ≠ idx r → keyI T L m x = keyI T L l x
section
variable {T N L : Nat} {l m m' : List Int} {r v : Int}
theorem Off.refl (l : List Int) : Off T N L r l l := ⟨rfl, id, fun _ _ _ _ => rfl, fun _ _ _ _ => rfl⟩
theorem Off.trans (a : Off T N L r l m) (b : Off T N L r m m') : Off T N L r l m' :=
  ⟨b.len.trans a.len, fun h => b.fit (a.fit h), fun x g c d => (b.way x g c d).trans (a.way x g c d), fun x c d e => (b.key x c d e).trans (a.key x c d e)⟩
theorem low_way (hT : T ≤ 8) (hN : N ≤ 64) (hL : L ≤ 8) {j : Nat} (hj : j < 4 + 3 * T) {x : Int} {g : Nat} (hx : idx x ≤ (N : Int)) (hg : g < L) : (j : Int) ≠ nextI T L (idx x) g := by
  obtain ⟨e, -⟩ := way_nat hT hN hL hx hg
  rw [e]
  unfold nextN atN
  split <;> omega
theorem low_at (hT : T ≤ 8) (hN : N ≤ 64) (hL : L ≤ 8) {j a : Nat} (hj : j < 4 + 3 * T) (ha : a ≤ 5) {x : Int} (h1 : 1 ≤ idx x) (h2 : idx x ≤ (N : Int)) : (j : Int) ≠ atI T L (idx x) a := by
  rw [key_nat hT hN hL h1 h2 ha]
  unfold atN
  omega
theorem off_low (hT : T ≤ 8) (hN : N ≤ 64) (hL : L ≤ 8) {j : Nat} (hj : j < 4 + 3 * T) (hv : 0 ≤ v ∧ v < 18446744073709551616) : Off T N L r l (setI l (j : Int) v) :=
  ⟨setI_length _ _ _, fun h => fits_set h _ hv, fun x g a b => get_other (low_way hT hN hL hj a b), fun x a b _ => by
    unfold keyI
    rw [get_other (show (j : Int) ≠ atI T L (idx x) 1 from low_at (a := 1) hT hN hL hj (by omega) a b), get_other (show (j : Int) ≠ atI T L (idx x) 2 from low_at (a := 2) hT hN hL hj (by omega) a b)]⟩
theorem slot_way (hT : T ≤ 8) (hN : N ≤ 64) (hL : L ≤ 8) (h1 : 1 ≤ idx r) (h2 : idx r ≤ (N : Int)) {a : Nat} (ha : a ≤ 5) {x : Int} {g : Nat} (hx : idx x ≤ (N : Int)) (hg : g < L) : atI T L (idx r) a ≠ nextI T L (idx x) g := by
  obtain ⟨e, -⟩ := way_nat hT hN hL hx hg
  rw [e, key_nat hT hN hL h1 h2 ha]
  intro q
  exact next_at (T := T) (i := (idx x).toNat) (j := (idx r).toNat) hg (by omega) ha (by omega)
theorem slot_ne (hT : T ≤ 8) (hN : N ≤ 64) (hL : L ≤ 8) (h1 : 1 ≤ idx r) (h2 : idx r ≤ (N : Int)) {x : Int} (g1 : 1 ≤ idx x) (g2 : idx x ≤ (N : Int)) {a b : Nat} (ha : a ≤ 5) (hb : b ≤ 5) (hn : idx x ≠ idx r ∨ a ≠ b) : atI T L (idx r) a ≠ atI T L (idx x) b := by
  rw [key_nat hT hN hL h1 h2 ha, key_nat hT hN hL g1 g2 hb]
  intro q
  have := at_inj (T := T) (L := L) (i := (idx r).toNat) (j := (idx x).toNat) (by omega) (by omega) ha hb (by omega)
  omega
theorem off_slot (hT : T ≤ 8) (hN : N ≤ 64) (hL : L ≤ 8) (h1 : 1 ≤ idx r) (h2 : idx r ≤ (N : Int)) {a : Nat} (ha : a ≤ 5) (hv : 0 ≤ v ∧ v < 18446744073709551616) : Off T N L r l (setI l (atI T L (idx r) a) v) :=
  ⟨setI_length _ _ _, fun h => fits_set h _ hv, fun x g c d => get_other (slot_way hT hN hL h1 h2 ha c d), fun x c d e => by
    unfold keyI
    rw [get_other (show atI T L (idx r) a ≠ atI T L (idx x) 1 from slot_ne (b := 1) hT hN hL h1 h2 c d ha (by omega) (.inl e)), get_other (show atI T L (idx r) a ≠ atI T L (idx x) 2 from slot_ne (b := 2) hT hN hL h1 h2 c d ha (by omega) (.inl e))]⟩
/-- So all chains are as they were, where the slot is in none. -/
theorem Off.chains (hN : N ≤ 64) (o : Off T N L r l m) (hg : GoodW T L N l) (hap : ∀ h : Nat, h < L → ∀ c ∈ (chainI T L N l h).1, idx c ≠ idx r) : GoodW T L N m ∧ ∀ h : Nat, h < L → chainI T L N m h = chainI T L N l h ∧ keptL T L N m h = keptL T L N l h :=
  chains_on hN hg (fun x h a b => o.way x h a b) fun h hh c hc => by
    obtain ⟨cl, e⟩ := pair_yes (hg h (by omega)).1
    rw [e] at hc
    have := path_in _ _ (chain_of e).2.1 c hc
    exact o.key c this.1 this.2.1 (hap h hh c (by rw [e]; exact hc))
/-- What stands at a slot's place, or at a low one, where another word turned. -/
theorem slot_in (hT : T ≤ 8) (hN : N ≤ 64) (hL : L ≤ 8) (hl : l.length = wordsN T N L) (h1 : 1 ≤ idx r) (h2 : idx r ≤ (N : Int)) {a : Nat} (ha : a ≤ 5) : there l (atI T L (idx r) a) := by
  rw [key_nat hT hN hL h1 h2 ha]
  exact there_in hl (at_in (by omega) (by omega) ha)
theorem low_in (hl : l.length = wordsN T N L) {j : Nat} (hj : j < 4 + 3 * T) : there l (j : Int) := there_in hl (by unfold wordsN; omega)
end

/-! The steps. -/
/-- Pinned: 2 steps; unpinned: 1. -/
theorem pin_run {l : List Int} {pl : Int} : steps PiM.pinA PiM.pinT 2 l ⟨1, pl, 0⟩ = some (setI l pl (getI l 0), ⟨0, pl, getI l 0⟩) := by
  rw [steps_more (k := 1) (PiM.pinA_1 _ _), nextD_1, foundD_yes (by simp)]
  simp only
  rw [PiM.pinT_1, steps_more (k := 0) (PiM.pinA_2 _ _), nextD_2, PiM.pinT_2]
  rfl
theorem unpin_run {l : List Int} {pl : Int} : steps PiM.pinA PiM.pinT 1 l ⟨2, pl, 0⟩ = some (setI l pl 0, ⟨0, pl, 0⟩) := by
  rw [steps_more (k := 0) (PiM.pinA_2 _ _), nextD_2, PiM.pinT_2]
  rfl
/-- A slot taken: 3 steps; none: 1. -/
theorem pop_run {T L : Int} {l : List Int} {b : Int} (h : ¬ getI l 3 % 4294967296 = 0) : steps (PoM.popA T L) PoM.popT 3 l ⟨1, 0, b⟩ = some (PoM.popL T L l, ⟨0, getI l 3, getI l (atI T L (getI l 3 % 4294967296) 5)⟩) := by
  rw [steps_more (k := 2) (PoM.popA_1 T L 0 b), nextD_1, foundD_yes (by simp), PoM.popT_1 h, steps_more (k := 1) (PoM.popA_2 T L _ _), nextD_1, foundD_yes (by simp), PoM.popT_2, steps_more (k := 0) (PoM.popA_3 T L _ _), nextD_3, foundD_yes (by simp)]
  simp only
  rw [PoM.popT_3, PoM.swap_is]
  rfl
theorem pop_runs {T L : Int} {l : List Int} {b : Int} (h : getI l 3 % 4294967296 = 0) : steps (PoM.popA T L) PoM.popT 1 l ⟨1, 0, b⟩ = some (l, ⟨0, getI l 3, b⟩) := by
  rw [steps_more (k := 0) (PoM.popA_1 T L 0 b), nextD_1, foundD_yes (by simp), PoM.popT_1n h]
  rfl
/-- The words behind a timer's making: i its slot, g the generation, sq its number. -/
def mintL (T L : Int) (l : List Int) (i dw tw g sq : Int) : List Int :=
  setI (setI (toldL T L (setI (setI l (atI T L i 0) (SM.stI g 1)) 2 ((sq + 1) % 18446744073709551616)) i dw sq) (atI T L i 3) tw) (atI T L i 4) 2
theorem mint_run {T L i dw tw : Int} {l : List Int} (h2 : atI T L i 0 ≠ 2) : steps (MiM.minA T L i dw tw) (MiM.minT i) 7 l ⟨0, 0, 0, 0⟩ =
    some (mintL T L l i dw tw (getI l (atI T L i 0) / 4294967296) (getI l 2), ⟨7, SM.stI (getI l (atI T L i 0) / 4294967296) 1, RM.ofI (getI l (atI T L i 0) / 4294967296) i, getI l 2⟩) := by
  have e0 : ∀ sa r sq, MiM.minA T L i dw tw ⟨0, sa, r, sq⟩ = some (1, atI T L i 0, 0, 0, 0) := fun _ _ _ => rfl
  have e1 : ∀ sa r sq, MiM.minA T L i dw tw ⟨1, sa, r, sq⟩ = some (2, atI T L i 0, sa, 0, 0) := fun _ _ _ => rfl
  have e2 : ∀ sa r sq, MiM.minA T L i dw tw ⟨2, sa, r, sq⟩ = some (4, 2, 1, 0, 0) := fun _ _ _ => rfl
  have e3 : ∀ sa r sq, MiM.minA T L i dw tw ⟨3, sa, r, sq⟩ = some (2, atI T L i 1, dw, 0, r) := fun _ _ _ => rfl
  have e4 : ∀ sa r sq, MiM.minA T L i dw tw ⟨4, sa, r, sq⟩ = some (2, atI T L i 2, sq, 0, r) := fun _ _ _ => rfl
  have e5 : ∀ sa r sq, MiM.minA T L i dw tw ⟨5, sa, r, sq⟩ = some (2, atI T L i 3, tw, 0, r) := fun _ _ _ => rfl
  have e6 : ∀ sa r sq, MiM.minA T L i dw tw ⟨6, sa, r, sq⟩ = some (2, atI T L i 4, 2, 0, r) := fun _ _ _ => rfl
  have t0 : ∀ f, MiM.minT i ⟨0, 0, 0, 0⟩ f = ⟨1, SM.stI (f / 4294967296) 1, RM.ofI (f / 4294967296) i, 0⟩ := fun _ => rfl
  have t1 : ∀ sa r sq f, MiM.minT i ⟨1, sa, r, sq⟩ f = ⟨2, sa, r, sq⟩ := fun _ _ _ _ => rfl
  have t2 : ∀ sa r sq f, MiM.minT i ⟨2, sa, r, sq⟩ f = ⟨3, sa, r, f⟩ := fun _ _ _ _ => rfl
  have t3 : ∀ sa r sq f, MiM.minT i ⟨3, sa, r, sq⟩ f = ⟨4, sa, r, sq⟩ := fun _ _ _ _ => rfl
  have t4 : ∀ sa r sq f, MiM.minT i ⟨4, sa, r, sq⟩ f = ⟨5, sa, r, sq⟩ := fun _ _ _ _ => rfl
  have t5 : ∀ sa r sq f, MiM.minT i ⟨5, sa, r, sq⟩ f = ⟨6, sa, r, sq⟩ := fun _ _ _ _ => rfl
  have t6 : ∀ sa r sq f, MiM.minT i ⟨6, sa, r, sq⟩ f = ⟨7, sa, r, sq⟩ := fun _ _ _ _ => rfl
  have hz : ∀ m s, steps (MiM.minA T L i dw tw) (MiM.minT i) 0 m s = some (m, s) := fun _ _ => rfl
  unfold mintL toldL
  rw [steps_more (k := 6) (e0 _ _ _), nextD_1, foundD_yes (by simp)]
  simp only
  rw [t0]
  generalize SM.stI (getI l (atI T L i 0) / 4294967296) 1 = sa
  generalize RM.ofI (getI l (atI T L i 0) / 4294967296) i = r
  clear e0 t0
  generalize MiM.minT i = mt at *
  generalize MiM.minA T L i dw tw = ma at *
  rw [steps_more (k := 5) (e1 _ _ _), nextD_2, t1, steps_more (k := 4) (e2 _ _ _), nextD_4, foundD_yes (by simp)]
  simp only
  rw [t2]
  unfold addI
  rw [get_other h2, steps_more (k := 3) (e3 _ _ _), nextD_2, t3, steps_more (k := 2) (e4 _ _ _), nextD_2, t4, steps_more (k := 1) (e5 _ _ _), nextD_2, t5, steps_more (k := 0) (e6 _ _ _), nextD_2, t6, hz]
/-- Woken: two steps a thread at most; just words Sem turn. -/
structure Woke (T : Nat) (l m : List Int) : Prop where
  len : m.length = l.length
  fit : BM.Fits l → BM.Fits m
  oth : ∀ i : Int, (∀ k : Nat, k < T → i ≠ ofI T 2 k) → getI m i = getI l i
theorem wake_run {T : Nat} {dl : Int} : ∀ (n k : Nat) (l : List Int), k + n = T → ∃ K m, K ≤ 2 * n ∧ steps (WkM.wakeA (T : Int)) (WkM.wakeT (T : Int) dl) K l ⟨(k : Int), false⟩ = some (m, ⟨(T : Int), false⟩) ∧ Woke T l m
  | 0, k, l, hk => by
    obtain rfl : k = T := by omega
    exact ⟨0, l, Nat.le_refl _, rfl, rfl, id, fun _ _ => rfl⟩
  | n + 1, k, l, hk => by
    have hlt : (k : Int) < (T : Int) := by omega
    by_cases hd : WkM.dueW dl < getI l (ofI (T : Int) 1 (k : Int))
    · obtain ⟨K, m, h1, h2, h3⟩ := wake_run (T := T) (dl := dl) n (k + 1) (addI l (ofI (T : Int) 2 (k : Int)) 1) (by omega)
      rw [show ((k + 1 : Nat) : Int) = (k : Int) + 1 by omega] at h2
      refine ⟨K + 1 + 1, m, by omega, ?_, h3.len.trans (addI_length _ _ _), fun hf => h3.fit ?_, fun i hi => (h3.oth i hi).trans ?_⟩
      · rw [steps_more (WkM.wakeA_look hlt), nextD_1, foundD_yes (by simp)]
        simp only
        rw [WkM.wakeT_long hlt hd, steps_more (WkM.wakeA_add hlt), nextD_4, WkM.wakeT_add hlt]
        exact h2
      · unfold addI
        exact fits_set hf _ (by omega)
      · unfold addI
        exact get_other (Ne.symm (hi k (by omega)))
    · obtain ⟨K, m, h1, h2, h3⟩ := wake_run (T := T) (dl := dl) n (k + 1) l (by omega)
      rw [show ((k + 1 : Nat) : Int) = (k : Int) + 1 by omega] at h2
      refine ⟨K + 1, m, by omega, ?_, h3⟩
      rw [steps_more (WkM.wakeA_look hlt), nextD_1, foundD_yes (by simp)]
      simp only
      rw [WkM.wakeT_not hlt hd]
      exact h2
theorem sem_nat {T k : Nat} (hT : T ≤ 8) (hk : k < T) : ofI (T : Int) 2 (k : Int) = ((4 + 2 * T + k : Nat) : Int) := by unfold ofI wrap64; omega
theorem pin_nat {T k : Nat} (hT : T ≤ 8) (hk : k < T) : ofI (T : Int) 0 (k : Int) = ((4 + k : Nat) : Int) := by unfold ofI wrap64; omega
theorem Woke.off {T N L : Nat} {r : Int} {l m : List Int} (hT : T ≤ 8) (hN : N ≤ 64) (hL : L ≤ 8) (h : Woke T l m) : Off T N L r l m :=
  ⟨h.len, h.fit, fun x g a b => h.oth _ fun k hk => by rw [sem_nat hT hk]; exact Ne.symm (low_way hT hN hL (by omega) a b), fun x a b _ => by
    unfold keyI
    rw [h.oth _ fun k hk => by rw [sem_nat hT hk]; exact Ne.symm (low_at (a := 1) hT hN hL (by omega) (by omega) a b), h.oth _ fun k hk => by rw [sem_nat hT hk]; exact Ne.symm (low_at (a := 2) hT hN hL (by omega) (by omega) a b)]⟩
end Go.Proofs.YtlagghghbpbcbaaGreatDoor.StaM

/- A start done alone where all chains rise, whoever is in one without a mark is so in the one below, the free slots are in no chain, and the number of the next start is above all that are in one: all its steps, and what the words are then. No program is named. -/
namespace Go.Proofs.YtlagghghbpbcbaaGreatDoor.StaM
set_option maxRecDepth 20000
open DM PM CM BM OM MM Runs
open KM hiding reach
open LiM (chain_on chains_on at_inj at_in told_way told_key told_own toldL told_len told_fits Linked link_run res_word map_getD)
open LfM (good_chain good_kept good_low good_of chain_off)
open RiM (Base Up Knows lift_run)
open Go.RowKit (wrap64)
set_option linter.unusedVariables false
set_option linter.unusedSimpArgs false

section
variable {T N L : Nat} {l m m' : List Int} {r v : Int}
/-- A word of a slot that is no part of a key. -/
theorem off_word (hT : T ≤ 8) (hN : N ≤ 64) (hL : L ≤ 8) (h1 : 1 ≤ idx r) (h2 : idx r ≤ (N : Int)) {a : Nat} (ha : a ≤ 5) (ha1 : a ≠ 1) (ha2 : a ≠ 2) (hv : 0 ≤ v ∧ v < 18446744073709551616) : Off T N L 0 l (setI l (atI T L (idx r) a) v) :=
  ⟨setI_length _ _ _, fun h => fits_set h _ hv, fun x g c d => get_other (slot_way hT hN hL h1 h2 ha c d), fun x c d e => by
    unfold keyI
    rw [get_other (show atI T L (idx r) a ≠ atI T L (idx x) 1 from slot_ne (b := 1) hT hN hL h1 h2 c d ha (by omega) (.inr ha1)), get_other (show atI T L (idx r) a ≠ atI T L (idx x) 2 from slot_ne (b := 2) hT hN hL h1 h2 c d ha (by omega) (.inr ha2))]⟩
theorem Off.all (o : Off T N L 0 l m) {x : Int} (h1 : 1 ≤ idx x) (h2 : idx x ≤ (N : Int)) : keyI T L m x = keyI T L l x := o.key x h1 h2 (by rw [idx_zero]; omega)
theorem Off.any (o : Off T N L 0 l m) : Off T N L r l m := ⟨o.len, o.fit, o.way, fun x a b _ => o.all a b⟩
/-- So all chains are as they were. -/
theorem Off.chains0 (hN : N ≤ 64) (o : Off T N L 0 l m) (hg : GoodW T L N l) : GoodW T L N m ∧ ∀ h : Nat, h < L → chainI T L N m h = chainI T L N l h ∧ keptL T L N m h = keptL T L N l h :=
  o.chains hN hg fun h hh c hc => by
    obtain ⟨cl, e⟩ := pair_yes (hg h (by omega)).1
    rw [e] at hc
    have := path_in _ _ (chain_of e).2.1 c hc
    rw [idx_zero]
    omega
end
section
variable {T N L : Nat} {l : List Int} {r : Int}
/-- A timer that is made. -/
theorem mint_off (hT : T ≤ 8) (hN : N ≤ 64) (hL : L ≤ 8) (h1 : 1 ≤ idx r) (h2 : idx r ≤ (N : Int)) {dw tw g sq : Int} (hdw : Word dw) (htw : Word tw) (hsq : Word sq) : Off T N L r l (mintL T L l (idx r) dw tw g sq) := by
  have hs := SM.stI_lo g 1
  have hs2 := SM.stI_hi g 1
  have o0 : Off T N L r l (setI l (atI T L (idx r) 0) (SM.stI g 1)) := off_slot (a := 0) hT hN hL h1 h2 (by omega) ⟨hs, hs2⟩
  have o1 : Off T N L r _ (setI (setI l (atI T L (idx r) 0) (SM.stI g 1)) 2 ((sq + 1) % 18446744073709551616)) := off_low (j := 2) hT hN hL (by omega) (by omega)
  refine (o0.trans o1).trans ?_
  unfold mintL toldL
  generalize setI (setI l (atI T L (idx r) 0) (SM.stI g 1)) 2 ((sq + 1) % 18446744073709551616) = m
  have o2 : Off T N L r m (setI m (atI T L (idx r) 1) dw) := off_slot (a := 1) hT hN hL h1 h2 (by omega) hdw
  refine o2.trans ?_
  generalize setI m (atI T L (idx r) 1) dw = m
  have o3 : Off T N L r m (setI m (atI T L (idx r) 2) sq) := off_slot (a := 2) hT hN hL h1 h2 (by omega) hsq
  refine o3.trans ?_
  generalize setI m (atI T L (idx r) 2) sq = m
  have o4 : Off T N L r m (setI m (atI T L (idx r) 3) tw) := off_slot (a := 3) hT hN hL h1 h2 (by omega) htw
  refine o4.trans ?_
  generalize setI m (atI T L (idx r) 3) tw = m
  exact off_slot (a := 4) hT hN hL h1 h2 (by omega) ⟨by omega, by omega⟩
theorem mint_own (hT : T ≤ 8) (hN : N ≤ 64) (hL : L ≤ 8) (hl : l.length = wordsN T N L) (h1 : 1 ≤ idx r) (h2 : idx r ≤ (N : Int)) {dw tw g sq : Int} :
    keyI T L (mintL T L l (idx r) dw tw g sq) r = (wrap64 dw, sq) ∧ getI (mintL T L l (idx r) dw tw g sq) (atI T L (idx r) 4) = 2 ∧ getI (mintL T L l (idx r) dw tw g sq) 2 = (sq + 1) % 18446744073709551616 := by
  have hne := fun {a b : Nat} (ha : a ≤ 5) (hb : b ≤ 5) (e : a ≠ b) => slot_ne (x := r) hT hN hL h1 h2 h1 h2 ha hb (.inr e)
  have hlow := fun {a : Nat} (ha : a ≤ 5) => low_at (j := 2) (x := r) hT hN hL (by omega) ha h1 h2
  have e31 : atI T L (idx r) 3 ≠ atI T L (idx r) 1 := hne (a := 3) (b := 1) (by omega) (by omega) (by omega)
  have e32 : atI T L (idx r) 3 ≠ atI T L (idx r) 2 := hne (a := 3) (b := 2) (by omega) (by omega) (by omega)
  have e41 : atI T L (idx r) 4 ≠ atI T L (idx r) 1 := hne (a := 4) (b := 1) (by omega) (by omega) (by omega)
  have e42 : atI T L (idx r) 4 ≠ atI T L (idx r) 2 := hne (a := 4) (b := 2) (by omega) (by omega) (by omega)
  have f1 : (2 : Int) ≠ atI T L (idx r) 1 := hlow (a := 1) (by omega)
  have f2 : (2 : Int) ≠ atI T L (idx r) 2 := hlow (a := 2) (by omega)
  have f3 : (2 : Int) ≠ atI T L (idx r) 3 := hlow (a := 3) (by omega)
  have f4 : (2 : Int) ≠ atI T L (idx r) 4 := hlow (a := 4) (by omega)
  have hlen : (setI (setI l (atI T L (idx r) 0) (SM.stI g 1)) 2 ((sq + 1) % 18446744073709551616)).length = wordsN T N L := by rw [setI_length, setI_length]; exact hl
  have hat : there (setI l (atI T L (idx r) 0) (SM.stI g 1)) 2 := low_in (j := 2) (T := T) (N := N) (L := L) (by rw [setI_length]; exact hl) (by omega)
  unfold mintL
  have h2v : getI (setI (setI l (atI T L (idx r) 0) (SM.stI g 1)) 2 ((sq + 1) % 18446744073709551616)) 2 = (sq + 1) % 18446744073709551616 := get_set hat _
  generalize setI (setI l (atI T L (idx r) 0) (SM.stI g 1)) 2 ((sq + 1) % 18446744073709551616) = m at hlen h2v ⊢
  refine ⟨?_, get_set (slot_in (a := 4) hT hN hL (by rw [setI_length, told_len]; exact hlen) h1 h2 (by omega)) _, ?_⟩
  · have h3 := told_own (dw := dw) (sq := sq) hT hN hL hlen h1 h2
    unfold keyI at h3 ⊢
    rw [get_other e41, get_other e42, get_other e31, get_other e32]
    exact h3
  · rw [get_other (Ne.symm f4), get_other (Ne.symm f3)]
    unfold toldL
    rw [get_other (Ne.symm f2), get_other (Ne.symm f1)]
    exact h2v
/-- The other words that a making stores, and what stands elsewhere. -/
theorem mint_words (hT : T ≤ 8) (hN : N ≤ 64) (hL : L ≤ 8) (hl : l.length = wordsN T N L) (h1 : 1 ≤ idx r) (h2 : idx r ≤ (N : Int)) {dw tw g sq : Int} :
    getI (mintL T L l (idx r) dw tw g sq) (atI T L (idx r) 1) = dw ∧ getI (mintL T L l (idx r) dw tw g sq) (atI T L (idx r) 2) = sq ∧ getI (mintL T L l (idx r) dw tw g sq) (atI T L (idx r) 3) = tw ∧
      ∀ j : Int, (∀ a : Nat, a ≤ 4 → j ≠ atI T L (idx r) a) → j ≠ 2 → getI (mintL T L l (idx r) dw tw g sq) j = getI l j := by
  have hne := fun {a b : Nat} (ha : a ≤ 5) (hb : b ≤ 5) (e : a ≠ b) => slot_ne (x := r) hT hN hL h1 h2 h1 h2 ha hb (.inr e)
  have e21 : atI T L (idx r) 2 ≠ atI T L (idx r) 1 := hne (a := 2) (b := 1) (by omega) (by omega) (by omega)
  have e31 : atI T L (idx r) 3 ≠ atI T L (idx r) 1 := hne (a := 3) (b := 1) (by omega) (by omega) (by omega)
  have e32 : atI T L (idx r) 3 ≠ atI T L (idx r) 2 := hne (a := 3) (b := 2) (by omega) (by omega) (by omega)
  have e41 : atI T L (idx r) 4 ≠ atI T L (idx r) 1 := hne (a := 4) (b := 1) (by omega) (by omega) (by omega)
  have e42 : atI T L (idx r) 4 ≠ atI T L (idx r) 2 := hne (a := 4) (b := 2) (by omega) (by omega) (by omega)
  have e43 : atI T L (idx r) 4 ≠ atI T L (idx r) 3 := hne (a := 4) (b := 3) (by omega) (by omega) (by omega)
  have hin : ∀ {a : Nat} (m : List Int), m.length = l.length → a ≤ 5 → there m (atI T L (idx r) a) := fun m hm ha => slot_in hT hN hL (hm.trans hl) h1 h2 ha
  unfold mintL toldL
  refine ⟨?_, ?_, ?_, fun j hj h2 => ?_⟩
  · rw [get_other e41, get_other e31, get_other e21]
    exact get_set (hin (a := 1) _ (by rw [setI_length, setI_length]) (by omega)) _
  · rw [get_other e42, get_other e32]
    exact get_set (hin (a := 2) _ (by rw [setI_length, setI_length, setI_length]) (by omega)) _
  · rw [get_other e43]
    exact get_set (hin (a := 3) _ (by rw [setI_length, setI_length, setI_length, setI_length]) (by omega)) _
  · have j0 : atI T L (idx r) 0 ≠ j := Ne.symm (hj 0 (by omega))
    have j1 : atI T L (idx r) 1 ≠ j := Ne.symm (hj 1 (by omega))
    have j2 : atI T L (idx r) 2 ≠ j := Ne.symm (hj 2 (by omega))
    have j3 : atI T L (idx r) 3 ≠ j := Ne.symm (hj 3 (by omega))
    have j4 : atI T L (idx r) 4 ≠ j := Ne.symm (hj 4 (by omega))
    rw [get_other j4, get_other j3, get_other j2, get_other j1, get_other (Ne.symm h2), get_other j0]
end

theorem add_one {x : Int} (h : Word x) (hn : x ≠ 18446744073709551615) : (x + 1) % 18446744073709551616 = x + 1 := by
  unfold Word at h
  omega
/-- The timer's reference. -/
theorem ref_of {g i : Int} (h0 : 0 ≤ g) (h1 : g ≤ 4294967295) (i1 : 1 ≤ i) (i2 : i ≤ 64) : idx (RM.ofI g i) = i ∧ RM.ofI g i % 2 = 0 ∧ Word (RM.ofI g i) ∧ RM.ofI g i / 4294967296 = g := by
  rw [RM.ofI_yes ⟨h1, i1, by omega⟩]
  unfold idx Word
  omega
/-- All that a start leans on. -/
structure Fit (T N L : Nat) (l : List Int) (th : Nat) (i dw tw tall dl : Int) : Prop where
  hT : T ≤ 8
  hN : N ≤ 64
  hL : L ≤ 8
  hL1 : 1 ≤ L
  th : th < T
  len : l.length = wordsN T N L
  fit : BM.Fits l
  good : GoodW T L N l
  head : getI l 3 % 4294967296 = i
  i1 : 1 ≤ i
  i2 : i ≤ (N : Int)
  apart : ∀ h : Nat, h < L → ∀ c ∈ (chainI T L N l h).1, idx c ≠ i ∧ (keyI T L l c).2 < getI l 2
  last : getI l 2 ≠ 18446744073709551615
  dww : Word dw
  dlw : wrap64 dw = dl
  tww : Word tw
  t1 : 1 ≤ tall
  tL : tall ≤ (L : Int)
/-- The words when the thread is pinned, when its slot is taken, when its timer is made. -/
def pinL (T : Int) (l : List Int) (th : Int) : List Int := setI l (ofI T 0 th) (getI l 0)
def takenL (T L : Int) (l : List Int) (th : Int) : List Int := PoM.popL T L (pinL T l th)
section
variable {T N L : Nat} {l : List Int} {th : Nat} {i dw tw tall dl : Int}
theorem Fit.pin (f : Fit T N L l th i dw tw tall dl) (r : Int) : Off T N L r l (pinL T l th) := by
  unfold pinL
  rw [pin_nat f.hT f.th]
  exact off_low f.hT f.hN f.hL (by have := f.th; omega) (fits_get f.fit 0)
theorem Fit.pin_get (f : Fit T N L l th i dw tw tall dl) {j : Int} (h : j ≠ ((4 + th : Nat) : Int)) : getI (pinL T l th) j = getI l j := by
  unfold pinL
  rw [pin_nat f.hT f.th]
  exact get_other (Ne.symm h)
theorem Fit.taken (f : Fit T N L l th i dw tw tall dl) (r : Int) : Off T N L r l (takenL T L l th) := by
  refine (f.pin r).trans ?_
  unfold takenL PoM.popL
  exact off_low (j := 3) f.hT f.hN f.hL (by omega) (PoM.turn_lo _ _)
theorem Fit.taken_get (f : Fit T N L l th i dw tw tall dl) {j : Int} (h : j ≠ ((4 + th : Nat) : Int)) (h3 : j ≠ 3) : getI (takenL T L l th) j = getI l j := by
  unfold takenL PoM.popL
  rw [get_other (Ne.symm h3)]
  exact f.pin_get h
theorem Fit.at_pin (f : Fit T N L l th i dw tw tall dl) {r : Int} (hr : idx r = i) {a : Nat} (ha : a ≤ 5) : atI T L i a ≠ ((4 + th : Nat) : Int) ∧ atI T L i a ≠ 3 ∧ atI T L i a ≠ 2 := by
  have h1 := f.i1
  have h2 := f.i2
  have h3 := f.th
  rw [← hr] at h1 h2 ⊢
  exact ⟨Ne.symm (low_at (j := 4 + th) f.hT f.hN f.hL (by omega) ha h1 h2), Ne.symm (low_at (j := 3) f.hT f.hN f.hL (by omega) ha h1 h2), Ne.symm (low_at (j := 2) f.hT f.hN f.hL (by omega) ha h1 h2)⟩
/-- Pinned, taken and made: 2, 3 and 7 steps. -/
theorem Fit.begins (f : Fit T N L l th i dw tw tall dl) {g r sq : Int} (hg : g = getI l (atI T L i 0) / 4294967296) (hr : r = RM.ofI g i) (hsq : sq = getI l 2) :
    steps PiM.pinA PiM.pinT 2 l ⟨1, ofI T 0 th, 0⟩ = some (pinL T l th, ⟨0, ofI T 0 th, getI l 0⟩) ∧
    (∃ s, steps (PoM.popA T L) PoM.popT 3 (pinL T l th) ⟨1, 0, 0⟩ = some (takenL T L l th, s) ∧ PoM.popA T L s = none ∧ PoM.popI s = i ∧ s.st = 0) ∧
    steps (MiM.minA T L i dw tw) (MiM.minT i) 7 (takenL T L l th) ⟨0, 0, 0, 0⟩ = some (mintL T L (takenL T L l th) i dw tw g sq, ⟨7, SM.stI g 1, r, sq⟩) := by
  have h3 : getI (pinL T l th) 3 = getI l 3 := f.pin_get (by omega)
  have hi : ¬ getI (pinL T l th) 3 % 4294967296 = 0 := by rw [h3, f.head]; have := f.i1; omega
  have hw := fits_get f.fit (atI T L i 0)
  have hir : idx r = i := by rw [hr]; exact (ref_of (by omega) (by omega) f.i1 (by have := f.i2; have := f.hN; omega)).1
  obtain ⟨a1, a2, a3⟩ := f.at_pin hir (a := 0) (by omega)
  change atI T L i 0 ≠ _ at a1 a2 a3
  refine ⟨pin_run, ⟨_, pop_run hi, PoM.popA_0 _ _ _ _, ?_, rfl⟩, ?_⟩
  · rw [PoM.popI_0, h3]; exact f.head
  · have h4 := mint_run (T := (T : Int)) (L := (L : Int)) (i := i) (dw := dw) (tw := tw) (l := takenL T L l th) a3
    rw [f.taken_get a1 a2, f.taken_get (j := 2) (by omega) (by omega), ← hg, ← hsq, ← hr] at h4
    exact h4
end
/-- Where nobody sleeps nothing turns. -/
theorem wake_none_run {T : Nat} {dl : Int} : ∀ (n k : Nat) (l : List Int), k + n = T → (∀ j : Nat, j < T → getI l (ofI T 1 j) = 0) → steps (WkM.wakeA (T : Int)) (WkM.wakeT (T : Int) dl) n l ⟨(k : Int), false⟩ = some (l, ⟨(T : Int), false⟩)
  | 0, k, l, hk, _ => by
    obtain rfl : k = T := by omega
    rfl
  | n + 1, k, l, hk, h0 => by
    have hlt : (k : Int) < (T : Int) := by omega
    have h2 := wake_none_run (T := T) (dl := dl) n (k + 1) l (by omega) h0
    rw [show ((k + 1 : Nat) : Int) = (k : Int) + 1 by omega] at h2
    have hd := WkM.due_lo (dl := dl)
    rw [steps_more (WkM.wakeA_look hlt), nextD_1, foundD_yes (by simp)]
    simp only
    rw [h0 k (by omega), WkM.wakeT_not hlt (by omega)]
    exact h2
theorem steps_end {σ : Type} {ask : σ → Option D} {tell : σ → Int → σ} : ∀ (a b : Nat) (l la lb : List Int) (s sa sb : σ), steps ask tell a l s = some (la, sa) → ask sa = none → steps ask tell b l s = some (lb, sb) → ask sb = none → la = lb ∧ sa = sb
  | 0, 0, l, la, lb, s, sa, sb, h1, _, h2, _ => by
    simp only [steps, Option.some.injEq, Prod.mk.injEq] at h1 h2
    exact ⟨h1.1.symm.trans h2.1, h1.2.symm.trans h2.2⟩
  | 0, b + 1, l, la, lb, s, sa, sb, h1, e1, h2, _ => by
    simp only [steps, Option.some.injEq, Prod.mk.injEq] at h1
    obtain ⟨d, hd, -⟩ := steps_amid h2
    rw [h1.2, e1] at hd
    cases hd
  | a + 1, 0, l, la, lb, s, sa, sb, h1, _, h2, e2 => by
    simp only [steps, Option.some.injEq, Prod.mk.injEq] at h2
    obtain ⟨d, hd, -⟩ := steps_amid h1
    rw [h2.2, e2] at hd
    cases hd
  | a + 1, b + 1, l, la, lb, s, sa, sb, h1, e1, h2, e2 => by
    obtain ⟨d, hd, h3⟩ := steps_amid h1
    obtain ⟨d', hd', h4⟩ := steps_amid h2
    rw [hd] at hd'
    cases hd'
    exact steps_end a b _ _ _ _ _ _ h3 e1 h4 e2
theorem wake_none {T K : Nat} {dl : Int} {l m : List Int} (h0 : ∀ j : Nat, j < T → getI l (ofI T 1 j) = 0) (h : steps (WkM.wakeA (T : Int)) (WkM.wakeT (T : Int) dl) K l ⟨((0 : Nat) : Int), false⟩ = some (m, ⟨(T : Int), false⟩)) : m = l :=
  (steps_end K T _ _ _ _ _ _ h (WkM.wakeA_done (by omega)) (wake_none_run T 0 l (by omega) h0) (WkM.wakeA_done (by omega))).1
/-- What the words are when a timer was brought in, and the thread is unpinned: of the words ahead of the making. -/
structure Inserted (T N L : Nat) (l m : List Int) (th : Nat) (r g dl sq dw tw tall : Int) : Prop where
  len : m.length = wordsN T N L
  fit : BM.Fits m
  good : GoodW T L N m
  kept : ∃ A B, keptL T L N m (0 : Nat) = A ++ r :: B ∧ keptL T L N l (0 : Nat) = A ++ B
  key : keyI T L m r = (dl, sq)
  live : getI m (atI T L (idx r) 0) = SM.stI g 2
  next : getI m 2 = sq + 1
  pin : getI m (ofI T 0 th) = 0
  head : getI m 3 = getI l 3
  dead : getI m (atI T L (idx r) 1) = dw
  seq : getI m (atI T L (idx r) 2) = sq
  tallw : getI m (atI T L (idx r) 3) = tw
  hold : getI m (atI T L (idx r) 4) = 1
  oth : ∀ j : Int, (∀ (x : Int) (h : Nat), idx x ≤ (N : Int) → h < L → j ≠ nextI T L (idx x) h) → (∀ a : Nat, a ≤ 4 → j ≠ atI T L (idx r) a) → j ≠ 2 → j ≠ ofI T 0 th → (∀ k : Nat, k < T → j ≠ ofI T 2 k) → getI m j = getI l j
  sems : (∀ k : Nat, k < T → getI l (ofI T 1 k) = 0) → ∀ k : Nat, k < T → getI m (ofI T 2 k) = getI l (ofI T 2 k)
  keys : ∀ x : Int, 1 ≤ idx x → idx x ≤ (N : Int) → idx x ≠ idx r → keyI T L m x = keyI T L l x
  sub : ∀ h : Nat, h < L → ∀ c ∈ (chainI T L N m h).1, c ∈ (chainI T L N l h).1 ∨ (c = r ∧ (h : Int) < tall)
  only : ∀ h : Nat, h < L → ∀ c ∈ keptL T L N m h, c ∈ keptL T L N l h ∨ (c = r ∧ (h : Int) < tall)
  more : ∀ h : Nat, h < L → ∀ c ∈ keptL T L N l h, c ∈ keptL T L N m h
  own : ∀ h : Nat, h < L → (h : Int) < tall → r ∈ keptL T L N m h
/-- What the words are at a start's end. -/
structure Started (T N L : Nat) (l m : List Int) (th : Nat) (r g dl sq dw tw tall : Int) : Prop where
  len : m.length = wordsN T N L
  fit : BM.Fits m
  good : GoodW T L N m
  kept : ∃ A B, keptL T L N m (0 : Nat) = A ++ r :: B ∧ keptL T L N l (0 : Nat) = A ++ B
  key : keyI T L m r = (dl, sq)
  live : getI m (atI T L (idx r) 0) = SM.stI g 2
  next : getI m 2 = sq + 1
  pin : getI m (ofI T 0 th) = 0
  head : getI m 3 = PoM.turnI (getI l 3) (getI l (atI T L (idx r) 5))
  dead : getI m (atI T L (idx r) 1) = dw
  seq : getI m (atI T L (idx r) 2) = sq
  tallw : getI m (atI T L (idx r) 3) = tw
  hold : getI m (atI T L (idx r) 4) = 1
  oth : ∀ j : Int, (∀ (x : Int) (h : Nat), idx x ≤ (N : Int) → h < L → j ≠ nextI T L (idx x) h) → (∀ a : Nat, a ≤ 4 → j ≠ atI T L (idx r) a) → j ≠ 2 → j ≠ 3 → j ≠ ofI T 0 th → (∀ k : Nat, k < T → j ≠ ofI T 2 k) → getI m j = getI l j
  sems : (∀ k : Nat, k < T → getI l (ofI T 1 k) = 0) → ∀ k : Nat, k < T → getI m (ofI T 2 k) = getI l (ofI T 2 k)
  keys : ∀ x : Int, 1 ≤ idx x → idx x ≤ (N : Int) → idx x ≠ idx r → keyI T L m x = keyI T L l x
  sub : ∀ h : Nat, h < L → ∀ c ∈ (chainI T L N m h).1, c ∈ (chainI T L N l h).1 ∨ (c = r ∧ (h : Int) < tall)
  only : ∀ h : Nat, h < L → ∀ c ∈ keptL T L N m h, c ∈ keptL T L N l h ∨ (c = r ∧ (h : Int) < tall)
  more : ∀ h : Nat, h < L → ∀ c ∈ keptL T L N l h, c ∈ keptL T L N m h
  own : ∀ h : Nat, h < L → (h : Int) < tall → r ∈ keptL T L N m h
/-! Places. -/
theorem split_tall {tall : Int} {L : Nat} (h1 : 1 ≤ tall) (h2 : tall ≤ (L : Int)) (hL : L ≤ 8) : ∃ n : Nat, ((1 + n : Nat) : Int) = tall ∧ n ≤ 8 := ⟨(tall - 1).toNat, by omega, by omega⟩
theorem lift_few {k n : Nat} (h : k ≤ 1547 + 3 * n) (hn : n ≤ 8) : k ≤ 1600 := by omega
theorem lt4 {j T : Nat} (h : j < 4) : j < 4 + 3 * T := by omega
theorem lt_pin {th T : Nat} (h : th < T) : 4 + th < 4 + 3 * T := by omega
theorem lt_sem {k T : Nat} (h : k < T) : 4 + 2 * T + k < 4 + 3 * T := by omega
theorem lt_sleep {k T : Nat} (h : k < T) : 4 + T + k < 4 + 3 * T := by omega
theorem sleep_nat {T k : Nat} (hT : T ≤ 8) (hk : k < T) : ofI (T : Int) 1 (k : Int) = ((4 + T + k : Nat) : Int) := by unfold ofI wrap64; omega
theorem low_pin {T j th : Nat} (hT : T ≤ 8) (hj : j < 4) (hth : th < T) : (j : Int) ≠ ofI T 0 th := by rw [pin_nat hT hth]; omega
theorem low_sem {T j k : Nat} (hT : T ≤ 8) (hj : j < 4) (hk : k < T) : (j : Int) ≠ ofI T 2 k := by rw [sem_nat hT hk]; omega
theorem pin_sem {T th k : Nat} (hT : T ≤ 8) (hth : th < T) (hk : k < T) : ofI (T : Int) 2 (k : Int) ≠ ofI T 0 th := by rw [sem_nat hT hk, pin_nat hT hth]; omega
theorem pin_sleep {T th k : Nat} (hT : T ≤ 8) (hth : th < T) (hk : k < T) : ofI (T : Int) 1 (k : Int) ≠ ofI T 0 th := by rw [sleep_nat hT hk, pin_nat hT hth]; omega
theorem sem_low {T k : Nat} (hT : T ≤ 8) (hk : k < T) : ofI (T : Int) 2 (k : Int) ≠ 2 ∧ ofI (T : Int) 2 (k : Int) ≠ 3 ∧ ofI (T : Int) 1 (k : Int) ≠ 2 ∧ ofI (T : Int) 1 (k : Int) ≠ 3 := by rw [sem_nat hT hk, sleep_nat hT hk]; omega
section
variable {T N L : Nat} {r : Int}
theorem pin_at (hT : T ≤ 8) (hN : N ≤ 64) (hL : L ≤ 8) (h1 : 1 ≤ idx r) (h2 : idx r ≤ (N : Int)) {th : Nat} (hth : th < T) {a : Nat} (ha : a ≤ 5) : atI T L (idx r) a ≠ ofI T 0 th := by rw [pin_nat hT hth]; exact Ne.symm (low_at hT hN hL (lt_pin hth) ha h1 h2)
theorem sem_at (hT : T ≤ 8) (hN : N ≤ 64) (hL : L ≤ 8) (h1 : 1 ≤ idx r) (h2 : idx r ≤ (N : Int)) {k : Nat} (hk : k < T) {a : Nat} (ha : a ≤ 5) : atI T L (idx r) a ≠ ofI T 2 k := by rw [sem_nat hT hk]; exact Ne.symm (low_at hT hN hL (lt_sem hk) ha h1 h2)
theorem sleep_at (hT : T ≤ 8) (hN : N ≤ 64) (hL : L ≤ 8) (h1 : 1 ≤ idx r) (h2 : idx r ≤ (N : Int)) {k : Nat} (hk : k < T) {a : Nat} (ha : a ≤ 5) : ofI (T : Int) 1 (k : Int) ≠ atI T L (idx r) a := by rw [sleep_nat hT hk]; exact low_at hT hN hL (lt_sleep hk) ha h1 h2
theorem own_at (hT : T ≤ 8) (hN : N ≤ 64) (hL : L ≤ 8) (h1 : 1 ≤ idx r) (h2 : idx r ≤ (N : Int)) {a b : Nat} (ha : a ≤ 5) (hb : b ≤ 5) (e : a ≠ b) : atI T L (idx r) a ≠ atI T L (idx r) b := slot_ne hT hN hL h1 h2 h1 h2 ha hb (.inr e)
end
/-- Where no way on stands. -/
abbrev NoWay (T N L : Nat) (j : Int) : Prop := ∀ (x : Int) (h : Nat), idx x ≤ (N : Int) → h < L → j ≠ nextI T L (idx x) h
/-- What the words are when the timer is lifted. -/
structure Rose (T N L : Nat) (l m : List Int) (r g dl sq dw tw tall : Int) : Prop where
  len : m.length = wordsN T N L
  fit : BM.Fits m
  good : GoodW T L N m
  kept : ∃ A B, keptL T L N m (0 : Nat) = A ++ r :: B ∧ keptL T L N l (0 : Nat) = A ++ B
  key : keyI T L m r = (dl, sq)
  live : getI m (atI T L (idx r) 0) = SM.stI g 2
  next : getI m 2 = (sq + 1) % 18446744073709551616
  head : getI m 3 = getI l 3
  dead : getI m (atI T L (idx r) 1) = dw
  seq : getI m (atI T L (idx r) 2) = sq
  tallw : getI m (atI T L (idx r) 3) = tw
  hold : getI m (atI T L (idx r) 4) = 2
  oth : ∀ j : Int, NoWay T N L j → (∀ a : Nat, a ≤ 4 → j ≠ atI T L (idx r) a) → j ≠ 2 → getI m j = getI l j
  keys : ∀ x : Int, 1 ≤ idx x → idx x ≤ (N : Int) → idx x ≠ idx r → keyI T L m x = keyI T L l x
  sub : ∀ h : Nat, h < L → ∀ c ∈ (chainI T L N m h).1, c ∈ (chainI T L N l h).1 ∨ (c = r ∧ (h : Int) < tall)
  only : ∀ h : Nat, h < L → ∀ c ∈ keptL T L N m h, c ∈ keptL T L N l h ∨ (c = r ∧ (h : Int) < tall)
  more : ∀ h : Nat, h < L → ∀ c ∈ keptL T L N l h, c ∈ keptL T L N m h
  own : ∀ h : Nat, h < L → (h : Int) < tall → r ∈ keptL T L N m h
/-- From there on: settled, woken, unpinned. -/
theorem Rose.ends {T N L th : Nat} {l m6 m8 : List Int} {r g dl sq dw tw tall : Int} {K : Nat} (hT : T ≤ 8) (hN : N ≤ 64) (hL : L ≤ 8) (hL1 : 0 < L) (h1 : 1 ≤ idx r) (h2 : idx r ≤ (N : Int)) (hth : th < T) (hsq : Word sq) (hlast : sq ≠ 18446744073709551615) (u : Rose T N L l m6 r g dl sq dw tw tall)
    (hw : steps (WkM.wakeA (T : Int)) (WkM.wakeT (T : Int) dl) K (setI m6 (atI T L (idx r) 4) 1) ⟨((0 : Nat) : Int), false⟩ = some (m8, ⟨(T : Int), false⟩)) (w : Woke T (setI m6 (atI T L (idx r) 4) 1) m8) : Inserted T N L l (setI m8 (ofI T 0 th) 0) th r g dl sq dw tw tall := by
  have one : (0 : Int) ≤ 1 ∧ (1 : Int) < 18446744073709551616 := by decide
  have zero : (0 : Int) ≤ 0 ∧ (0 : Int) < 18446744073709551616 := by decide
  have o7 : Off T N L 0 m6 (setI m6 (atI T L (idx r) 4) 1) := off_word (a := 4) hT hN hL h1 h2 (by decide) (by decide) (by decide) one
  have o8 : Off T N L 0 _ m8 := w.off hT hN hL
  have o9 : Off T N L 0 m8 (setI m8 (ofI T 0 th) 0) := by rw [pin_nat hT hth]; exact off_low hT hN hL (lt_pin hth) zero
  have oo := (o7.trans o8).trans o9
  obtain ⟨g9, c9⟩ := oo.chains0 hN u.good
  have p4 : atI T L (idx r) 4 ≠ ofI T 0 th := pin_at (a := 4) hT hN hL h1 h2 hth (by decide)
  have s4 : ∀ k : Nat, k < T → atI T L (idx r) 4 ≠ ofI T 2 k := fun k hk => sem_at (a := 4) hT hN hL h1 h2 hk (by decide)
  have l4 : ∀ {k : Nat}, k < T → ofI (T : Int) 1 (k : Int) ≠ atI T L (idx r) 4 := fun {k} hk => sleep_at (a := 4) hT hN hL h1 h2 hk (by decide)
  have hback : ∀ j : Int, j ≠ atI T L (idx r) 4 → j ≠ ofI T 0 th → (∀ k : Nat, k < T → j ≠ ofI T 2 k) → getI (setI m8 (ofI T 0 th) 0) j = getI m6 j := fun j c d e => by
    rw [get_other (Ne.symm d), w.oth j e, get_other (Ne.symm c)]
  have hsl : ∀ {a : Nat}, a ≤ 3 → getI (setI m8 (ofI T 0 th) 0) (atI T L (idx r) a) = getI m6 (atI T L (idx r) a) := fun {a} q => hback _ (own_at (b := 4) hT hN hL h1 h2 (by omega) (by decide) (by omega)) (pin_at hT hN hL h1 h2 hth (by omega)) fun k hk => sem_at hT hN hL h1 h2 hk (by omega)
  have hlw : ∀ {j : Nat}, j < 4 → getI (setI m8 (ofI T 0 th) 0) (j : Int) = getI m6 (j : Int) := fun {j} p => hback _ (low_at (a := 4) hT hN hL (lt4 p) (by decide) h1 h2) (low_pin hT p hth) fun k hk => low_sem hT p hk
  refine ⟨oo.len.trans u.len, oo.fit u.fit, g9, ?_, ?_, (hsl (a := 0) (by decide)).trans u.live, ?_, ?_, (hlw (j := 3) (by decide)).trans u.head, (hsl (a := 1) (by decide)).trans u.dead, (hsl (a := 2) (by decide)).trans u.seq, (hsl (a := 3) (by decide)).trans u.tallw, ?_, fun j p1 p2 p3 p5 p6 => ?_, fun hs k hk => ?_, fun x a b c => ?_, fun h a c hc => ?_, fun h a c hc => ?_, fun h a c hc => ?_, fun h a b => ?_⟩
  · obtain ⟨A, B, q1, q2⟩ := u.kept
    exact ⟨A, B, by rw [(c9 0 hL1).2]; exact q1, q2⟩
  · rw [oo.all h1 h2]; exact u.key
  · exact (hlw (j := 2) (by decide)).trans (u.next.trans (add_one hsq hlast))
  · rw [pin_nat hT hth]
    exact get_set (low_in (T := T) (N := N) (L := L) (o8.len.trans (o7.len.trans u.len)) (lt_pin hth)) _
  · rw [get_other (Ne.symm p4), w.oth _ s4]
    exact get_set (slot_in (a := 4) hT hN hL u.len h1 h2 (by decide)) _
  · exact (hback j (p2 4 (by decide)) p5 p6).trans (u.oth j p1 p2 p3)
  · obtain ⟨s2, s3, t2, t3⟩ := sem_low hT hk
    have hz : ∀ j : Nat, j < T → getI (setI m6 (atI T L (idx r) 4) 1) (ofI T 1 j) = 0 := fun j hj => by
      obtain ⟨-, -, v2, v3⟩ := sem_low hT hj
      rw [get_other (Ne.symm (l4 hj)), u.oth _ (fun x h a b => by rw [sleep_nat hT hj]; exact low_way hT hN hL (lt_sleep hj) a b) (fun a ha => sleep_at hT hN hL h1 h2 hj (by omega)) v2]
      exact hs j hj
    have he := wake_none hz hw
    rw [get_other (Ne.symm (pin_sem hT hth hk)), he, get_other (s4 k hk), u.oth _ (fun x h a b => by rw [sem_nat hT hk]; exact low_way hT hN hL (lt_sem hk) a b) (fun a ha => Ne.symm (sem_at hT hN hL h1 h2 hk (by omega))) s2]
  · rw [oo.all a b]; exact u.keys x a b c
  · rw [(c9 h a).1] at hc; exact u.sub h a c hc
  · rw [(c9 h a).2] at hc; exact u.only h a c hc
  · rw [(c9 h a).2]; exact u.more h a c hc
  · rw [(c9 h a).2]; exact u.own h a b
/-- All that bringing in a timer leans on. -/
structure Ready (T N L : Nat) (l : List Int) (i dw tw tall dl : Int) : Prop where
  hT : T ≤ 8
  hN : N ≤ 64
  hL : L ≤ 8
  hL1 : 1 ≤ L
  len : l.length = wordsN T N L
  fit : BM.Fits l
  good : GoodW T L N l
  i1 : 1 ≤ i
  i2 : i ≤ (N : Int)
  apart : ∀ h : Nat, h < L → ∀ c ∈ (chainI T L N l h).1, idx c ≠ i ∧ (keyI T L l c).2 < getI l 2
  last : getI l 2 ≠ 18446744073709551615
  dww : Word dw
  dlw : wrap64 dw = dl
  tww : Word tw
  t1 : 1 ≤ tall
  tL : tall ≤ (L : Int)
section
variable {T N L : Nat} {l : List Int} {i dw tw tall dl : Int}
/-- From the making on: linked, live, lifted. -/
theorem Ready.rises (f : Ready T N L l i dw tw tall dl) (HK : ∀ m, BM.Fits m → ∀ g : Nat, ∀ c ∈ keptL T L N m g, Word c) {g r sq : Int} (hr : r = RM.ofI g i) (hsq : sq = getI l 2) (h1 : 1 ≤ idx r) (h2 : idx r ≤ (N : Int)) (hir : idx r = i) (he : r % 2 = 0) (hrw : Word r) (hsqw : Word sq) (lv wy : Int) :
    ∃ kl m4 sk ps ss, kl ≤ 1600 ∧ steps (LiM.linkA T L r) (LiM.linkT L dl sq tall) kl (mintL T L l i dw tw g sq) (LiM.begin L lv) = some (m4, ⟨0, min tall L, sk, ps, ss⟩) ∧
      ∃ kf m6 sf, kf ≤ 1600 ∧ steps (LfM.liftA T L r) (LfM.liftT L dl sq tall) kf (setI m4 (atI T L i 0) (SM.stI g 2)) (LfM.reach tall 1 wy ps ss) = some (m6, sf) ∧ sf.un = none ∧ sf.st = 0 ∧ Rose T N L l m6 r g dl sq dw tw tall := by
  have hT := f.hT
  have hN := f.hN
  have hL := f.hL
  have hL1 := f.hL1
  have ht1 := f.t1
  have hap := f.apart
  rw [← hir] at hap ⊢
  -- made
  have o3 : Off T N L r l _ := mint_off (g := g) (tw := tw) hT hN hL h1 h2 f.dww f.tww hsqw
  obtain ⟨k3, d3, n3⟩ := mint_own (dw := dw) (tw := tw) (g := g) (sq := sq) hT hN hL f.len h1 h2
  obtain ⟨x1, x2, x3, x4⟩ := mint_words (dw := dw) (tw := tw) (g := g) (sq := sq) hT hN hL f.len h1 h2
  rw [f.dlw] at k3
  have hap3' : ∀ h : Nat, h < L → ∀ c ∈ (chainI T L N l h).1, idx c ≠ idx r ∧ 1 ≤ idx c ∧ idx c ≤ (N : Int) ∧ (keyI T L l c).2 < sq := fun h hh c hc => by
    obtain ⟨q1, q2⟩ := hap h hh c hc
    obtain ⟨cl, e⟩ := pair_yes (f.good h (Int.ofNat_lt.2 hh)).1
    rw [e] at hc
    have q3 := path_in _ _ (chain_of e).2.1 c hc
    exact ⟨q1, q3.1, q3.2.1, by rw [hsq]; exact q2⟩
  generalize mintL T L l (idx r) dw tw g sq = m3 at o3 k3 d3 n3 x1 x2 x3 x4 ⊢
  obtain ⟨g3, c3⟩ := o3.chains hN f.good fun h hh c hc => (hap h hh c hc).1
  have hap3 : ∀ h : Nat, h < L → ∀ c ∈ (chainI T L N m3 h).1, idx c ≠ idx r ∧ keyI T L m3 c ≠ (dl, sq) := fun h hh c hc => by
    rw [(c3 h hh).1] at hc
    obtain ⟨q1, q3, q4, q2⟩ := hap3' h hh c hc
    refine ⟨q1, fun q => ?_⟩
    rw [o3.key c q3 q4 q1] at q
    rw [q] at q2
    exact Int.lt_irrefl _ q2
  have f3 := o3.fit f.fit
  have l3 := o3.len.trans f.len
  -- linked
  obtain ⟨kl, m4, sk, b1, b2, b3⟩ := link_run (dl := dl) (sq := sq) hT hN hL hL1 l3 f3 g3 (HK m3 f3) hrw h1 h2 he ht1 hap3 k3 lv
  obtain ⟨lt, hlt⟩ : ∃ lt : Int → Bool, lt = fun c => ltK (keyI T L m3 c) (dl, sq) := ⟨_, rfl⟩
  rw [← hlt] at b2 b3
  have hltk : ∀ c : Int, ltK (keyI T L m3 c) (dl, sq) = lt c := fun c => by rw [hlt]
  clear hlt
  obtain ⟨A, B, fr, a1, a2, a3⟩ := b3.low
  have a3' : keptL T L N m3 ((0 : Nat) : Int) = A.filter fr ++ B.filter fr := a3
  have hk40 : keptL T L N m4 (0 : Nat) = A.filter fr ++ r :: B.filter fr := (kept_of hN a1).trans a2
  have hhigh : ∀ h : Nat, 1 ≤ h → h < L → keptL T L N m4 h = keptL T L N m3 h := fun h a b => by
    obtain ⟨cl, e1, -, e3, -⟩ := b3.high h a b
    exact (kept_of hN e1).trans e3
  have hmore4 : ∀ h : Nat, h < L → ∀ c ∈ keptL T L N m3 h, c ∈ keptL T L N m4 h := fun h a c hc => by
    rcases Nat.eq_zero_or_pos h with e | e
    · subst e
      rw [a3'] at hc
      rw [hk40]
      rcases List.mem_append.1 hc with q | q
      · exact List.mem_append_left _ q
      · exact List.mem_append_right _ (List.mem_cons_of_mem _ q)
    · rw [hhigh h e a]
      exact hc
  have honly4 : ∀ h : Nat, h < L → ∀ c ∈ keptL T L N m4 h, c ∈ keptL T L N m3 h ∨ (c = r ∧ h = 0) := fun h a c hc => by
    rcases Nat.eq_zero_or_pos h with e | e
    · subst e
      rw [hk40] at hc
      rw [a3']
      rcases List.mem_append.1 hc with q | q
      · exact .inl (List.mem_append_left _ q)
      · rcases List.mem_cons.1 q with q | q
        · exact .inr ⟨q, rfl⟩
        · exact .inl (List.mem_append_right _ q)
    · rw [hhigh h e a] at hc
      exact .inl hc
  have hsub4 : ∀ h : Nat, h < L → ∀ c ∈ (chainI T L N m4 h).1, c ∈ (chainI T L N m3 h).1 ∨ (c = r ∧ h = 0) := fun h a c hc => by
    rcases Nat.eq_zero_or_pos h with e | e
    · subst e
      exact (b3.sub c hc).symm.imp id fun q => ⟨q, rfl⟩
    · obtain ⟨cl, e1, e2, -⟩ := b3.high h e a
      rw [chain_is hN e1] at hc
      exact .inl (e2.subset hc)
  have g4 : GoodW T L N m4 := by
    refine good_of hN (fun h hh => ?_) fun h hh x hx => ?_
    · rcases Nat.eq_zero_or_pos h with e | e
      · subst e; exact ⟨_, a1⟩
      · obtain ⟨cl, e1, -⟩ := b3.high h e hh
        exact ⟨cl, e1⟩
    · rw [hhigh (h + 1) (Nat.succ_pos h) hh] at hx
      exact hmore4 h (Nat.lt_of_succ_lt hh) x (good_kept g3 hh hx)
  -- live
  have o5 : Off T N L 0 m4 (setI m4 (atI T L (idx r) 0) (SM.stI g 2)) := off_word (a := 0) hT hN hL h1 h2 (by decide) (by decide) (by decide) ⟨SM.stI_lo _ _, SM.stI_hi _ _⟩
  have s5 : getI (setI m4 (atI T L (idx r) 0) (SM.stI g 2)) (atI T L (idx r) 0) = SM.stI g 2 := get_set (slot_in (a := 0) hT hN hL b3.len h1 h2 (by decide)) _
  have q5 : ∀ j : Int, j ≠ atI T L (idx r) 0 → getI (setI m4 (atI T L (idx r) 0) (SM.stI g 2)) j = getI m4 j := fun j h => get_other (Ne.symm h)
  obtain ⟨m5, hm5⟩ : ∃ m5, m5 = setI m4 (atI T L (idx r) 0) (SM.stI g 2) := ⟨_, rfl⟩
  rw [← hm5] at o5 s5 q5
  obtain ⟨g5, c5⟩ := o5.chains0 hN g4
  have l5 := o5.len.trans b3.len
  have f5 := o5.fit b3.fit
  have hkey5 : ∀ x : Int, 1 ≤ idx x → idx x ≤ (N : Int) → keyI T L m5 x = keyI T L m3 x := fun x a b => (o5.all a b).trans (b3.key x a b)
  have hkep5 : ∀ h : Nat, 1 ≤ h → h < L → keptL T L N m5 h = keptL T L N m3 h := fun h a b => (c5 h b).2.trans (hhigh h a b)
  have hres5 : ∀ h : Nat, 1 ≤ h → h < L → resL T L N lt m5 h = resL T L N lt m3 h := fun h a b => by unfold resL; rw [hkep5 h a b]
  have hr0 : r ∈ keptL T L N m5 (0 : Nat) := by
    rw [(c5 0 hL1).2, hk40]
    simp
  have base : Base T N L m5 r dl sq tall lt := by
    refine ⟨hT, hN, hL, g5, HK m5 f5, hrw, h1, h2, he, (hkey5 r h1 h2).trans k3, hr0, fun c a b => by rw [hkey5 c a b]; exact hltk c, fun h a b c hc => ?_, ht1, f.tL⟩
    rw [(c5 h b).1] at hc
    obtain ⟨cl, e1, e2, -⟩ := b3.high h a b
    rw [chain_is hN e1] at hc
    exact (hap3 h b c (e2.subset hc)).1
  have hodd : ∀ h : Nat, h < L → (resL T L N lt m3 h).2 % 2 = 0 := fun h b => by
    obtain ⟨cl, -, -, k1, k2⟩ := good_chain g3 b
    have hn := find_next lt (keptL T L N m3 h) 0
    change (resL T L N lt m3 h).2 = 0 ∨ ((resL T L N lt m3 h).2 ∈ _ ∧ lt (resL T L N lt m3 h).2 = false) at hn
    rcases hn with q | ⟨q, -⟩
    · rw [q]; rfl
    · rw [k1] at q
      exact (k2 _ (List.mem_filter.1 q).1).2.2
  have up : Up T N L tall m5 r 1 m5 := by
    refine ⟨l5, f5, fun _ _ _ => rfl, fun h a b => ?_, fun h a b => ?_, g5, fun h a c b => ?_, rfl, fun _ _ => rfl, fun h a c hc => .inl hc, fun h a c hc => .inl hc⟩
    · obtain rfl : h = 0 := Nat.eq_zero_of_le_zero (Nat.le_of_lt_succ a)
      exact ⟨hr0, fun x hx => hx⟩
    · obtain ⟨cl, e1, e2, e3, -⟩ := good_chain g5 b
      exact ⟨cl, e2, by rw [e1]; exact List.Sublist.refl _, e3.symm⟩
    · rw [o5.way r h h2 b, b3.own h b c]
      exact hodd h b
  have knows : Knows T N L lt m5 1 ((List.range L).map fun h => (resL T L N lt m3 h).1) ((List.range L).map fun h => (resL T L N lt m3 h).2) :=
    ⟨by simp, by simp, fun h a b => by rw [map_getD b, map_getD b, hres5 h a b]; exact ⟨rfl, rfl⟩⟩
  obtain ⟨n, hn, hn8⟩ := split_tall ht1 f.tL hL
  obtain ⟨kf, m6, sf, u1, u2, u3, u4, u5⟩ := lift_run base n 1 m5 _ _ wy hn (Nat.le_refl _) up knows
  have hup := u5
  have hat : ∀ {a : Nat}, a ≤ 5 → getI m6 (atI T L (idx r) a) = getI m5 (atI T L (idx r) a) := fun {a} ha => u5.oth _ fun x g c d => slot_way hT hN hL h1 h2 ha c d
  have hat4 : ∀ {a : Nat}, a ≤ 5 → getI m4 (atI T L (idx r) a) = getI m3 (atI T L (idx r) a) := fun {a} ha => b3.oth _ fun x g c d => slot_way hT hN hL h1 h2 ha c d
  have hsl : ∀ {a : Nat}, a ≤ 5 → a ≠ 0 → getI m6 (atI T L (idx r) a) = getI m3 (atI T L (idx r) a) := fun {a} ha h0 => (hat ha).trans ((q5 _ (own_at (b := 0) hT hN hL h1 h2 ha (by decide) h0)).trans (hat4 ha))
  have hfar : ∀ j : Int, NoWay T N L j → j ≠ atI T L (idx r) 0 → getI m6 j = getI m3 j := fun j a b => (u5.oth j a).trans ((q5 j b).trans (b3.oth j a))
  have hlow : ∀ {j : Nat}, j < 4 → getI m6 (j : Int) = getI m3 (j : Int) := fun {j} hj => hfar _ (fun x g a b => low_way hT hN hL (lt4 hj) a b) (low_at (a := 0) hT hN hL (lt4 hj) (by decide) h1 h2)
  have htl : ∀ h : Nat, h < 1 + n ↔ (h : Int) < tall := fun h => by rw [← hn]; exact Int.ofNat_lt.symm
  refine ⟨kl, m4, sk, _, _, b1, b2, kf, m6, sf, lift_few u1 hn8, by rw [← hm5]; exact u2, u3, u4, u5.len, u5.fit, u5.good, ⟨A.filter fr, B.filter fr, ?_, ?_⟩, ?_, (hat (a := 0) (by decide)).trans s5, (hlow (j := 2) (by decide)).trans n3, ?_, (hsl (a := 1) (by decide) (by decide)).trans x1, (hsl (a := 2) (by decide) (by decide)).trans x2, (hsl (a := 3) (by decide) (by decide)).trans x3, (hsl (a := 4) (by decide) (by decide)).trans d3, fun j p1 p2 p3 => ?_, fun x a b c => ?_, fun h a c hc => ?_, fun h a c hc => ?_, fun h a c hc => ?_, fun h a b => ?_⟩
  · rw [u5.kept, (c5 0 hL1).2, hk40]
  · rw [← (c3 0 hL1).2]
    exact a3
  · rw [u5.key r h1 h2, hkey5 r h1 h2, k3]
  · exact (hlow (j := 3) (by decide)).trans ((x4 3 (fun a ha => low_at (j := 3) hT hN hL (lt4 (by decide)) (Nat.le_succ_of_le ha) h1 h2) (by decide)))
  · exact (hfar j p1 (p2 0 (by decide))).trans (x4 j p2 p3)
  · rw [u5.key x a b, hkey5 x a b]
    exact o3.key x a b c
  · rcases u5.sub h a c hc with q | q
    · rw [(c5 h a).1] at q
      rcases hsub4 h a c q with q | q
      · rw [(c3 h a).1] at q
        exact .inl q
      · exact .inr ⟨q.1, (htl h).1 (by rw [q.2]; exact Nat.lt_add_right _ Nat.one_pos)⟩
    · exact .inr ⟨q.1, (htl h).1 q.2⟩
  · rcases u5.only h a c hc with q | q
    · rw [(c5 h a).2] at q
      rcases honly4 h a c q with q | q
      · rw [(c3 h a).2] at q
        exact .inl q
      · exact .inr ⟨q.1, (htl h).1 (by rw [q.2]; exact Nat.lt_add_right _ Nat.one_pos)⟩
    · exact .inr ⟨q.1, (htl h).1 q.2⟩
  · have h5 : c ∈ keptL T L N m5 h := by
      rw [(c5 h a).2]
      exact hmore4 h a c (by rw [(c3 h a).2]; exact hc)
    by_cases e : h < 1 + n
    · exact (u5.low h e a).2 c h5
    · rw [(u5.res hN (lt := lt) (Nat.le_of_not_lt e) a).1]
      exact h5
  · exact (u5.low h ((htl h).2 b) a).1
/-- All that comes behind the making; th the thread. -/
theorem Ready.goes (f : Ready T N L l i dw tw tall dl) {th : Nat} (hth : th < T) (HK : ∀ m, BM.Fits m → ∀ g : Nat, ∀ c ∈ keptL T L N m g, Word c) {g r sq : Int} (hg : g = getI l (atI T L i 0) / 4294967296) (hr : r = RM.ofI g i) (hsq : sq = getI l 2) (lv wy : Int) :
    idx r = i ∧ r % 2 = 0 ∧ Word r ∧ r / 4294967296 = g ∧
    ∃ kl m4 sk ps ss, kl ≤ 1600 ∧ steps (LiM.linkA T L r) (LiM.linkT L dl sq tall) kl (mintL T L l i dw tw g sq) (LiM.begin L lv) = some (m4, ⟨0, min tall L, sk, ps, ss⟩) ∧
      ∃ kf m6 sf, kf ≤ 1600 ∧ steps (LfM.liftA T L r) (LfM.liftT L dl sq tall) kf (setI m4 (atI T L i 0) (SM.stI g 2)) (LfM.reach tall 1 wy ps ss) = some (m6, sf) ∧ sf.un = none ∧ sf.st = 0 ∧ getI m6 (atI T L i 4) = 2 ∧
        ∃ kw m8, kw ≤ 16 ∧ steps (WkM.wakeA (T : Int)) (WkM.wakeT (T : Int) dl) kw (setI m6 (atI T L i 4) 1) WkM.start = some (m8, ⟨(T : Int), false⟩) ∧
          Inserted T N L l (setI m8 (ofI T 0 th) 0) th r g dl sq dw tw tall := by
  have hw0 := fits_get f.fit (atI T L i 0)
  have hw2 := fits_get f.fit 2
  obtain ⟨hir, he, hrw, hrg⟩ := ref_of (g := g) (i := i) (by omega) (by omega) f.i1 (by have := f.i2; have := f.hN; omega)
  rw [← hr] at hir he hrw hrg
  have h1 : 1 ≤ idx r := by rw [hir]; exact f.i1
  have h2 : idx r ≤ (N : Int) := by rw [hir]; exact f.i2
  have hsqw : Word sq := by rw [hsq]; exact hw2
  have hlast : sq ≠ 18446744073709551615 := by rw [hsq]; exact f.last
  obtain ⟨kl, m4, sk, ps, ss, b1, b2, kf, m6, sf, u1, u2, u3, u4, u5⟩ := f.rises HK (g := g) hr hsq h1 h2 hir he hrw hsqw lv wy
  obtain ⟨kw, m8, w1, w2, w3⟩ := wake_run (T := T) (dl := dl) T 0 (setI m6 (atI T L (idx r) 4) 1) (Nat.zero_add T)
  have hend := u5.ends f.hT f.hN f.hL f.hL1 h1 h2 hth hsqw hlast w2 w3
  have hd := u5.hold
  have hT := f.hT
  rw [hir] at w2 hd
  exact ⟨hir, he, hrw, hrg, kl, m4, sk, ps, ss, b1, b2, kf, m6, sf, u1, u2, u3, u4, hd, kw, m8, by omega, w2, hend⟩
end
section
variable {T N L : Nat} {l m : List Int} {th : Nat} {i dw tw tall dl r g sq : Int}
/-- A slot that was taken is ready. -/
theorem Fit.ready (f : Fit T N L l th i dw tw tall dl) : Ready T N L (takenL T L l th) i dw tw tall dl := by
  have hr : idx (2 * i) = i := by have h1 := f.i1; have h2 := f.i2; have h3 := f.hN; unfold idx; omega
  have o := f.taken (2 * i)
  obtain ⟨g2, c2⟩ := o.chains f.hN f.good fun h hh c hc => by rw [hr]; exact (f.apart h hh c hc).1
  have h2 : getI (takenL T L l th) 2 = getI l 2 := f.taken_get (by omega) (by omega)
  refine ⟨f.hT, f.hN, f.hL, f.hL1, o.len.trans f.len, o.fit f.fit, g2, f.i1, f.i2, fun h hh c hc => ?_, by rw [h2]; exact f.last, f.dww, f.dlw, f.tww, f.t1, f.tL⟩
  rw [(c2 h hh).1] at hc
  obtain ⟨q1, q2⟩ := f.apart h hh c hc
  obtain ⟨cl, e⟩ := pair_yes (f.good h (Int.ofNat_lt.2 hh)).1
  rw [e] at hc
  have q3 := path_in _ _ (chain_of e).2.1 c hc
  rw [o.key c q3.1 q3.2.1 (by rw [hr]; exact q1), h2]
  exact ⟨q1, q2⟩
/-- Of the words ahead of the start. -/
theorem Fit.started (f : Fit T N L l th i dw tw tall dl) (hir : idx r = i) (s : Inserted T N L (takenL T L l th) m th r g dl sq dw tw tall) : Started T N L l m th r g dl sq dw tw tall := by
  have hT := f.hT
  have hth := f.th
  have hap := f.apart
  rw [← hir] at hap
  have o := f.taken r
  obtain ⟨g2, c2⟩ := o.chains f.hN f.good fun h hh c hc => (hap h hh c hc).1
  have htk : ∀ j : Int, j ≠ ofI T 0 th → j ≠ 3 → getI (takenL T L l th) j = getI l j := fun j a b => f.taken_get (by rw [← pin_nat hT hth]; exact a) b
  have ht3 : getI (takenL T L l th) 3 = PoM.turnI (getI l 3) (getI l (atI T L (idx r) 5)) := by
    have e3 : getI (pinL T l th) 3 = getI l 3 := f.pin_get (by rw [← pin_nat hT hth]; exact low_pin (j := 3) hT (by decide) hth)
    have hin3 : there (pinL T l th) 3 := low_in (j := 3) (T := T) (N := N) (L := L) ((f.pin 0).len.trans f.len) (lt4 (by decide))
    unfold takenL PoM.popL
    rw [get_set hin3, e3, f.head, hir, f.pin_get (show atI T L i 5 ≠ _ from (f.at_pin hir (a := 5) (by decide)).1)]
  refine ⟨s.len, s.fit, s.good, ?_, s.key, s.live, s.next, s.pin, s.head.trans ht3, s.dead, s.seq, s.tallw, s.hold, fun j p1 p2 p3 p4 p5 p6 => (s.oth j p1 p2 p3 p5 p6).trans (htk j p5 p4), fun hs k hk => ?_, fun x a b c => (s.keys x a b c).trans (o.key x a b c), fun h a c hc => ?_, fun h a c hc => ?_, fun h a c hc => s.more h a c (by rw [(c2 h a).2]; exact hc), s.own⟩
  · obtain ⟨A, B, q1, q2⟩ := s.kept
    exact ⟨A, B, q1, by rw [← (c2 0 f.hL1).2]; exact q2⟩
  · obtain ⟨-, s3, -, t3⟩ := sem_low hT hk
    rw [s.sems (fun j hj => by rw [htk _ (pin_sleep hT hth hj) (sem_low hT hj).2.2.2]; exact hs j hj) k hk, htk _ (pin_sem hT hth hk) s3]
  · have h5 := s.sub h a c hc
    rw [(c2 h a).1] at h5
    exact h5
  · have h5 := s.only h a c hc
    rw [(c2 h a).2] at h5
    exact h5
/-- All that comes behind the making, of a start. -/
theorem Fit.goes (f : Fit T N L l th i dw tw tall dl) (HK : ∀ m, BM.Fits m → ∀ g : Nat, ∀ c ∈ keptL T L N m g, Word c) (hg : g = getI l (atI T L i 0) / 4294967296) (hr : r = RM.ofI g i) (hsq : sq = getI l 2) (lv wy : Int) :
    idx r = i ∧ r % 2 = 0 ∧ Word r ∧ r / 4294967296 = g ∧
    ∃ kl m4 sk ps ss, kl ≤ 1600 ∧ steps (LiM.linkA T L r) (LiM.linkT L dl sq tall) kl (mintL T L (takenL T L l th) i dw tw g sq) (LiM.begin L lv) = some (m4, ⟨0, min tall L, sk, ps, ss⟩) ∧
      ∃ kf m6 sf, kf ≤ 1600 ∧ steps (LfM.liftA T L r) (LfM.liftT L dl sq tall) kf (setI m4 (atI T L i 0) (SM.stI g 2)) (LfM.reach tall 1 wy ps ss) = some (m6, sf) ∧ sf.un = none ∧ sf.st = 0 ∧ getI m6 (atI T L i 4) = 2 ∧
        ∃ kw m8, kw ≤ 16 ∧ steps (WkM.wakeA (T : Int)) (WkM.wakeT (T : Int) dl) kw (setI m6 (atI T L i 4) 1) WkM.start = some (m8, ⟨(T : Int), false⟩) ∧
          Started T N L l (setI m8 (ofI T 0 th) 0) th r g dl sq dw tw tall := by
  have hrr : idx (2 * i) = i := by have h1 := f.i1; have h2 := f.i2; have h3 := f.hN; unfold idx; omega
  obtain ⟨a1, a2, -⟩ := f.at_pin hrr (a := 0) (by omega)
  change atI T L i 0 ≠ _ at a1 a2
  have h2 : getI (takenL T L l th) 2 = getI l 2 := f.taken_get (by omega) (by omega)
  obtain ⟨q1, q2, q3, q4, kl, m4, sk, ps, ss, b1, b2, kf, m6, sf, u1, u2, u3, u4, u5, kw, m8, w1, w2, w3⟩ := f.ready.goes f.th HK (g := g) (r := r) (sq := sq) (by rw [f.taken_get a1 a2]; exact hg) hr (by rw [h2]; exact hsq) lv wy
  exact ⟨q1, q2, q3, q4, kl, m4, sk, ps, ss, b1, b2, kf, m6, sf, u1, u2, u3, u4, u5, kw, m8, w1, w2, f.started q1 w3⟩
end

/-! The free slots' first one; none. -/
theorem go_front {S : Int} {nx : Int → Int} : ∀ (f : Nat) (out : List Int) (b : Int), ∃ r, goF S nx f out b = out ++ r
  | 0, out, b => ⟨[], by rw [go_zero, List.append_nil]⟩
  | f + 1, out, b => by
    by_cases h : 1 ≤ b ∧ b ≤ S ∧ b ∉ out
    · obtain ⟨r, hr⟩ := go_front (S := S) (nx := nx) f (out ++ [b]) (nx b)
      exact ⟨b :: r, by rw [go_step h, hr]; simp⟩
    · exact ⟨[], by rw [go_stop h, List.append_nil]⟩
theorem free_cons {T L : Int} {S : Nat} {l r : List Int} {x : Int} (h : freeL T S L l = x :: r) : getI l 3 % 4294967296 = x ∧ 1 ≤ x ∧ x ≤ (S : Int) := by
  unfold freeL at h
  cases S with
  | zero => rw [go_zero] at h; cases h
  | succ S =>
    by_cases hc : 1 ≤ getI l 3 % 4294967296 ∧ getI l 3 % 4294967296 ≤ ((S + 1 : Nat) : Int) ∧ getI l 3 % 4294967296 ∉ ([] : List Int)
    · rw [go_step hc] at h
      obtain ⟨r', hr'⟩ := go_front (S := ((S + 1 : Nat) : Int)) (nx := fun i => getI l (atI T L i 5)) S ([] ++ [getI l 3 % 4294967296]) (getI l (atI T L (getI l 3 % 4294967296) 5))
      rw [hr'] at h
      simp only [List.nil_append, List.cons_append, List.cons.injEq] at h
      obtain ⟨e, -⟩ := h
      rw [← e]
      exact ⟨rfl, hc.1, hc.2.1⟩
    · rw [go_stop hc] at h
      cases h
/-- With no slot free: pinned, none found, unpinned; just the thread's Pin has turned. -/
theorem full_run {T N L : Nat} {l : List Int} {th : Nat} (hT : T ≤ 8) (hth : th < T) (h : getI l 3 % 4294967296 = 0) :
    steps PiM.pinA PiM.pinT 2 l ⟨1, ofI T 0 th, 0⟩ = some (pinL T l th, ⟨0, ofI T 0 th, getI l 0⟩) ∧
    (∃ s, steps (PoM.popA T L) PoM.popT 1 (pinL T l th) ⟨1, 0, 0⟩ = some (pinL T l th, s) ∧ PoM.popA T L s = none ∧ PoM.popI s = 0 ∧ s.st = 0) ∧
    steps PiM.pinA PiM.pinT 1 (pinL T l th) ⟨2, ofI T 0 th, 0⟩ = some (setI l (ofI T 0 th) 0, ⟨0, ofI T 0 th, 0⟩) ∧
    setI (setI l (ofI T 0 th) 0) (ofI T 0 th) (getI l (ofI T 0 th)) = l := by
  have h3 : getI (pinL T l th) 3 = getI l 3 := by
    unfold pinL
    rw [pin_nat hT hth]
    exact get_other (by omega)
  refine ⟨pin_run, ⟨_, pop_runs (by rw [h3]; exact h), PoM.popA_0 _ _ _ _, by rw [PoM.popI_0, h3]; exact h, rfl⟩, ?_, by rw [set_set, set_get]⟩
  rw [unpin_run]
  unfold pinL
  rw [set_set]
end Go.Proofs.YtlagghghbpbcbaaGreatDoor.StaM

/- A starter done alone: all its steps, from the words where a slot is free, and where none is. No program is named. -/
namespace Go.Proofs.YtlagghghbpbcbaaGreatDoor.SrM
set_option maxRecDepth 20000
open DM PM CM KM Runs
open InM (insA insT livesB refS)
open PiM (pinA pinT)
open PoM (popA popT popI)
open StaM (pinL takenL mintL Fit Started full_run)
open Go.RowKit (wrap64)
set_option linter.unusedVariables false
set_option linter.unusedSimpArgs false

/-- A starter without what it counts. -/
structure Co where
  pl : At
  err : Int
  ok : Bool
  hd : Int
def core (s : St) : Co := ⟨s.pl, s.err, s.ok, s.hd⟩
def coA (T L dw tw : Int) (s : Co) : Option D := goA T L dw tw s.pl
def coT (T L th dl dw tw tall : Int) (s : Co) (f : Int) : Co := match s.pl with
  | .pin t => if (pinA (pinT t f)).isSome then ⟨.pin (pinT t f), s.err, s.ok, s.hd⟩ else ⟨.pop ⟨1, 0, 0⟩, s.err, s.ok, s.hd⟩
  | .pop t => if (popA T L (popT t f)).isSome then ⟨.pop (popT t f), s.err, s.ok, s.hd⟩ else
      if popI (popT t f) = 0 then ⟨.leave ⟨2, ofI T 0 th, 0⟩, 3, s.ok, s.hd⟩ else ⟨.ins (popI (popT t f)) InM.start, s.err, s.ok, s.hd⟩
  | .ins i t => if (insA T L i dw tw (insT T L i dl dw tw tall t f)).isSome then ⟨.ins i (insT T L i dl dw tw tall t f), s.err, s.ok, s.hd⟩ else ⟨.leave ⟨2, ofI T 0 th, 0⟩, s.err, true, handS (insT T L i dl dw tw tall t f)⟩
  | .leave t => if (pinA (pinT t f)).isSome then ⟨.leave (pinT t f), s.err, s.ok, s.hd⟩ else ⟨.idle, s.err, s.ok, s.hd⟩
  | .idle => s
section
variable {T L th dl dw tw tall : Int}
theorem core_tell {s : St} {f : Int} {x : D} (h : stA T L dw tw s = some x) : core (stT T L th dl dw tw tall s f) = coT T L th dl dw tw tall (core s) f := by
  rw [stT_some h]
  have ha : ∀ s', core (after dl s s') = core s' := fun s' => by unfold after; split <;> rfl
  rw [ha]
  obtain ⟨pl, n, acts, err, ok, hd⟩ := s
  cases pl with
  | pin t => unfold flT coT count core; simp only; split <;> rfl
  | pop t =>
    unfold flT coT count core
    simp only
    split
    · rfl
    · split <;> rfl
  | ins i t => unfold flT coT count core; simp only; split <;> rfl
  | leave t => unfold flT coT count core; simp only; split <;> rfl
  | idle => rfl
/-- The steps of the one are the other's. -/
theorem core_steps : ∀ (k : Nat) (l lf : List Int) (s : St) (cf : Co), steps (coA T L dw tw) (coT T L th dl dw tw tall) k l (core s) = some (lf, cf) → ∃ sf, steps (stA T L dw tw) (stT T L th dl dw tw tall) k l s = some (lf, sf) ∧ core sf = cf
  | 0, l, lf, s, cf, h => by
    simp only [steps, Option.some.injEq, Prod.mk.injEq] at h
    exact ⟨s, by simp [steps, h.1], h.2⟩
  | k + 1, l, lf, s, cf, h => by
    obtain ⟨d, hd, h1⟩ := steps_amid h
    have hd2 : stA T L dw tw s = some d := hd
    rw [← core_tell hd2] at h1
    obtain ⟨sf, h2, h3⟩ := core_steps k _ lf _ cf h1
    exact ⟨sf, by rw [steps_more hd2]; exact h2, h3⟩
theorem pin_leads (err : Int) (ok : Bool) (hd : Int) : Leads (coA T L dw tw) (coT T L th dl dw tw tall) pinA pinT (fun t => ⟨.pin t, err, ok, hd⟩) fun _ => ⟨.pop ⟨1, 0, 0⟩, err, ok, hd⟩ := fun t d h => ⟨h, fun f => rfl⟩
theorem pop_leads (err : Int) (ok : Bool) (hd : Int) : Leads (coA T L dw tw) (coT T L th dl dw tw tall) (popA T L) popT (fun t => ⟨.pop t, err, ok, hd⟩) fun t => if popI t = 0 then ⟨.leave ⟨2, ofI T 0 th, 0⟩, 3, ok, hd⟩ else ⟨.ins (popI t) InM.start, err, ok, hd⟩ := fun t d h => ⟨h, fun f => rfl⟩
theorem ins_leads (i err : Int) (ok : Bool) (hd : Int) : Leads (coA T L dw tw) (coT T L th dl dw tw tall) (insA T L i dw tw) (insT T L i dl dw tw tall) (fun t => ⟨.ins i t, err, ok, hd⟩) fun t => ⟨.leave ⟨2, ofI T 0 th, 0⟩, err, true, handS t⟩ := fun t d h => ⟨h, fun f => rfl⟩
theorem leave_leads (err : Int) (ok : Bool) (hd : Int) : Leads (coA T L dw tw) (coT T L th dl dw tw tall) pinA pinT (fun t => ⟨.leave t, err, ok, hd⟩) fun _ => ⟨.idle, err, ok, hd⟩ := fun t d h => ⟨h, fun f => rfl⟩
end
theorem steps_hold {σ τ : Type} {ask : σ → Option D} {tell : σ → Int → σ} {askS : τ → Option D} {tellS : τ → Int → τ} {ι : τ → σ} (h : Holds ask tell askS tellS ι) : ∀ (k : Nat) (l l' : List Int) (t t' : τ), steps askS tellS k l t = some (l', t') → steps ask tell k l (ι t) = some (l', ι t')
  | 0, l, l', t, t', e => by
    simp only [steps, Option.some.injEq, Prod.mk.injEq] at e
    simp [steps, e.1, e.2]
  | k + 1, l, l', t, t', e => by
    obtain ⟨d, hd, e1⟩ := steps_amid e
    obtain ⟨h1, h2⟩ := h t d hd
    rw [steps_more h1, h2]
    exact steps_hold h k _ _ _ _ e1
/-- All that an inserter does, done alone to the words where its slot is taken. -/
theorem ins_run {T L i dl dw tw tall r : Int} {kl kf kw : Nat} {l lm m4 m6 m8 : List Int} {m : MiM.St} {sk : KM.St} {ps ss : List Int} {sf : LfM.St} {lv : Int} (hT : 1 ≤ T) (hL : 1 ≤ L ∧ L ≤ 9223372036854775807)
    (h1 : steps (MiM.minA T L i dw tw) (MiM.minT i) 7 l ⟨0, 0, 0, 0⟩ = some (lm, m)) (hk : m.k = 7) (hr : m.r = r)
    (h2 : steps (LiM.linkA T L r) (LiM.linkT L dl m.sq tall) kl lm (LiM.begin L 0) = some (m4, ⟨0, lv, sk, ps, ss⟩))
    (h3 : steps (LfM.liftA T L r) (LfM.liftT L dl m.sq tall) kf (setI m4 (atI T L i 0) (SM.stI (r / 4294967296) 2)) (LfM.reach tall 1 0 ps ss) = some (m6, sf)) (h4 : sf.un = none) (h5 : sf.st = 0)
    (h6 : getI m6 (atI T L (idx r) 4) = 2)
    (h7 : steps (WkM.wakeA T) (WkM.wakeT T dl) kw (setI m6 (atI T L (idx r) 4) 1) WkM.start = some (m8, ⟨T, false⟩)) :
    steps (insA T L i dw tw) (insT T L i dl dw tw tall) (7 + (kl + (1 + (kf + (1 + kw))))) l InM.start = some (m8, .wake m ⟨T, false⟩) := by
  subst hr
  have hn7 : MiM.minA T L i dw tw m = none := MiM.minA_none hk
  rw [show InM.start = InM.St.mint ⟨0, 0, 0, 0⟩ from rfl, steps_lead InM.mint_leads 7 _ l lm _ m (1, atI T L i 0, 0, 0, 0) rfl h1 hn7]
  obtain ⟨x, hx⟩ := InM.begin_step (T := T) (L := L) (r := m.r) hL
  rw [steps_lead (InM.link_leads (i := i) (dl := dl) (dw := dw) (tw := tw) (tall := tall) m) kl _ lm m4 _ _ x hx h2 LiM.linkA_0]
  rw [show 1 + (kf + (1 + kw)) = (kf + (1 + kw)) + 1 from Nat.add_comm _ _, steps_more (show insA T L i dw tw (.live m _) = some (2, atI T L i 0, SM.stI (m.r / 4294967296) 2, 0, 0) from rfl), nextD_2]
  have hsf : LfM.liftA T L m.r sf = none := by
    obtain ⟨st, lv, wy, un, ps, ss⟩ := sf
    simp only at h4 h5
    subst h4 h5
    exact LfM.liftA_0
  have hset : steps (insA T L i dw tw) (insT T L i dl dw tw tall) (1 + kw) m6 (.settle m StM.new) = some (m8, .wake m ⟨T, false⟩) := by
    rw [Nat.add_comm, steps_more (show insA T L i dw tw (.settle m StM.new) = some (4, atI T L (idx m.r) 4, 18446744073709551615, 0, m.r) from InM.new_step), nextD_4, foundD_yes (by simp)]
    simp only
    unfold addI
    rw [h6, show (2 + 18446744073709551615 : Int) % 18446744073709551616 = 1 by decide]
    rw [show insT T L i dl dw tw tall (.settle m StM.new) 2 = .wake m WkM.start from by
      show InM.onS T L m (StM.settleT L dl m.sq StM.new 2) = _
      unfold StM.new
      rw [StM.settleT_1n (by decide)]
      unfold InM.onS
      rw [StM.settleA_0]
      rfl]
    exact steps_hold (InM.wake_holds (i := i) (L := L) (dw := dw) (tw := tw) (tall := tall) m) kw _ _ _ _ h7
  show steps _ _ _ _ (InM.onF T L m (LfM.reach tall 1 0 ps ss)) = _
  cases hx2 : LfM.liftA T L m.r (LfM.reach tall 1 0 ps ss) with
  | none =>
    have h0 : kf = 0 := by
      cases kf with
      | zero => rfl
      | succ k => obtain ⟨d, hd, -⟩ := steps_amid h3; rw [hx2] at hd; cases hd
    subst h0
    simp only [steps, Option.some.injEq, Prod.mk.injEq] at h3
    unfold InM.onF
    rw [hx2]
    simp only [Option.isSome_none, Bool.false_eq_true, if_false, Nat.zero_add]
    rw [h3.1]
    exact hset
  | some y =>
    unfold InM.onF
    rw [hx2]
    simp only [Option.isSome_some, if_true]
    rw [steps_lead (InM.lift_leads (i := i) (dl := dl) (dw := dw) (tw := tw) (tall := tall) m) kf _ _ m6 _ sf y hx2 h3 hsf]
    exact hset
theorem new_core {T th : Int} : core (new T th) = ⟨.pin ⟨1, ofI T 0 th, 0⟩, 0, false, 0⟩ := rfl
/-- What a starter comes to where a slot is free. -/
theorem start_run {T N L : Nat} {l : List Int} {th : Nat} {i dw tw tall dl g r sq : Int} (f : Fit T N L l th i dw tw tall dl) (HK : ∀ m, BM.Fits m → ∀ g : Nat, ∀ c ∈ keptL T L N m g, Word c) (hg : g = getI l (atI T L i 0) / 4294967296) (hr : r = RM.ofI g i) (hsq : sq = getI l 2) :
    ∃ K m sf, K ≤ 4000 ∧ steps (stA T L dw tw) (stT T L th dl dw tw tall) K l (new T th) = some (m, sf) ∧ stA T L dw tw sf = none ∧ sf.err = 0 ∧ sf.ok = true ∧ sf.hd = WaM.handI r ∧ idx r = i ∧ r % 2 = 0 ∧ Word r ∧ r / 4294967296 = g ∧ Started T N L l m th r g dl sq dw tw tall := by
  obtain ⟨b1, ⟨sp, b2, b3, b4, b5⟩, b6⟩ := f.begins hg hr hsq
  obtain ⟨q1, q2, q3, q4, kl, m4, sk, ps, ss, c1, c2, kf, m6, sf, c3, c4, c5, c6, c7, kw, m8, c8, c9, c10⟩ := f.goes HK hg hr hsq 0 0
  have hT : (1 : Int) ≤ (T : Int) := by have := f.th; omega
  have hL1 := f.hL1
  have hL : (1 : Int) ≤ (L : Int) ∧ (L : Int) ≤ 9223372036854775807 := by have := f.hL; omega
  have hi := f.i1
  subst q1
  have hins := ins_run (T := T) (L := L) (i := idx r) (dl := dl) (dw := dw) (tw := tw) (tall := tall) (r := r) hT hL b6 rfl rfl c2 (by rw [q4]; exact c4) c5 c6 c7 c9
  obtain ⟨s2, e1, e2⟩ := core_steps (T := T) (L := L) (th := th) (dl := dl) (dw := dw) (tw := tw) (tall := tall) (2 + (3 + ((7 + (kl + (1 + (kf + (1 + kw))))) + 1))) l (setI m8 (ofI T 0 th) 0) (new T th) ⟨.idle, 0, true, WaM.handI r⟩ (by
    rw [new_core, steps_lead (pin_leads 0 false 0) 2 _ l (pinL T l th) _ _ (1, 0, 0, 0, 0) (PiM.pinA_1 _ _) b1 (PiM.pinA_0 _ _)]
    rw [steps_lead (pop_leads 0 false 0) 3 _ _ (takenL T L l th) _ sp (1, 3, 0, 0, 0) (PoM.popA_1 _ _ _ _) b2 b3, b4, if_neg (by omega)]
    rw [steps_lead (ins_leads (idx r) 0 false 0) _ 1 _ m8 _ _ (1, atI T L (idx r) 0, 0, 0, 0) rfl hins (WkM.wakeA_done (by omega))]
    rw [steps_more (show coA T L dw tw ⟨.leave ⟨2, ofI T 0 th, 0⟩, 0, true, _⟩ = some (2, ofI T 0 th, 0, 0, 0) from PiM.pinA_2 _ _), nextD_2]
    rfl)
  have hpl : s2.pl = .idle := congrArg Co.pl e2
  exact ⟨_, _, s2, by omega, e1, by unfold stA; rw [hpl]; rfl, congrArg Co.err e2, congrArg Co.ok e2, congrArg Co.hd e2, rfl, q2, q3, q4, c10⟩
/-- .. where none is. -/
theorem full_start {T L : Nat} {l : List Int} {th : Nat} {dl dw tw tall : Int} (hT : T ≤ 8) (hth : th < T) (h : getI l 3 % 4294967296 = 0) :
    ∃ sf, steps (stA T L dw tw) (stT T L th dl dw tw tall) 4 l (new T th) = some (setI l (ofI T 0 th) 0, sf) ∧ stA T L dw tw sf = none ∧ sf.err = 3 ∧ setI (setI l (ofI T 0 th) 0) (ofI T 0 th) (getI l (ofI T 0 th)) = l := by
  obtain ⟨b1, ⟨sp, b2, b3, b4, b5⟩, b6, b7⟩ := full_run (N := 0) (L := L) hT hth h
  obtain ⟨s2, e1, e2⟩ := core_steps (T := T) (L := L) (th := th) (dl := dl) (dw := dw) (tw := tw) (tall := tall) (2 + (1 + 1)) l (setI l (ofI T 0 th) 0) (new T th) ⟨.idle, 3, false, 0⟩ (by
    rw [new_core, steps_lead (pin_leads 0 false 0) 2 _ l (pinL T l th) _ _ (1, 0, 0, 0, 0) (PiM.pinA_1 _ _) b1 (PiM.pinA_0 _ _)]
    rw [steps_lead (pop_leads 0 false 0) 1 _ _ (pinL T l th) _ sp (1, 3, 0, 0, 0) (PoM.popA_1 _ _ _ _) b2 b3, b4, if_pos rfl]
    exact steps_lead (leave_leads 3 false 0) 1 0 _ _ _ _ (2, ofI T 0 th, 0, 0, 0) (PiM.pinA_2 _ _) b6 (PiM.pinA_0 _ _))
  have hpl : s2.pl = .idle := congrArg Co.pl e2
  exact ⟨s2, e1, by unfold stA; rw [hpl]; rfl, congrArg Co.err e2, b7⟩
end Go.Proofs.YtlagghghbpbcbaaGreatDoor.SrM

/- Timers that are made in all slots, one step of any of their makers at a time, in plain arithmetic. No program is named. -/
namespace Go.Proofs.YtlagghghbpbcbaaGreatDoor.MiM
open DM PM CM BM MM Runs
set_option linter.unusedVariables false
set_option linter.unusedSimpArgs false

theorem minA_fits {T L i dw tw : Int} {s : St} (h : Ok s) (hd : Word dw) (ht : Word tw) {d : D} (ha : minA T L i dw tw s = some d) : DM.Fits d := by
  have hc := k_cases h
  obtain ⟨h1, h2, h3, h4⟩ := h
  obtain ⟨k, sa, r, sq⟩ := s
  have hz : ∀ j, -9223372036854775808 ≤ atI T L i j ∧ atI T L i j ≤ 9223372036854775807 := fun j => at_fits _ _ _ _
  have h0 := word_zero
  simp only at hc h2 h3 h4
  rcases hc with rfl | rfl | rfl | rfl | rfl | rfl | rfl | rfl
  · cases ha; exact ⟨hz _, h0, h0, h0⟩
  · cases ha; exact ⟨hz _, h2, h0, h0⟩
  · cases ha; exact ⟨by simp, by simp, by simp, by simp⟩
  · cases ha; exact ⟨hz _, hd, h0, h3⟩
  · cases ha; exact ⟨hz _, h4, h0, h3⟩
  · cases ha; exact ⟨hz _, ht, h0, h3⟩
  · cases ha; exact ⟨hz _, by simp, by simp, h3⟩
  · cases ha

/-- All makers, of which the m-th is that of the slot m + 1, and the words, behind so many deeds at most. -/
structure Inv (T S L : Nat) (G : Int) (n : Nat) (l : List Int) (ss : List St) : Prop where
  len : l.length = wordsN T S L
  fits : BM.Fits l
  many : ss.length = S
  ok : ∀ s ∈ ss, Ok s
  count : 0 ≤ getI l 2 ∧ getI l 2 ≤ (n : Int)
  state : ∀ (m : Nat) s, ss[m]? = some s → getI l (atI T L ((m : Int) + 1) 0) = SM.stI G (if s.k ≤ 1 then 0 else 1)
  refs : ∀ (m : Nat) s, ss[m]? = some s → 1 ≤ s.k → s.sa = SM.stI G 1 ∧ s.r = RM.ofI G ((m : Int) + 1)
  seqs : ∀ (m : Nat) s, ss[m]? = some s → 3 ≤ s.k → s.sq < getI l 2
  seqw : ∀ (m : Nat) s, ss[m]? = some s → 5 ≤ s.k → getI l (atI T L ((m : Int) + 1) 2) = s.sq
  hold : ∀ (m : Nat) s, ss[m]? = some s → 7 ≤ s.k → getI l (atI T L ((m : Int) + 1) 4) = 2
  apart : ∀ (a b : Nat) s t, ss[a]? = some s → ss[b]? = some t → a ≠ b → 3 ≤ s.k → 3 ≤ t.k → s.sq ≠ t.sq

theorem lt_eq {a b c : Int} (h : a < b) (e : b = c) : a < c := e ▸ h
section
variable {T S L : Nat} {G : Int} {n m : Nat} {l : List Int} {ss : List St}
/-- Where a slot's words are. -/
theorem at_m {a : Nat} (hT : T ≤ 8) (hS : S ≤ 64) (hL : L ≤ 8) (hm : m < S) (ha : a ≤ 5) : ∃ b : Nat, atI T L ((m : Int) + 1) (a : Int) = (b : Int) ∧ b = atN T L (m + 1) a ∧ 4 ≤ b ∧ b < wordsN T S L := by
  have h := at_nat (a := a) hT hS hL (show 1 ≤ m + 1 by omega) (show m + 1 ≤ S by omega) ha
  simpa using h
/-- A word of one slot turned: that is so, and no other one is, nor is the serial. -/
theorem turn_at {a : Nat} (hT : T ≤ 8) (hS : S ≤ 64) (hL : L ≤ 8) (hm : m < S) (ha : a ≤ 5) (hl : l.length = wordsN T S L) (v : Int) :
    getI (setI l (atI T L ((m : Int) + 1) (a : Int)) v) (atI T L ((m : Int) + 1) (a : Int)) = v ∧ getI (setI l (atI T L ((m : Int) + 1) (a : Int)) v) 2 = getI l 2 ∧
      ∀ (m' a' : Nat), m' < S → a' ≤ 5 → ¬ (m' = m ∧ a' = a) → getI (setI l (atI T L ((m : Int) + 1) (a : Int)) v) (atI T L ((m' : Int) + 1) (a' : Int)) = getI l (atI T L ((m' : Int) + 1) (a' : Int)) := by
  obtain ⟨b, hb, eb, b4, bw⟩ := at_m hT hS hL hm ha
  rw [hb]
  refine ⟨get_set (there_in hl bw) v, get_other (by omega), fun m' a' hm' ha' hne => ?_⟩
  obtain ⟨c, hc, ec, c4, cw⟩ := at_m hT hS hL hm' ha'
  rw [hc]
  refine get_other fun e => ?_
  have e1 : b = c := by omega
  have := at_apart (T := T) (L := L) (show 1 ≤ m + 1 by omega) (show 1 ≤ m' + 1 by omega) ha ha' (by omega)
  omega
/-- One maker's step. -/
theorem Inv.turn (h : Inv T S L G n l ss) {s' : St} {l' : List Int} (hlen : l'.length = l.length) (hfits : BM.Fits l') (hok : Ok s') (hc : getI l 2 ≤ getI l' 2 ∧ getI l' 2 ≤ getI l 2 + 1)
    (hoth : ∀ (m' a' : Nat), m' < S → m' ≠ m → a' ≤ 5 → getI l' (atI T L ((m' : Int) + 1) (a' : Int)) = getI l (atI T L ((m' : Int) + 1) (a' : Int)))
    (hst : getI l' (atI T L ((m : Int) + 1) 0) = SM.stI G (if s'.k ≤ 1 then 0 else 1)) (hr : 1 ≤ s'.k → s'.sa = SM.stI G 1 ∧ s'.r = RM.ofI G ((m : Int) + 1))
    (hsq : 3 ≤ s'.k → s'.sq < getI l' 2) (h5 : 5 ≤ s'.k → getI l' (atI T L ((m : Int) + 1) 2) = s'.sq) (h7 : 7 ≤ s'.k → getI l' (atI T L ((m : Int) + 1) 4) = 2)
    (hap : 3 ≤ s'.k → ∀ (b : Nat) t, ss[b]? = some t → b ≠ m → 3 ≤ t.k → s'.sq ≠ t.sq) : Inv T S L G (n + 1) l' (ss.set m s') := by
  have key : ∀ (j : Nat) s, (ss.set m s')[j]? = some s → (j = m ∧ s = s') ∨ (j ≠ m ∧ ss[j]? = some s ∧ j < S) := by
    intro j s hj
    by_cases e : j = m
    · subst e
      refine .inl ⟨rfl, ?_⟩
      rw [List.getElem?_set] at hj
      simp only [if_true] at hj
      split at hj
      · exact (Option.some.inj hj).symm
      · cases hj
    · rw [List.getElem?_set_ne (fun q => e q.symm)] at hj
      exact .inr ⟨e, hj, by have := (List.getElem?_eq_some_iff.1 hj).1; rw [← h.many]; exact this⟩
  have hcount := h.count
  refine ⟨hlen.trans h.len, hfits, by rw [List.length_set]; exact h.many, ?_, ⟨by omega, by simp only [Int.natCast_add, Int.natCast_one]; omega⟩, ?_, ?_, ?_, ?_, ?_, ?_⟩
  · intro s hs
    rcases List.mem_or_eq_of_mem_set hs with h1 | h1
    · exact h.ok s h1
    · rw [h1]; exact hok
  · intro j s hj
    rcases key j s hj with ⟨rfl, rfl⟩ | ⟨e, hs, hS⟩
    · exact hst
    · have := hoth j 0 hS e (by omega)
      simp only [Int.natCast_zero, Int.ofNat_zero] at this
      rw [← h.state j s hs]
      exact this
  · intro j s hj hk
    rcases key j s hj with ⟨rfl, rfl⟩ | ⟨e, hs, hS⟩
    · exact hr hk
    · exact h.refs j s hs hk
  · intro j s hj hk
    rcases key j s hj with ⟨rfl, rfl⟩ | ⟨e, hs, hS⟩
    · exact hsq hk
    · have := h.seqs j s hs hk; omega
  · intro j s hj hk
    rcases key j s hj with ⟨rfl, rfl⟩ | ⟨e, hs, hS⟩
    · exact h5 hk
    · rw [← h.seqw j s hs hk]
      exact hoth j 2 hS e (by omega)
  · intro j s hj hk
    rcases key j s hj with ⟨rfl, rfl⟩ | ⟨e, hs, hS⟩
    · exact h7 hk
    · rw [← h.hold j s hs hk]
      exact hoth j 4 hS e (by omega)
  · intro a b s t ha hb hne hs ht
    rcases key a s ha with ⟨rfl, rfl⟩ | ⟨ea, hsa, _⟩
    · rcases key b t hb with ⟨rfl, rfl⟩ | ⟨eb, htb, _⟩
      · exact absurd rfl hne
      · exact hap hs b t htb eb ht
    · rcases key b t hb with ⟨rfl, rfl⟩ | ⟨eb, htb, _⟩
      · exact fun e => hap ht a s hsa ea hs e.symm
      · exact h.apart a b s t hsa htb hne hs ht
/-- A deed more is none that was not done. -/
theorem Inv.idle (h : Inv T S L G n l ss) : Inv T S L G (n + 1) l ss :=
  ⟨h.len, h.fits, h.many, h.ok, ⟨h.count.1, by have := h.count.2; simp only [Int.natCast_add, Int.natCast_one]; omega⟩, h.state, h.refs, h.seqs, h.seqw, h.hold, h.apart⟩
theorem Inv.step (h : Inv T S L G n l ss) (hT : T ≤ 8) (hS : S ≤ 64) (hL : L ≤ 8) (hG : 0 ≤ G ∧ G ≤ 4294967295) (hn : n ≤ 300) {s : St} {dw tw : Int} (hdw : Word dw) (htw : Word tw) (hm : ss[m]? = some s) {d : D} (hd : minA T L ((m : Int) + 1) dw tw s = some d) :
    Inv T S L G (n + 1) (nextD l d) (ss.set m (minT ((m : Int) + 1) s (foundD l d))) := by
  have hmS : m < S := by have := (List.getElem?_eq_some_iff.1 hm).1; rw [← h.many]; exact this
  have hok := h.ok s (List.mem_of_getElem? hm)
  have hdf := minA_fits hok hdw htw hd
  have hfit := fits_next h.fits hdf
  have hok' := minT_ok (i := (m : Int) + 1) hok (show Word (foundD l d) from fits_found h.fits d)
  have hst := h.state m s hm
  have hr := h.refs m s hm
  have hsq := h.seqs m s hm
  have h5 := h.seqw m s hm
  have h7 := h.hold m s hm
  have hcount := h.count
  have hap : 3 ≤ s.k → ∀ (b : Nat) t, ss[b]? = some t → b ≠ m → 3 ≤ t.k → s.sq ≠ t.sq := fun hk b t hb hne ht => h.apart m b s t hm hb (fun e => hne e.symm) hk ht
  have hc := k_cases hok
  obtain ⟨k, sa, r, sq⟩ := s
  have tn : ∀ {a : Nat}, a ≤ 5 → ∀ v, _ := fun {a} ha v => turn_at (a := a) hT hS hL hmS ha h.len v
  simp only at hc hst hr hsq h5 h7 hap
  have hG1 : ∀ x : Int, 0 ≤ x → x ≤ 4294967295 → SM.stI G x / 4294967296 = G := fun x _ _ => SM.stI_gen hG.1 hG.2
  rcases hc with rfl | rfl | rfl | rfl | rfl | rfl | rfl | rfl
  · cases hd
    rw [nextD_1] at hfit ⊢
    rw [foundD_yes (by simp)] at hok' ⊢
    simp only at hok' ⊢
    rw [if_pos (by omega)] at hst
    rw [hst] at hok' ⊢
    unfold minT at hok' ⊢
    simp only at hok' ⊢
    rw [hG1 0 (by omega) (by omega)] at hok' ⊢
    exact h.turn rfl hfit hok' ⟨by omega, by omega⟩ (fun _ _ _ _ _ => rfl) (by rw [hst, if_pos (by simp)]) (fun _ => ⟨rfl, rfl⟩) (fun q => by simp at q) (fun q => by simp at q) (fun q => by simp at q) (fun q => by simp at q)
  · cases hd
    rw [nextD_2] at hfit ⊢
    obtain ⟨t1, t2, t3⟩ := tn (a := 0) (by omega) sa
    simp only [Int.natCast_zero, Int.ofNat_zero] at t1 t2 t3
    change getI (setI l (atI T L ((m : Int) + 1) 0) sa) _ = _ at t1 t2
    unfold minT at hok' ⊢
    simp only at hok' ⊢
    refine h.turn (by rw [setI_length]) hfit hok' ⟨by rw [t2]; omega, by rw [t2]; omega⟩ (fun m' a' h1 h2 h3 => t3 m' a' h1 h3 (fun e => h2 e.1)) (by rw [t1, (hr (by omega)).1, if_neg (by simp)]) (fun _ => hr (by omega)) (fun q => by simp at q) (fun q => by simp at q) (fun q => by simp at q) (fun q => by simp at q)
  · cases hd
    rw [nextD_4] at hfit ⊢
    rw [foundD_yes (by simp)] at hok' ⊢
    simp only at hok' ⊢
    unfold minT at hok' ⊢
    simp only at hok' ⊢
    have hw : 2 < wordsN T S L := by unfold wordsN; omega
    have e1 : (getI l 2 + 1) % 18446744073709551616 = getI l 2 + 1 := by omega
    unfold addI at hfit ⊢
    rw [e1] at hfit ⊢
    have t2 : getI (setI l 2 (getI l 2 + 1)) 2 = getI l 2 + 1 := get_set (there_in (j := 2) h.len hw) _
    have t3 : ∀ (m' a' : Nat), m' < S → a' ≤ 5 → getI (setI l 2 (getI l 2 + 1)) (atI T L ((m' : Int) + 1) (a' : Int)) = getI l (atI T L ((m' : Int) + 1) (a' : Int)) := fun m' a' h1 h2 => by
      obtain ⟨b, hb, _, b4, _⟩ := at_m (m := m') (a := a') hT hS hL h1 h2
      rw [hb]
      exact get_other (by omega)
    have t0 := t3 m 0 hmS (by omega)
    simp only [Int.natCast_zero, Int.ofNat_zero] at t0
    refine h.turn (by rw [setI_length]) hfit hok' ⟨by rw [t2]; omega, by rw [t2]; omega⟩ (fun m' a' h1 h2 h3 => t3 m' a' h1 h3) ?_ (fun _ => hr (by omega)) (fun q => by rw [t2]; simp only; omega) (fun q => by simp at q) (fun q => by simp at q) (fun q b t hb hne ht => ?_)
    · rw [if_neg (by simp)] at hst ⊢
      rw [← hst]
      exact t0
    · have := h.seqs b t hb ht
      show getI l 2 ≠ t.sq
      omega
  · cases hd
    rw [nextD_2] at hfit ⊢
    obtain ⟨t1, t2, t3⟩ := tn (a := 1) (by omega) dw
    have t0 := t3 m 0 hmS (by omega) (by omega)
    simp only [Int.natCast_zero, Int.ofNat_zero, Int.natCast_one, Int.ofNat_one] at t0 t1 t2 t3
    unfold minT at hok' ⊢
    simp only at hok' ⊢
    refine h.turn (by rw [setI_length]) hfit hok' ⟨Int.le_of_eq t2.symm, by have := t2; omega⟩ (fun m' a' h1 h2 h3 => t3 m' a' h1 h3 (fun e => h2 e.1)) ?_ (fun _ => hr (by omega)) (fun q => lt_eq (hsq (by omega)) t2.symm) (fun q => by simp at q) (fun q => by simp at q) (fun _ => hap (by omega))
    rw [if_neg (by simp)] at hst ⊢
    exact t0.trans hst
  · cases hd
    rw [nextD_2] at hfit ⊢
    obtain ⟨t1, t2, t3⟩ := tn (a := 2) (by omega) sq
    have t0 := t3 m 0 hmS (by omega) (by omega)
    simp only [Int.natCast_zero, Int.ofNat_zero] at t0
    unfold minT at hok' ⊢
    simp only at hok' ⊢
    refine h.turn (by rw [setI_length]) hfit hok' ⟨Int.le_of_eq t2.symm, by have := t2; show getI (setI l (atI T L ((m : Int) + 1) ((2 : Nat) : Int)) sq) 2 ≤ _; omega⟩ (fun m' a' h1 h2 h3 => t3 m' a' h1 h3 (fun e => h2 e.1)) ?_ (fun _ => hr (by omega)) (fun q => lt_eq (hsq (by omega)) t2.symm) (fun q => t1) (fun q => by simp at q) (fun _ => hap (by omega))
    rw [if_neg (by simp)] at hst ⊢
    exact t0.trans hst
  · cases hd
    rw [nextD_2] at hfit ⊢
    obtain ⟨t1, t2, t3⟩ := tn (a := 3) (by omega) tw
    have t0 := t3 m 0 hmS (by omega) (by omega)
    have t5 := t3 m 2 hmS (by omega) (by omega)
    simp only [Int.natCast_zero, Int.ofNat_zero] at t0
    unfold minT at hok' ⊢
    simp only at hok' ⊢
    refine h.turn (by rw [setI_length]) hfit hok' ⟨Int.le_of_eq t2.symm, by have := t2; show getI (setI l (atI T L ((m : Int) + 1) ((3 : Nat) : Int)) tw) 2 ≤ _; omega⟩ (fun m' a' h1 h2 h3 => t3 m' a' h1 h3 (fun e => h2 e.1)) ?_ (fun _ => hr (by omega)) (fun q => lt_eq (hsq (by omega)) t2.symm) (fun q => t5.trans (h5 (by omega))) (fun q => by simp at q) (fun _ => hap (by omega))
    rw [if_neg (by simp)] at hst ⊢
    exact t0.trans hst
  · cases hd
    rw [nextD_2] at hfit ⊢
    obtain ⟨t1, t2, t3⟩ := tn (a := 4) (by omega) 2
    have t0 := t3 m 0 hmS (by omega) (by omega)
    have t5 := t3 m 2 hmS (by omega) (by omega)
    simp only [Int.natCast_zero, Int.ofNat_zero] at t0
    unfold minT at hok' ⊢
    simp only at hok' ⊢
    refine h.turn (by rw [setI_length]) hfit hok' ⟨Int.le_of_eq t2.symm, by have := t2; show getI (setI l (atI T L ((m : Int) + 1) ((4 : Nat) : Int)) 2) 2 ≤ _; omega⟩ (fun m' a' h1 h2 h3 => t3 m' a' h1 h3 (fun e => h2 e.1)) ?_ (fun _ => hr (by omega)) (fun q => lt_eq (hsq (by omega)) t2.symm) (fun q => t5.trans (h5 (by omega))) (fun q => t1) (fun _ => hap (by omega))
    rw [if_neg (by simp)] at hst ⊢
    exact t0.trans hst
  · cases hd
/-- What a slot's state is at the beginning. -/
theorem lay_state (g : Int) (hT : T ≤ 8) (hS : S ≤ 64) (hL : L ≤ 8) {i : Nat} (hi : 1 ≤ i) (hiS : i ≤ S) : ∀ k, k ≤ S → i ≤ k → getI (layL (wordsN T S L) T S L g k) (atI T L (i : Int) 0) = g
  | 0, _, h => by omega
  | k + 1, hk, h => by
    obtain ⟨a, ha, ea, ha4, hal⟩ := at_nat (a := 0) hT hS hL hi hiS (by omega)
    obtain ⟨b, hb, eb, hb4, hbl⟩ := at_nat (a := 0) hT hS hL (show 1 ≤ k + 1 by omega) hk (by omega)
    obtain ⟨c, hc, ec, hc4, hcl⟩ := at_nat (a := 5) hT hS hL (show 1 ≤ k + 1 by omega) hk (by omega)
    simp only [Int.natCast_add, Int.natCast_one] at hb hc
    change atI T L (i : Int) 0 = _ at ha
    change atI T L ((k : Int) + 1) 0 = _ at hb
    change atI T L ((k : Int) + 1) 5 = _ at hc
    have n1 : atN T L (k + 1) 5 ≠ atN T L i 0 := at_apart (by omega) hi (by omega) (by omega) (by omega)
    rw [lay_succ, ha, hb, hc, get_other (by omega)]
    by_cases e : i = k + 1
    · subst e
      obtain rfl : a = b := by omega
      refine get_set ?_ _
      unfold there
      rw [lay_length]
      omega
    · have n2 : atN T L (k + 1) 0 ≠ atN T L i 0 := at_apart (by omega) hi (by omega) (by omega) (by omega)
      have ih := lay_state g hT hS hL hi hiS k (by omega) (by omega)
      rw [ha] at ih
      rw [get_other (by omega), ih]
theorem Inv.start (hT : T ≤ 8) (hS : S ≤ 64) (hL : L ≤ 8) : Inv T S L G 0 (layL (wordsN T S L) (T : Int) (S : Int) (L : Int) (SM.stI G 0) S) (List.replicate S ⟨0, 0, 0, 0⟩) := by
  have hrep : ∀ (m : Nat) (s : St), (List.replicate S (⟨0, 0, 0, 0⟩ : St))[m]? = some s → s = ⟨0, 0, 0, 0⟩ ∧ m < S := by
    intro m s h
    rw [List.getElem?_replicate] at h
    split at h
    · exact ⟨(Option.some.inj h).symm, by assumption⟩
    · cases h
  have h2 := lay_low (SM.stI G 0) hT hS hL (j := 2) (by omega) (by omega) (by omega) S (Nat.le_refl _)
  change getI _ 2 = 0 at h2
  refine ⟨lay_length _ _ _ _ _ _, fits_lay _ _ _ ⟨SM.stI_lo _ _, SM.stI_hi _ _⟩ (by omega) _, List.length_replicate, ?_, ⟨by omega, by rw [h2]; simp⟩, ?_, ?_, ?_, ?_, ?_, ?_⟩
  · intro s hs
    rw [List.eq_of_mem_replicate hs]
    exact ok_new
  · intro m s h
    obtain ⟨rfl, hm⟩ := hrep m s h
    have := lay_state (SM.stI G 0) hT hS hL (i := m + 1) (by omega) (by omega) S (Nat.le_refl _) (by omega)
    simp only [Int.natCast_add, Int.natCast_one] at this
    rw [if_pos (by simp)]
    exact this
  · intro m s h hk
    obtain ⟨rfl, _⟩ := hrep m s h
    simp at hk
  · intro m s h hk
    obtain ⟨rfl, _⟩ := hrep m s h
    simp at hk
  · intro m s h hk
    obtain ⟨rfl, _⟩ := hrep m s h
    simp at hk
  · intro m s h hk
    obtain ⟨rfl, _⟩ := hrep m s h
    simp at hk
  · intro a b s t h h' hne hk
    obtain ⟨rfl, _⟩ := hrep a s h
    simp at hk
/-- A timer that is made. -/
theorem Inv.made (h : Inv T S L G n l ss) (hG : 0 ≤ G ∧ G ≤ 4294967295) {s : St} (hm : ss[m]? = some s) (hk : s.k = 7) (dl : Int) :
    refI s = RM.ofI G ((m : Int) + 1) ∧ keyI dl s = (dl, s.sq) ∧ SM.isI (getI l (atI T L ((m : Int) + 1) 0)) G 1 = true ∧ getI l (atI T L ((m : Int) + 1) 2) = s.sq ∧ getI l (atI T L ((m : Int) + 1) 4) = 2 := by
  refine ⟨?_, if_pos hk, ?_, h.seqw m s hm (by omega), h.hold m s hm (by omega)⟩
  · unfold refI
    rw [if_pos hk]
    exact (h.refs m s hm (by omega)).2
  · rw [h.state m s hm, if_neg (by omega), SM.is_st hG.1 hG.2 (by omega) (by omega) hG.1]
    simp
end
end Go.Proofs.YtlagghghbpbcbaaGreatDoor.MiM
