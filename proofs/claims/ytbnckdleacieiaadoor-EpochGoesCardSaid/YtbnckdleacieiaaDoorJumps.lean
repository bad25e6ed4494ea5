/- A scope out of which the run jumps ahead, once, to one label: what lies behind the label is walked at the jump. No program is named. -/
import Derived.ScopeJumps
import Derived.WalkMore
namespace Go.Proofs.YtbnckdleacieiaaDoor.Jumps

theorem noGoto_jump {l : Nat} {J : Act → World → Prop} {Q : Exit → Act → World → Prop} : ∀ e a w, Exit.noGoto Q e a w → Exit.jump l J Q e a w
  | .goto _, _, _, h => h.elim
  | .normal, _, _, h => h
  | .exit _, _, _, h => h
  | .ret, _, _, h => h
  | .panic _, _, _, h => h
  | .outgrown, _, _, h => h
theorem wp_scope_ahead {P : Program} {a : Act} {w : World} {Q : Exit → Act → World → Prop} {c rest : Code} (l : Nat) (hf : findLabel c l = some rest)
    (h : c.wp P (Exit.jump l (fun a w => rest.wp P (Exit.noGoto Q) a w) Q) a w) : (Code.scope c).wp P Q a w := by
  refine wp_scope_jumps l (fun a w => rest.wp P (Exit.noGoto Q) a w) (fun _ _ => 0) hf h fun a w hJ => ?_
  intro b k cs
  obtain ⟨e, a', w', hq, harr⟩ := hJ b k cs
  exact ⟨e, a', w', noGoto_jump e a' w' hq, harr⟩
section
variable {Q : Exit → Act → World → Prop} {a : Act} {w : World} {l : Nat} {J : Act → World → Prop}
theorem jump_normal : Exit.jump l J Q .normal a w = Q .normal a w := rfl
theorem jump_exit (id : Nat) : Exit.jump l J Q (.exit id) a w = Q (.exit id) a w := rfl
theorem jump_ret : Exit.jump l J Q .ret a w = Q .ret a w := rfl
theorem jump_goto (h : J a w) : Exit.jump l J Q (.goto l) a w := ⟨rfl, h⟩
end
end Go.Proofs.YtbnckdleacieiaaDoor.Jumps
