/- A scope with several labels: what holds at each jump, and a measure that falls. No conditions on the program. -/
import Derived.ScopeJumps
import Derived.WalkMore
import Derived.Tactics
namespace Go.Proofs.Ytgjbjafodkiilaa

/-- As Q; by a goto to a label: what is asked of it. -/
def toAny (J : Nat → Act → World → Prop) (Q : Exit → Act → World → Prop) : Exit → Act → World → Prop
  | .goto l, a, w => J l a w
  | e, a, w => Q e a w

section
variable {P : Program} {Q : Exit → Act → World → Prop}

theorem toAny_goto (J : Nat → Act → World → Prop) (l : Nat) (a : Act) (w : World) : toAny J Q (.goto l) a w = J l a w := rfl
theorem toAny_ret (J : Nat → Act → World → Prop) (a : Act) (w : World) : toAny J Q .ret a w = Q .ret a w := rfl
theorem toAny_normal (J : Nat → Act → World → Prop) (a : Act) (w : World) : toAny J Q .normal a w = Q .normal a w := rfl

theorem wp_scope_labels {c : Code} {a : Act} {w : World} (J : Nat → Act → World → Prop) (μ : Nat → Act → World → Nat) (R : Nat → Code) (hf : ∀ l a w, J l a w → findLabel c l = some (R l))
    (first : c.wp P (toAny J Q) a w)
    (pass : ∀ l a w, J l a w → (R l).wp P (toAny (fun l' a' w' => J l' a' w' ∧ μ l' a' w' < μ l a w) Q) a w) : (Code.scope c).wp P Q a w := by
  intro b k cs
  have hg : ∀ l a w, J l a w → gotoIn l (.inScope c :: k) = some (.code (R l) :: .inScope c :: k) := fun l a w h => by simp [gotoIn, hf l a w h]
  have key : ∀ n l a w, μ l a w = n → J l a w → ∃ e a' w', Q e a' w' ∧ Arrives P (lone (b.at a (.code (R l) :: .inScope c :: k)) cs w) b k cs e a' w' := by
    intro n
    induction n using Nat.strongRecOn with
    | _ n ih =>
      intro l a w hn hJ
      obtain ⟨e, a₁, w₁, hq, harr⟩ := pass l a w hJ b (.inScope c :: k) cs
      cases e with
      | normal => exact ⟨.normal, a₁, w₁, hq, Steps.trans harr (.one step_inScope)⟩
      | exit id => exact ⟨.exit id, a₁, w₁, hq, fun k' hk => harr k' (by simp [exitTo, hk])⟩
      | goto l' =>
        obtain ⟨hJ', hlt⟩ := hq
        obtain ⟨e₂, a₂, w₂, hq₂, harr₂⟩ := ih _ (by omega) l' a₁ w₁ rfl hJ'
        exact ⟨e₂, a₂, w₂, hq₂, .of_steps (harr _ (hg _ _ _ hJ')) harr₂⟩
      | ret => exact ⟨_, a₁, w₁, hq, harr⟩
      | panic ch => exact ⟨_, a₁, w₁, hq, harr⟩
      | outgrown => exact ⟨_, a₁, w₁, hq, harr⟩
  obtain ⟨e, a₁, w₁, hq, harr⟩ := first b (.inScope c :: k) cs
  cases e with
  | normal => exact ⟨.normal, a₁, w₁, hq, .head step_scope (Steps.trans harr (.one step_inScope))⟩
  | exit id => exact ⟨.exit id, a₁, w₁, hq, fun k' hk => .head step_scope (harr k' (by simp [exitTo, hk]))⟩
  | goto l' =>
    have hJ' : J l' a₁ w₁ := hq
    obtain ⟨e₂, a₂, w₂, hq₂, harr₂⟩ := key _ l' a₁ w₁ rfl hJ'
    exact ⟨e₂, a₂, w₂, hq₂, .of_steps (.head step_scope (harr _ (hg _ _ _ hJ'))) harr₂⟩
  | ret => exact ⟨_, a₁, w₁, hq, .of_steps (.one step_scope) harr⟩
  | panic ch => exact ⟨_, a₁, w₁, hq, .of_steps (.one step_scope) harr⟩
  | outgrown => exact ⟨_, a₁, w₁, hq, .of_steps (.one step_scope) harr⟩

/-- The same, of three labels; what begins with the first one may use what holds there. -/
theorem wp_scope_three {c r0 r1 r2 : Code} {a : Act} {w : World} (J : Nat → Act → World → Prop) (μ : Nat → Act → World → Nat) (h0 : findLabel c 0 = some (Code.skip.seq r0)) (h1 : findLabel c 1 = some r1) (h2 : findLabel c 2 = some r2)
    (hJ : ∀ l a w, J l a w → l = 0 ∨ l = 1 ∨ l = 2)
    (first : (∀ a w, J 0 a w → r0.wp P (toAny J Q) a w) → c.wp P (toAny J Q) a w)
    (p0 : ∀ a w, J 0 a w → r0.wp P (toAny (fun l' a' w' => J l' a' w' ∧ μ l' a' w' < μ 0 a w) Q) a w)
    (p1 : ∀ a w, J 1 a w → r1.wp P (toAny (fun l' a' w' => J l' a' w' ∧ μ l' a' w' < μ 1 a w) Q) a w)
    (p2 : ∀ a w, J 2 a w → r2.wp P (toAny (fun l' a' w' => J l' a' w' ∧ μ l' a' w' < μ 2 a w) Q) a w) : (Code.scope c).wp P Q a w := by
  refine wp_scope_labels J μ (fun l => (findLabel c l).getD .skip) (fun l a w h => ?_) (first fun a w h => ?_) (fun l a w h => ?_)
  · rcases hJ l a w h with rfl | rfl | rfl
    · rw [h0]; rfl
    · rw [h1]; rfl
    · rw [h2]; rfl
  · exact Code.wp_mono (fun e a w q => by cases e <;> first | exact q | exact q.1) (p0 a w h)
  · rcases hJ l a w h with rfl | rfl | rfl
    · rw [h0]; exact wp_seq (wp_skip (p0 a w h))
    · rw [h1]; exact p1 a w h
    · rw [h2]; exact p2 a w h
end
end Go.Proofs.Ytgjbjafodkiilaa
