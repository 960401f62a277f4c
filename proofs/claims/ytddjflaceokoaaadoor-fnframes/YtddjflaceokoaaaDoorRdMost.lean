/-
  The walks of the reader's atMost and of strings.Clone; a scope with several labels. By the verifier.
-/
import Derived.Test.YtddjflaceokoaaaDoorRdSteps
import Derived.Test.YtddjflaceokoaaaDoorShelf
import Derived.Scope
import Derived.ScopeJumps
import Derived.WalkMore
namespace Go.Proofs.YtddjflaceokoaaaDoor
open Go.RowKit

set_option maxHeartbeats 1600000 in
theorem rdMost {es em : Addr} {W : World} {b : Nat} {text : ByteArray} (G : Hid (Gl es em W)) (hsz : text.size ≤ 1048576) (σ : Rst) (most : Int) (k : Nat) (hk : k ≤ 4) (code : Int) (w : World) (R : Hid (Rd es em W b text σ w)) :
    Calls Tryd.prog 48 #[.pointer (some ⟨b, 0, none⟩), .int .i64 most, .int .i64 k, .int .i64 code] w fun e w' => e = .returned (.int .i64 (σ.atMost text most k code).1) ∧ Rd es em W b text (σ.atMost text most k code).2 w' ∧ Kpt b w w' := by
  have T := rdNumber G hsz σ k hk w R
  have F := fun w1 (R1 : Hid (Rd es em W b text (σ.number text k).2 w1)) => rdFail (σ.number text k).2 (some (some code)) w1 R1
  simp only [Rst.atMost, Er.val] at F ⊢
  generalize hσ : (σ.number text k).2 = σ' at T F ⊢
  generalize hn : (σ.number text k).1 = n at T ⊢
  have hnum : σ.number text k = (n, σ') := by rw [← hσ, ← hn]
  rw [hnum]
  have T' : Hid _ := T
  have F' : Hid _ := F
  clear T F hσ hn hnum
  by_cases h : most < n
  · simp only [h, if_true]
    go_enter Tryd.func48, Tryd.ntmps48
    go_wp2_with fail
    refine Calls.mono T'.out ?_
    rintro e w1 ⟨rfl, R1, K1⟩
    have H1 : Hid (Rd es em W b text σ' w1 ∧ Kpt b w w1) := ⟨R1, K1⟩
    clear R1 K1
    go_wp2_with fail
    refine (F'.out _ H1.out.1).mono ?_
    rintro e w2 ⟨rfl, R2, K2⟩
    have H2 : Hid (Rd es em W b text (σ'.fail (some (some code))) w2 ∧ Kpt b w w2) := ⟨R2, H1.out.2.trans K2⟩
    clear R2 K2
    go_wp2
    go_ret
    exact ⟨rfl, H2.out⟩
  · simp only [h, if_false]
    go_enter Tryd.func48, Tryd.ntmps48
    go_wp2_with fail
    refine Calls.mono T'.out ?_
    rintro e w1 ⟨rfl, R1, K1⟩
    have H1 : Hid (Rd es em W b text σ' w1 ∧ Kpt b w w1) := ⟨R1, K1⟩
    clear R1 K1
    go_wp2
    go_ret
    exact ⟨rfl, H1.out⟩

theorem clone (s : ByteArray) (hs : s.size ≤ 1048576) (w : World) :
    Calls Tryd.prog 49 #[.string s] w fun e w' => e = .returned (.string s) ∧ Below w.heap.size w w' := by
  go_enter Tryd.func49, Tryd.ntmps49
  go_wp2_with fail
  refine (Tryd.stringslite_Clone s w (by omega)).mono ?_
  rintro e w1 ⟨rfl, b1⟩
  have B : Hid (Below w.heap.size w w1) := b1
  clear b1
  go_wp2
  go_ret
  exact ⟨rfl, B.out⟩

/-- As Q; by a goto to a label l: J l. -/
def jumps (J : Nat → Act → World → Prop) (Q : Exit → Act → World → Prop) : Exit → Act → World → Prop
  | .goto l, a, w => J l a w
  | e, a, w => Q e a w
theorem jumps_goto (J : Nat → Act → World → Prop) (Q : Exit → Act → World → Prop) (l : Nat) (a : Act) (w : World) : jumps J Q (.goto l) a w = J l a w := rfl
theorem jumps_ret (J : Nat → Act → World → Prop) (Q : Exit → Act → World → Prop) (a : Act) (w : World) : jumps J Q .ret a w = Q .ret a w := rfl

/-- A scope in which the run jumps to several labels: what holds at each, and a measure that every pass lowers. -/
theorem scope_many {P : Program} {a : Act} {w : World} {Q : Exit → Act → World → Prop} {c : Code} (rest : Nat → Code) (J : Nat → Act → World → Prop) (μ : Nat → Act → World → Nat) (hf : ∀ l a w, J l a w → findLabel c l = some (rest l))
    (first : c.wp P (jumps J Q) a w)
    (pass : ∀ l a w, J l a w → (rest l).wp P (jumps (fun l' a' w' => J l' a' w' ∧ μ l' a' w' < μ l a w) Q) a w) : (Code.scope c).wp P Q a w := by
  intro b k cs
  have hg : ∀ l a w, J l a w → gotoIn l (.inScope c :: k) = some (.code (rest l) :: .inScope c :: k) := fun l a w h => by simp [gotoIn, hf l a w h]
  have key : ∀ n l a w, μ l a w = n → J l a w → ∃ e a' w', Q e a' w' ∧ Arrives P (lone (b.at a (.code (rest l) :: .inScope c :: k)) cs w) b k cs e a' w' := by
    intro n
    induction n using Nat.strongRecOn with
    | _ n ih =>
      intro l a w hn hJ
      obtain ⟨e, a₁, w₁, hq, harr⟩ := pass l a w hJ b (.inScope c :: k) cs
      cases e with
      | normal => exact ⟨.normal, a₁, w₁, hq, Steps.trans harr (.one step_inScope)⟩
      | exit id => exact ⟨.exit id, a₁, w₁, hq, fun k' hk => harr k' (by simp [exitTo, hk])⟩
      | goto l' =>
        obtain ⟨hJ', hlt⟩ := hq
        obtain ⟨e₂, a₂, w₂, hq₂, harr₂⟩ := ih _ (by omega) l' a₁ w₁ rfl hJ'
        exact ⟨e₂, a₂, w₂, hq₂, .of_steps (harr _ (hg l' _ _ hJ')) harr₂⟩
      | ret => exact ⟨_, a₁, w₁, hq, harr⟩
      | panic ch => exact ⟨_, a₁, w₁, hq, harr⟩
      | outgrown => exact ⟨_, a₁, w₁, hq, harr⟩
  obtain ⟨e, a₁, w₁, hq, harr⟩ := first b (.inScope c :: k) cs
  cases e with
  | normal => exact ⟨.normal, a₁, w₁, hq, .head step_scope (Steps.trans harr (.one step_inScope))⟩
  | exit id => exact ⟨.exit id, a₁, w₁, hq, fun k' hk => .head step_scope (harr k' (by simp [exitTo, hk]))⟩
  | goto l' =>
    obtain ⟨e₂, a₂, w₂, hq₂, harr₂⟩ := key _ l' a₁ w₁ rfl hq
    exact ⟨e₂, a₂, w₂, hq₂, .of_steps (.head step_scope (harr _ (hg l' _ _ hq))) harr₂⟩
  | ret => exact ⟨_, a₁, w₁, hq, .of_steps (.one step_scope) harr⟩
  | panic ch => exact ⟨_, a₁, w₁, hq, .of_steps (.one step_scope) harr⟩
  | outgrown => exact ⟨_, a₁, w₁, hq, .of_steps (.one step_scope) harr⟩
end Go.Proofs.YtddjflaceokoaaaDoor
