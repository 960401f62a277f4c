/-
  The shapes of a path in the program: what they are as values, and the walk of the program's pathFrom. By the verifier.
-/
import Derived.Test.YtfdapmchpikfiaaNdOkI
namespace Go.Proofs.Ytfdapmchpikfiaa
open Go.RowKit

/-- A path as a shape of the program's own. -/
def pv : List Int → Value
  | [] => .iface 57 (.agg #[])
  | [_] => .iface 77 (.agg #[])
  | x :: y :: r => .iface 76 (.agg #[.int .i64 x, pv (y :: r)])
theorem pv_cons {x : Int} {p : List Int} (h : p ≠ []) : pv (x :: p) = .iface 76 (.agg #[.int .i64 x, pv p]) := by
  cases p with
  | nil => exact absurd rfl h
  | cons y r => rfl
theorem pv_shape (p : List Int) : ∃ t v, pv p = .iface t v := by
  cases p with
  | nil => exact ⟨_, _, rfl⟩
  | cons x r =>
    cases r with
    | nil => exact ⟨_, _, rfl⟩
    | cons y r => exact ⟨_, _, rfl⟩
/-- It ends at number 0. -/
def ends0 : List Int → Prop
  | [] => True
  | [x] => x = 0
  | _ :: y :: r => ends0 (y :: r)
theorem ends0_cons {x : Int} {p : List Int} (h : p ≠ []) : ends0 (x :: p) = ends0 p := by
  cases p with
  | nil => exact absurd rfl h
  | cons y r => rfl
theorem path_up {l : List Nd} {n : Int} (h : tok l = true) (h0 : 0 < n) (h1 : n < l.length) : path l n = n :: path l (ndAt l n.toNat).up ∧ path l (ndAt l n.toNat).up ≠ [] ∧ 0 ≤ (ndAt l n.toNat).up ∧ (ndAt l n.toNat).up < n := by
  have hk := tok_at h (k := n.toNat) (by omega)
  have hu := hk.2.2.2.2 (by omega)
  refine ⟨path_next h (by omega) h1, ?_, hu, by omega⟩
  have := path_pos h hu (by omega)
  intro e
  rw [e] at this
  simp at this
theorem path_top {l : List Nd} (h : tok l = true) : path l 0 = [0] := by
  have h1 := (tok_iff.1 h).1
  rw [path_next h (by omega) (by omega)]
  have := (treeB_iff.1 ((tok_iff.1 h).2.2 0 (by omega))).2.2.1 rfl
  rw [show (0 : Int).toNat = 0 from rfl, this]
  rfl
theorem path_ends {l : List Nd} (h : tok l = true) : ∀ (f : Nat) (n : Int), 0 ≤ n → n < l.length → n.toNat ≤ f → ends0 (path l n) := by
  intro f
  induction f with
  | zero =>
    intro n h0 h1 hf
    obtain rfl : n = 0 := by omega
    rw [path_top h]
    rfl
  | succ f ih =>
    intro n h0 h1 hf
    by_cases hn : n = 0
    · subst hn
      rw [path_top h]
      rfl
    · obtain ⟨e, q1, q2, q3⟩ := path_up h (by omega) h1
      rw [e, ends0_cons q1]
      exact ih _ q2 (by omega) (by omega)

set_option maxHeartbeats 1600000 in
set_option maxRecDepth 100000 in
theorem implPathTop (a : Option Addr) (cap len : Nat) (w : World) :
    Calls Try.prog 38 #[.slice a len cap, .int .i64 0] w fun e w' => e = .returned (.iface 77 (.agg #[])) ∧ w' = w := by
  go_enter Try.func38, Try.ntmps38
  go_wp2
  go_ret
  exact ⟨rfl, rfl⟩

set_option maxHeartbeats 1600000 in
set_option maxRecDepth 100000 in
theorem implPathFrom (a : Option Addr) (cap : Nat) (l : List Nd) (h : tok l = true) : ∀ (f : Nat) (n : Int) (w : World), 0 ≤ n → n < l.length → n.toNat ≤ f → Hid (NdsAt w a l) →
    Calls Try.prog 38 #[.slice a l.length cap, .int .i64 n] w fun e w' => e = .returned (pv (path l n)) ∧ w' = w := by
  intro f
  induction f with
  | zero =>
    intro n w h0 h1 hf _
    obtain rfl : n = 0 := by omega
    rw [path_top h]
    exact implPathTop a cap l.length w
  | succ f ih =>
    intro n w h0 h1 hf H
    by_cases hn : n = 0
    · subst hn
      rw [path_top h]
      exact implPathTop a cap l.length w
    · obtain ⟨e, q1, q2, q3⟩ := path_up h (by omega) h1
      obtain ⟨k, rfl⟩ : ∃ k : Nat, n = (k : Int) := ⟨n.toNat, by omega⟩
      rw [Int.toNat_natCast] at e q1 q2 q3
      have I := fun (_ : Nat) => ih (ndAt l k).up w q2 (by omega) (by omega) H
      rw [e, pv_cons q1]
      obtain ⟨b1, o1, ha1, -, -⟩ := H.out k (by omega)
      subst ha1
      have c0 := (H.out.cells (k := k) (by omega)).1
      obtain ⟨ty, tv, hq⟩ := pv_shape (path l (ndAt l k).up)
      rw [hq] at I ⊢
      generalize (ndAt l k).up = u at I c0
      have hl : (k : Int) < (l.length : Int) := h1
      have h12 := (tok_iff.1 h).2.1
      generalize l.length = len at I hl h12 ⊢
      have I' : Hid _ := I
      clear I e q1 q2 q3 ih H h h1 hf hq
      go_enter Try.func38, Try.ntmps38
      go_wp2_with fail
      refine (I'.out 0).mono ?_
      rintro e w' ⟨rfl, hw⟩
      obtain rfl := hw.symm
      go_wp2
      go_ret
      exact ⟨rfl, rfl⟩
end Go.Proofs.Ytfdapmchpikfiaa
