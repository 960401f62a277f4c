/-
  The closures that a trie is made of: what each answers, wherever what it has captured lies unturned. By the verifier.
-/
import Derived.Test.YtilnjmpnhadidaaRtBit
import Derived.Test.YtilnjmpnhadidaaM1
namespace Go.Proofs.Ytilnjmpnhadidaa
open Go.RowKit

/-- A pair of branches that are not laid yet. -/
def zeroTwo : Obj := .cells #[.nilFunc, .nilFunc] 83
/-- A closure that tells the hop of every address that begins with p, as long as what it has captured lies as it lay. -/
def Answers (w : World) (v : Value) (d : Nat) (p : Int) (h : Int → Int) : Prop :=
  ∃ (g : FuncId) (cb : Array Value) (D : Nat → Prop), v = .func (.func g) #[] cb ∧ Enters Try.prog g ∧ (∀ k, D k → k < w.heap.size ∧ w.heap[k]? ≠ some zeroTwo) ∧
    ∀ (W : World) (addr : Int), 0 ≤ addr → addr ≤ 4294967295 → addr / 2 ^ (32 - d) = p → (∀ k, D k → W.heap[k]? = w.heap[k]?) → Calls Try.prog g (#[.int .i64 addr] ++ cb) W fun e w' => e = .returned (.int .i64 (h addr)) ∧ w' = W
theorem Answers.other {w w' : World} {v : Value} {d : Nat} {p : Int} {h : Int → Int} (x : Answers w v d p h) (hs : w.heap.size ≤ w'.heap.size) (hk : ∀ k, k < w.heap.size → w.heap[k]? ≠ some zeroTwo → w'.heap[k]? = w.heap[k]?) : Answers w' v d p h := by
  obtain ⟨g, cb, D, e, he, hD, hc⟩ := x
  refine ⟨g, cb, D, e, he, fun k hk' => ?_, fun W addr a0 a1 ap hW => hc W addr a0 a1 ap fun k hk' => ?_⟩
  · obtain ⟨h1, h2⟩ := hD k hk'
    exact ⟨by omega, by rw [hk k h1 h2]; exact h2⟩
  · obtain ⟨h1, h2⟩ := hD k hk'
    rw [hW k hk', hk k h1 h2]
theorem Answers.below {w w' : World} {v : Value} {d : Nat} {p : Int} {h : Int → Int} (x : Answers w v d p h) (b : Below w.heap.size w w') : Answers w' v d p h :=
  x.other b.size fun k hk _ => b.block k hk
theorem cell_same {w W : World} {B off : Nat} {v : Value} (h : W.heap[B]? = w.heap[B]?) (c : w.cell? ⟨B, off, none⟩ = some v) : W.cell? ⟨B, off, none⟩ = some v := by
  rw [World.cell?_of_block (w := w) (w' := W) (a := ⟨B, off, none⟩) h]; exact c

theorem noneAnswers (w : World) (d : Nat) (p : Int) : Answers w (.func (.func 67) #[] #[]) d p (hopL []) := by
  refine ⟨_, _, fun _ => False, rfl, enters_of Try.func67 (by kernel_rfl) rfl, fun _ h => h.elim, fun W addr _ _ _ _ => ?_⟩
  show Calls Try.prog 67 #[.int .i64 addr] W _
  go_enter Try.func67, Try.ntmps67
  go_wp2
  go_ret
  exact ⟨rfl, rfl⟩

theorem implOneClosure (r : Rt) (hr : r.ok = true) (B : Nat) (addr : Int) (a0 : 0 ≤ addr) (a1 : addr ≤ 4294967295) (w : World) (c0 : w.cell? ⟨B, 0, none⟩ = some (.int .i64 r.net)) (c1 : w.cell? ⟨B, 1, none⟩ = some (.int .i64 r.bits)) (c2 : w.cell? ⟨B, 2, none⟩ = some (.int .i64 r.hop)) :
    Calls Try.prog 88 #[.int .i64 addr, .pointer (some ⟨B, 0, none⟩)] w fun e w' => e = .returned (.int .i64 (hopL [r] addr)) ∧ w' = w := by
  rw [hop_one r addr hr]
  obtain ⟨k1, k2, k3, _⟩ := ok_parts hr
  have C := fun w => implIn k1 k2.1 k2.2 k3 a0 a1 w
  clear hr k1 k2 k3
  cases hf : fitB r.net r.bits addr
  · rw [hf] at C
    rw [if_neg (by simp)]
    clear hf
    go_enter Try.func88, Try.ntmps88
    go_wp2_with (go_at_call 89; refine (C _).mono ?_; rintro e w' ⟨rfl, rfl⟩)
    go_ret
    exact ⟨rfl, rfl⟩
  · rw [hf] at C
    rw [if_pos rfl]
    clear hf
    go_enter Try.func88, Try.ntmps88
    go_wp2_with (go_at_call 89; refine (C _).mono ?_; rintro e w' ⟨rfl, rfl⟩)
    go_ret
    exact ⟨rfl, rfl⟩

theorem implOne (r : Rt) (hr : r.ok = true) (d : Nat) (p : Int) (w : World) :
    Calls Try.prog 68 #[r.val] w fun e w' => (∃ v, e = .returned v ∧ Answers w' v d p (hopL [r])) ∧ Below w.heap.size w w' := by
  have hmf : ∀ (fn : Fn) (first cap : Array Value) (w : World), (Instr.makeFunc fn first cap).run Try.prog w = .ok (.func fn first cap) w := fun _ _ _ _ => rfl
  have A : Hid (Answers (w.alloc (.cells #[.int .i64 r.net, .int .i64 r.bits, .int .i64 r.hop] 53)) (.func (.func 88) #[] #[.pointer (some ⟨w.heap.size, 0, none⟩)]) d p (hopL [r])) := by
    refine ⟨_, _, fun k => k = w.heap.size, rfl, enters_of Try.func88 (by kernel_rfl) rfl, fun k hk => ?_, fun W addr a0 a1 _ hW => ?_⟩
    · subst hk
      refine ⟨by simp, ?_⟩
      have hbx := Boxed.new w #[.int .i64 r.net, .int .i64 r.bits, .int .i64 r.hop] 53
      unfold Boxed at hbx
      rw [hbx]
      simp [zeroTwo]
    · have e := hW _ rfl
      exact implOneClosure r hr w.heap.size addr a0 a1 W (cell_same e (by simp)) (cell_same e (by simp)) (cell_same e (by simp))
  unfold Rt.val
  obtain ⟨net, bits, hop⟩ := r
  simp only [] at A ⊢
  go_enter Try.func68, Try.ntmps68
  go_wp2
  go_ret
  exact ⟨⟨_, rfl, A.out⟩, (Below.refl _ _).alloc (Nat.le_refl _) _⟩

set_option maxHeartbeats 800000 in
theorem implTwoClosure (d : Nat) (hd : d ≤ 31) (own : Int) (B7 B3 B5 : Nat) (g0 g1 : FuncId) (cb0 cb1 : Array Value) (e0 : Enters Try.prog g0) (e1 : Enters Try.prog g1) (addr : Int) (a0 : 0 ≤ addr) (a1 : addr ≤ 4294967295) (h0 h1 : Int) (w : World)
    (c70 : w.cell? ⟨B7, 0, none⟩ = some (.func (.func g0) #[] cb0)) (c71 : w.cell? ⟨B7, 1, none⟩ = some (.func (.func g1) #[] cb1)) (c3 : w.cell? ⟨B3, 0, none⟩ = some (.int .i64 (d : Int))) (c5 : w.cell? ⟨B5, 0, none⟩ = some (.int .i64 own))
    (C0 : bitV addr d = 0 → Calls Try.prog g0 (#[.int .i64 addr] ++ cb0) w fun e w' => e = .returned (.int .i64 h0) ∧ w' = w) (C1 : bitV addr d = 1 → Calls Try.prog g1 (#[.int .i64 addr] ++ cb1) w fun e w' => e = .returned (.int .i64 h1) ∧ w' = w) :
    Calls Try.prog 70 #[.int .i64 addr, .pointer (some ⟨B7, 0, none⟩), .pointer (some ⟨B3, 0, none⟩), .pointer (some ⟨B5, 0, none⟩)] w fun e w' => e = .returned (.int .i64 (if bitV addr d = 0 then (if h0 = -1 then own else h0) else (if h1 = -1 then own else h1))) ∧ w' = w := by
  have C := fun w => implBit a0 a1 d hd w
  have eg0 : ∀ args w, (callFunc g0 args).run Try.prog w = .ok (.enter g0 args) w := e0
  have eg1 : ∀ args w, (callFunc g1 args).run Try.prog w = .ok (.enter g1 args) w := e1
  rcases bitV_in addr d with hb | hb
  · rw [if_pos hb]
    rw [hb] at C
    have C0' := C0 hb
    clear C1 C0 hb e0 e1
    by_cases hh : h0 = -1
    · rw [if_pos hh]
      subst hh
      go_enter Try.func70, Try.ntmps70
      go_wp2_with (first | (go_at_call 71; refine (C _).mono ?_; rintro e w' ⟨rfl, rfl⟩) | (go_at_fn g0; refine C0'.mono ?_; rintro e w' ⟨rfl, rfl⟩))
      go_ret
      exact ⟨rfl, rfl⟩
    · rw [if_neg hh]
      go_enter Try.func70, Try.ntmps70
      go_wp2_with (first | (go_at_call 71; refine (C _).mono ?_; rintro e w' ⟨rfl, rfl⟩) | (go_at_fn g0; refine C0'.mono ?_; rintro e w' ⟨rfl, rfl⟩))
      go_ret
      exact ⟨rfl, rfl⟩
  · rw [if_neg (by omega)]
    rw [hb] at C
    have C1' := C1 hb
    clear C1 C0 hb e0 e1
    by_cases hh : h1 = -1
    · rw [if_pos hh]
      subst hh
      go_enter Try.func70, Try.ntmps70
      go_wp2_with (first | (go_at_call 71; refine (C _).mono ?_; rintro e w' ⟨rfl, rfl⟩) | (go_at_fn g1; refine C1'.mono ?_; rintro e w' ⟨rfl, rfl⟩))
      go_ret
      exact ⟨rfl, rfl⟩
    · rw [if_neg hh]
      go_enter Try.func70, Try.ntmps70
      go_wp2_with (first | (go_at_call 71; refine (C _).mono ?_; rintro e w' ⟨rfl, rfl⟩) | (go_at_fn g1; refine C1'.mono ?_; rintro e w' ⟨rfl, rfl⟩))
      go_ret
      exact ⟨rfl, rfl⟩
end Go.Proofs.Ytilnjmpnhadidaa
