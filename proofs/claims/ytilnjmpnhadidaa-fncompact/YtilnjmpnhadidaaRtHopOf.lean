/-
  The walks of HopOf, the program's and the model's. By the verifier.
-/
import Derived.Test.YtilnjmpnhadidaaRtTrieOf
import Derived.Test.YtilnjmpnhadidaaRtOkS
namespace Go.Proofs.Ytilnjmpnhadidaa
open Go.RowKit

/-- What HopOf answers. -/
def hopV (l : List Rt) (addr : Int) : Int := if rtsOk l = true ∧ inB 0 4294967295 addr = true then hopL l addr else -1

set_option maxHeartbeats 800000 in
theorem implHop (a : Option Addr) (cap : Nat) (l : List Rt) (addr : Int) (w : World) (hT : l.length ≤ 1048576) (hcap : l.length ≤ cap) (h : Hid (RtsAt w a l)) :
    Calls Try.prog 21 #[.slice a l.length cap, .int .i64 addr] w fun e w' => e = .returned (.int .i64 (hopV l addr)) ∧ Below w.heap.size w w' := by
  have C := fun w h => implOk a cap l w hT h
  have D := fun (w : World) => implUpTo1 4294967295 addr w w.heap.size rfl
  cases hok : rtsOk l
  · have hv : hopV l addr = -1 := by unfold hopV; rw [if_neg (by simp [hok])]
    rw [hv]
    rw [hok] at C
    have C' : Hid _ := C
    clear C D hok hv
    generalize l.length = len at C' ⊢
    go_enter Try.func21, Try.ntmps21
    go_wp2_with fail
    refine (C'.out _ h).mono ?_
    rintro e w1 ⟨rfl, b1⟩
    have B : Hid (Below w.heap.size w w1) := b1
    clear b1
    go_wp2
    go_ret
    exact ⟨rfl, B.out⟩
  · rw [hok] at C
    cases ha : inB 0 4294967295 addr
    · have hv : hopV l addr = -1 := by unfold hopV; rw [if_neg (by simp [ha])]
      rw [hv]
      rw [ha] at D
      have C' : Hid _ := C
      clear C hok hv ha
      generalize l.length = len at C' ⊢
      go_enter Try.func21, Try.ntmps21
      go_wp2_with fail
      refine (C'.out _ h).mono ?_
      rintro e w1 ⟨rfl, b1⟩
      have B : Hid (Below w.heap.size w w1) := b1
      clear b1
      go_wp2_with fail
      refine (D _).mono ?_
      rintro e w' ⟨rfl, rfl⟩
      go_wp2
      go_ret
      exact ⟨rfl, B.out.alloc B.out.size _⟩
    · have hv : hopV l addr = hopL l addr := by unfold hopV; rw [if_pos ⟨hok, ha⟩]
      rw [hv]
      rw [ha] at D
      have ht := trieOk_of hok
      have h64 : l.length ≤ 64 := by
        unfold rtsOk at hok
        rw [Bool.and_eq_true, decide_eq_true_iff] at hok
        exact hok.1
      have ha' := inB_true.1 ha
      have T := fun w h => implTrie 32 0 rfl l a cap 0 w ht h64 hcap h
      have HA : Hid (∀ W v, Answers W v 0 0 (hopL l) → ∃ (g : FuncId) (cb : Array Value), v = .func (.func g) #[] cb ∧ Enters Try.prog g ∧ Calls Try.prog g (#[.int .i64 addr] ++ cb) W fun e w' => e = .returned (.int .i64 (hopL l addr)) ∧ w' = W) := by
        show ∀ W v, Answers W v 0 0 (hopL l) → _
        rintro W v ⟨g, cb, Dm, e, he, _, hc⟩
        refine ⟨g, cb, e, he, hc W addr ha'.1 ha'.2 ?_ fun _ _ => rfl⟩
        have : (2 : Int) ^ (32 - 0) = 4294967296 := by decide
        rw [this]; omega
      generalize hopL l addr = z at HA ⊢
      have C' : Hid _ := C
      have T' : Hid (∀ w, RtsAt w a l → Calls Try.prog 35 #[.slice a l.length cap, .int .i64 0] w fun e w' => (∃ v, e = .returned v ∧ Answers w' v 0 0 (hopL l)) ∧ Below w.heap.size w w') := T
      clear C T hok hv ha ht h64 hT hcap
      generalize l.length = len at C' T' ⊢
      go_enter Try.func21, Try.ntmps21
      go_wp2_with fail
      refine (C'.out _ h).mono ?_
      rintro e w1 ⟨rfl, b1⟩
      have B : Hid (Below w.heap.size w w1) := b1
      clear b1
      go_wp2_with fail
      refine (D _).mono ?_
      rintro e w' ⟨rfl, rfl⟩
      have B2 : Hid (Below w.heap.size w (w1.alloc (.cells #[.int .i64 addr] 2))) := B.out.alloc B.out.size _
      clear B
      generalize w1.alloc (.cells #[.int .i64 addr] 2) = w2 at B2 ⊢
      go_wp2_with fail
      refine (T'.out _ (h.out.below B2.out)).mono ?_
      rintro e w3 ⟨⟨v, rfl, ans⟩, b3⟩
      obtain ⟨g, cb, rfl, eg, hc⟩ := HA.out _ _ ans
      have B3 : Hid (Below w.heap.size w w3) := B2.out.trans (b3.mono B2.out.size)
      have eg' : ∀ args w, (callFunc g args).run Try.prog w = .ok (.enter g args) w := eg
      clear ans b3 B2 eg HA
      go_wp2_with (go_at_fn g; refine hc.mono ?_; rintro e w' ⟨rfl, rfl⟩)
      go_ret
      exact ⟨rfl, B3.out⟩
end Go.Proofs.Ytilnjmpnhadidaa
