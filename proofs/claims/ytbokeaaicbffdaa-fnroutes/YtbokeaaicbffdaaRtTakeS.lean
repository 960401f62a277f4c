/-
  The walk of the model's Take. By the verifier.
-/
import Derived.Test.YtbokeaaicbffdaaRtApp
import Derived.Test.YtbokeaaicbffdaaRtOkS
import Derived.Test.YtbokeaaicbffdaaRtHop
import Derived.Test.YtbokeaaicbffdaaRtSub
namespace Go.Proofs.Ytbokeaaicbffdaa
open Go.RowKit

/-- What is left, and whether it was there. -/
def takeL (l : List Rt) (net bits : Int) : List Rt := if rtsOk l = true then (if atN l net bits < l.length then l.take (atN l net bits) ++ l.drop (atN l net bits + 1) else l) else []
def takeB (l : List Rt) (net bits : Int) : Bool := rtsOk l && decide (atN l net bits < l.length)

def tkPr (base : Nat) (W : World) (S : Value) (l : List Rt) (k n : Nat) : Nat → World → Value → Prop := fun i w v =>
  if i = 0 then RRow base w v [] else if i = 1 ∨ i = 5 then v = S else if i = 2 ∨ i = 6 then v = .int .i64 (k : Int)
  else if i = 3 then ∃ a c, v = .slice a k c ∧ a ≠ none ∧ RtsAt W a (l.take k) else if i = 4 then RRow base w v (l.take k) else if i = 7 then v = .int .i64 ((k : Int) + 1)
  else if i = 8 then ∃ a c, v = .slice a (n - (k + 1)) c ∧ a ≠ none ∧ RtsAt W a (l.drop (k + 1)) else if i = 9 ∨ i = 10 then RRow base w v (l.take k ++ l.drop (k + 1)) else v = .bool true
def tkR (base : Nat) : Nat → World → World → Prop := fun i w w' => if i = 4 ∨ i = 9 then Below base w w' else (w' = w ∨ ∃ o, w' = w.alloc o)
def tkUse : Nat → Nat := fun j => if j = 0 then 4 else if j = 4 then 9 else 12

theorem no_false {p : Prop} {b : Bool} (h1 : b = false) (h2 : b = true) : p := by rw [h1] at h2; cases h2
set_option maxHeartbeats 1600000 in
theorem specTake (a : Option Addr) (cap : Nat) (l : List Rt) (net bits : Int) (w : World) (hT : l.length ≤ 1048576) (hcap : l.length ≤ cap) (hn : a = none → cap = 0) (h : Hid (RtsAt w a l)) :
    Calls Try.prog 13 #[.slice a l.length cap, .int .i64 net, .int .i64 bits] w fun e w' => (∃ v, e = .returned (.tuple #[v, .bool (takeB l net bits)]) ∧ RRow w.heap.size w' v (takeL l net bits)) ∧ Below w.heap.size w w' := by
  have C := fun w h => specOk a cap l w hT h
  have A := fun w h => specAt a cap l net bits w hT h
  cases hok : rtsOk l
  · have hv : takeL l net bits = [] := by unfold takeL; rw [hok]; rfl
    have hv2 : takeB l net bits = false := by unfold takeB; rw [hok]; rfl
    rw [hv, hv2]
    rw [hok] at C
    have C' : Hid _ := C
    clear C A hok hv hv2
    generalize l.length = len at C' ⊢
    go_enter Try.func13, Try.ntmps13
    go_wp2_with fail
    refine (C'.out _ h).mono ?_
    rintro e w1 ⟨rfl, b1⟩
    have B : Hid (Below w.heap.size w w1) := b1
    clear b1
    have H : Hid (RRow w.heap.size (w1.alloc (.cells #[] 26)) (.slice (some ⟨w1.heap.size, 0, none⟩) 0 0) []) := row_built w1 _ B.out.size
    go_wp2
    go_ret2
    exact ⟨⟨_, rfl, H.out⟩, B.out.alloc B.out.size _⟩
  rw [hok] at C
  obtain ⟨N, hN⟩ : ∃ N, atN l net bits = N := ⟨_, rfl⟩
  have hv : takeL l net bits = if N < l.length then l.take N ++ l.drop (N + 1) else l := by unfold takeL; rw [if_pos hok, hN]
  have hv2 : takeB l net bits = decide (N < l.length) := by unfold takeB; rw [hok, hN]; rfl
  have hNl : N ≤ l.length := by rw [← hN]; exact atN_le _ _ _
  rw [hv, hv2]
  rw [hN] at A
  obtain ⟨len, hlen⟩ : ∃ n, l.length = n := ⟨_, rfl⟩
  have Hlen : Hid (l.length = len) := hlen
  have A' : Hid _ := A
  have C' : Hid _ := C
  simp only [hlen] at A' C' hNl hT hcap ⊢
  clear C A hok hv hv2 hN hlen
  by_cases hlt : N < len
  · simp only [if_pos hlt, decide_eq_true hlt] at A' ⊢
    obtain ⟨b1, o1, ha1, hb1, -⟩ := h.out 0 (by rw [Hlen.out]; omega)
    subst ha1
    go_enter Try.func13, Try.ntmps13
    go_wp2_with fail
    refine (C'.out _ h).mono ?_
    rintro e w1 ⟨rfl, b1'⟩
    have B : Hid (Below w.heap.size w w1) := b1'
    clear b1'
    go_wp2_with (at_builtin; refine row_app rfl (.tmp 14) (.tmp 15) rfl w1.heap.size _ [] _ _ _ l Hlen.out rfl rfl (row_built w1 _ (Nat.le_refl _)) ((h.out.below B.out).alloc _) (by simp) (by rw [Hlen.out]; simp; omega) (by simp) ?_)
    intro v2 w2 r2 b2 _ _
    have B2 : Hid (Below w.heap.size w w2) := (B.out.alloc B.out.size _).trans (b2.mono B.out.size)
    clear r2 b2 B
    go_wp2_with fail
    refine (A'.out _ (h.out.below B2.out)).mono ?_
    rintro e w3 ⟨rfl, hw3⟩
    have hw3' := hw3.symm
    subst hw3'
    clear hw3
    have hN0 : ¬ (N : Int) < 0 := by omega
    go_wp2_with fail
    rename_i K1 hK1
    have hl1 : (l.take N).length = N := by rw [List.length_take, Hlen.out]; omega
    have hl2 : (l.drop (N + 1)).length = len - (N + 1) := by rw [List.length_drop, Hlen.out]
    have hwr : IntKind.i64.wrap ((N : Int) + 1) = (N : Int) + 1 := by rw [IntKind.wrap_i64]; omega
    have hL : RtsAt w2 (some ⟨b1, o1, none⟩) l := h.out.below B2.out
    refine region_all (by kernel_rfl) (by kernel_rfl) (by kernel_rfl) tkUse (fun w' => Below w2.heap.size w2 w') (tkR w2.heap.size) (tkPr w2.heap.size w2 (.slice (some ⟨b1, o1, none⟩) len cap) l N len) ?hR ?h0 ?step ?last
    case hR =>
      intro i j x x' v _ _ hij hu h1 h2 hp hr
      by_cases hj0 : j = 0
      · subst hj0
        by_cases hi4 : i = 4
        · subst hi4; exact absurd rfl hu
        by_cases hi9 : i = 9
        · subst hi9; exact no_false h2 (by kernel_rfl)
        unfold tkR at hr
        rw [if_neg (by omega)] at hr
        rcases hr with rfl | ⟨o, rfl⟩
        · exact hp
        · exact (show RRow _ _ _ _ from hp).alloc _
      by_cases hj4 : j = 4
      · subst hj4
        by_cases hi9 : i = 9
        · subst hi9; exact absurd rfl hu
        unfold tkR at hr
        rw [if_neg (by omega)] at hr
        rcases hr with rfl | ⟨o, rfl⟩
        · exact hp
        · exact (show RRow _ _ _ _ from hp).alloc _
      by_cases hj9 : j = 9
      · subst hj9
        by_cases hi4 : i = 4
        · subst hi4; exact no_false h1 (by kernel_rfl)
        unfold tkR at hr
        rw [if_neg (by omega)] at hr
        rcases hr with rfl | ⟨o, rfl⟩
        · exact hp
        · exact (show RRow _ _ _ _ from hp).alloc _
      by_cases hj10 : j = 10
      · subst hj10
        by_cases hi4 : i = 4
        · subst hi4; exact no_false h1 (by kernel_rfl)
        by_cases hi9 : i = 9
        · subst hi9; exact no_false h1 (by kernel_rfl)
        unfold tkR at hr
        rw [if_neg (by omega)] at hr
        rcases hr with rfl | ⟨o, rfl⟩
        · exact hp
        · exact (show RRow _ _ _ _ from hp).alloc _
      unfold tkPr at hp ⊢
      simp only [hj0, hj4, hj9, hj10, if_false, or_self] at hp ⊢
      exact hp
    case h0 => exact (Below.refl _ _).drew
    case step =>
      intro i o hi ho a x hkp hI hp
      have t0 : a.tmps.getD 0 undef = .slice (some ⟨b1, o1, none⟩) len cap := hkp.slot 0 (by kernel_rfl)
      have t9 : a.tmps.getD 9 undef = .int .i64 (N : Int) := hkp.slot 9 (by kernel_rfl)
      have hcases : i = 0 ∨ i = 1 ∨ i = 2 ∨ i = 3 ∨ i = 4 ∨ i = 5 ∨ i = 6 ∨ i = 7 ∨ i = 8 ∨ i = 9 ∨ i = 10 ∨ i = 11 := by
        have : i < 12 := hi
        omega
      rcases hcases with rfl | rfl | rfl | rfl | rfl | rfl | rfl | rfl | rfl | rfl | rfl | rfl
      · cases ho
        refine ⟨rfl, ?_⟩
        unfold Oper.wp
        simp [go_sem]
        exact ⟨_, rfl, .inr ⟨_, rfl⟩, hI.alloc hI.size _, row_built x _ hI.size⟩
      · cases ho
        exact ⟨rfl, op_move 0 rfl ⟨_, rfl, .inl rfl, hI, t0⟩⟩
      · cases ho
        exact ⟨rfl, op_move 9 rfl ⟨_, rfl, .inl rfl, hI, t9⟩⟩
      · cases ho
        have e1 : a.tmps[25]?.getD undef = .slice (some ⟨b1, o1, none⟩) len cap := by simpa [tkPr] using hp 1 25 (by decide) (.inr (by decide)) rfl
        have e2 : a.tmps[26]?.getD undef = .int .i64 (N : Int) := by simpa [tkPr] using hp 2 26 (by decide) (.inr (by decide)) rfl
        have hkc : N ≤ cap := by omega
        refine ⟨rfl, ?_⟩
        unfold Oper.wp
        simp [go_sem, e1, e2, hkc]
        exact ⟨_, rfl, .inl rfl, hI, some ⟨b1, o1, none⟩, cap, rfl, by simp, rts_take hL N⟩
      · cases ho
        have r0 : RRow w2.heap.size x (a.tmps.getD 24 undef) [] := hp 0 24 (by decide) (.inl rfl) rfl
        obtain ⟨sa, sc, es, hne, er⟩ : ∃ sa sc, a.tmps.getD 27 undef = .slice sa N sc ∧ sa ≠ none ∧ RtsAt w2 sa (l.take N) := hp 3 27 (by decide) (.inr (by decide)) rfl
        refine ⟨rfl, op_app (.tmp 24) (.tmp 27) rfl w2.heap.size _ [] sa N sc (l.take N) hl1 rfl es r0 (er.below hI) (fun e => absurd e hne) (by rw [hl1]; simp; omega) hI.size fun v' w' hr hb _ _ => ⟨_, rfl, ?_, hI.trans hb, hr⟩⟩
        exact hb
      · cases ho
        exact ⟨rfl, op_move 0 rfl ⟨_, rfl, .inl rfl, hI, t0⟩⟩
      · cases ho
        exact ⟨rfl, op_move 9 rfl ⟨_, rfl, .inl rfl, hI, t9⟩⟩
      · cases ho
        have e2 : a.tmps[30]?.getD undef = .int .i64 (N : Int) := by simpa [tkPr] using hp 6 30 (by decide) (.inr (by decide)) rfl
        refine ⟨rfl, ?_⟩
        unfold Oper.wp
        simp [go_sem, e2]
        exact ⟨_, rfl, .inl rfl, hI, by show Value.int .i64 _ = .int .i64 _; rw [hwr]⟩
      · cases ho
        have e1 : a.tmps[29]?.getD undef = .slice (some ⟨b1, o1, none⟩) len cap := by simpa [tkPr] using hp 5 29 (by decide) (.inr (by decide)) rfl
        have e2 : a.tmps[31]?.getD undef = .int .i64 ((N : Int) + 1) := by simpa [tkPr] using hp 7 31 (by decide) (.inr (by decide)) rfl
        have k0 : (0 : Int) ≤ (N : Int) + 1 := by omega
        have k1 : (N : Int) + 1 ≤ (len : Int) := by omega
        refine ⟨rfl, ?_⟩
        unfold Oper.wp
        simp [go_sem, e1, e2, k0, k1]
        refine ⟨_, rfl, .inl rfl, hI, _, _, rfl, ?_, ?_⟩
        · split <;> simp
        · by_cases hck : cap = N + 1
          · rw [if_pos hck]
            have : l.drop (N + 1) = [] := List.drop_eq_nil_of_le (by rw [Hlen.out]; omega)
            rw [this]
            exact RtsAt.nil _ _
          · rw [if_neg hck]
            exact rts_drop hL (N + 1)
      · cases ho
        have r4 : RRow w2.heap.size x (a.tmps.getD 28 undef) (l.take N) := hp 4 28 (by decide) (.inl rfl) rfl
        obtain ⟨sa, sc, es, hne, er⟩ : ∃ sa sc, a.tmps.getD 32 undef = .slice sa (len - (N + 1)) sc ∧ sa ≠ none ∧ RtsAt w2 sa (l.drop (N + 1)) := hp 8 32 (by decide) (.inr (by decide)) rfl
        refine ⟨rfl, op_app (.tmp 28) (.tmp 32) rfl w2.heap.size _ (l.take N) sa (len - (N + 1)) sc (l.drop (N + 1)) hl2 rfl es r4 (er.below hI) (fun e => absurd e hne) (by rw [hl1, hl2]; omega) hI.size fun v' w' hr hb _ _ => ⟨_, rfl, ?_, hI.trans hb, hr⟩⟩
        exact hb
      · cases ho
        have r9 : RRow w2.heap.size x (a.tmps.getD 33 undef) (l.take N ++ l.drop (N + 1)) := hp 9 33 (by decide) (.inr (by decide)) rfl
        refine ⟨rfl, ?_⟩
        unfold Oper.wp
        simp [execOp, Act.eval, Oper.upon]
        exact ⟨_, rfl, .inl rfl, hI, (show RRow w2.heap.size x _ (l.take N ++ l.drop (N + 1)) from by simpa using r9)⟩
      · cases ho
        refine ⟨rfl, ?_⟩
        unfold Oper.wp
        simp [go_sem]
        exact ⟨_, rfl, .inl rfl, hI, rfl⟩
    case last =>
      intro a x hkp hI hp
      have r10 : RRow w2.heap.size x (a.tmps.getD 6 undef) (l.take N ++ l.drop (N + 1)) := hp 10 6 (by decide) rfl
      have e11 : a.tmps.getD 7 undef = .bool true := hp 11 7 (by decide) rfl
      have hsz : a.tmps.size = 34 := hkp.size
      have hdf : a.defers = [] := hkp.defers
      have HE : Hid (RRow w.heap.size x (a.tmps.getD 6 undef) (l.take N ++ l.drop (N + 1)) ∧ Below w.heap.size w x) := ⟨r10.mono B2.out.size, B2.out.trans (hI.mono B2.out.size)⟩
      clear hp hkp r10 hI
      show Exit.then _ _ .normal a _
      simp only [Exit.then]
      refine hK1 _ _ ?_
      go_wp2
      refine bodyPost_ret (results_tmp2 rfl _ _ _) hdf ⟨⟨_, ?_, HE.out.1⟩, HE.out.2⟩
      rw [e11]
  · simp only [if_neg hlt, decide_eq_false hlt] at A' ⊢
    go_enter Try.func13, Try.ntmps13
    go_wp2_with fail
    refine (C'.out _ h).mono ?_
    rintro e w1 ⟨rfl, b1'⟩
    have B : Hid (Below w.heap.size w w1) := b1'
    clear b1'
    go_wp2_with (at_builtin; refine row_app rfl (.tmp 14) (.tmp 15) rfl w1.heap.size _ [] _ _ _ l Hlen.out rfl rfl (row_built w1 _ (Nat.le_refl _)) ((h.out.below B.out).alloc _) hn (by rw [Hlen.out]; simp; omega) (by simp) ?_)
    intro v2 w2 r2 b2 _ _
    have B2 : Hid (RRow w.heap.size w2 v2 l ∧ Below w.heap.size w w2) := ⟨r2.mono B.out.size, (B.out.alloc B.out.size _).trans (b2.mono B.out.size)⟩
    clear r2 b2 B
    go_wp2_with fail
    refine (A'.out _ (h.out.below B2.out.2)).mono ?_
    rintro e w3 ⟨rfl, hw3⟩
    have hw3' := hw3.symm
    subst hw3'
    clear hw3
    go_wp2
    go_ret2
    exact ⟨⟨_, rfl, B2.out.1⟩, B2.out.2⟩
end Go.Proofs.Ytbokeaaicbffdaa
