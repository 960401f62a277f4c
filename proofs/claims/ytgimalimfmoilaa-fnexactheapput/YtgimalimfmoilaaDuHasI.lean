/-
  The walks of slices.Index and slices.Contains on dues. By the verifier.
-/
import Derived.Test.YtgimalimfmoilaaM7HpMeth
namespace Go.Proofs.Ytgimalimfmoilaa
open Go.RowKit Go.Shelf

set_option maxHeartbeats 1600000 in
set_option maxRecDepth 100000 in
theorem implIndexDu (a : Option Addr) (cap : Nat) (l : List Du) (d : Du) (w : World) (hT : l.length ≤ 1048576) (h : Hid (DusAt w a l)) :
    Calls Try.prog 69 #[.slice a l.length cap, d.val] w fun e w' => (∃ z : Int, e = .returned (.int .i64 z) ∧ (decide (0 ≤ z) = duHas l d)) ∧ Below w.heap.size w w' := by
  obtain ⟨R, hR⟩ : ∃ R, duHas l d = R := ⟨_, rfl⟩
  have Yes : Hid (∀ k, k < l.length → duAt l k = d → R = true) := fun k hk e => by rw [← hR]; exact duHas_at.2 ⟨k, hk, e⟩
  have No : Hid ((∀ k, k < l.length → duAt l k ≠ d) → R = false) := fun hn => by
    rw [← hR]
    cases hq : duHas l d with
    | false => rfl
    | true =>
      obtain ⟨j, hj, e⟩ := duHas_at.1 hq
      exact absurd e (hn j hj)
  rw [hR]
  clear hR
  obtain ⟨len, hlen⟩ : ∃ n, l.length = n := ⟨_, rfl⟩
  rw [hlen] at hT Yes No ⊢
  have Hlen : Hid (l.length = len) := hlen
  clear hlen
  obtain ⟨t, i⟩ := d
  simp only [Du.val] at Yes No ⊢
  have X : Hid (DusAt (w.alloc (.cells #[.int .i64 t, .int .i64 i] 33)) a l ∧ Boxed (w.alloc (.cells #[.int .i64 t, .int .i64 i] 33)) w.heap.size #[.int .i64 t, .int .i64 i] 33 ∧ Below w.heap.size w (w.alloc (.cells #[.int .i64 t, .int .i64 i] 33))) := ⟨h.out.alloc _, Boxed.new _ _ _, (Below.refl _ _).alloc (Nat.le_refl _) _⟩
  clear h
  go_enter Try.func69, Try.ntmps69
  go_wp2
  generalize w.alloc (.cells #[.int .i64 t, .int .i64 i] 33) = W at X ⊢
  go_loopw [8] (fun s wr => ∃ k : Nat, k ≤ len ∧ s = .int .i64 k ∧ Hid ((∀ j, j < k → duAt l j ≠ ⟨t, i⟩) ∧ Below W.heap.size W wr)) (fun s _ => len - (intOf s).toNat)
  case atStart => exact ⟨0, Nat.zero_le _, rfl, fun j hj => by omega, Below.refl _ _⟩
  case round =>
    obtain ⟨k, hk, rfl, HK⟩ := hrel
    by_cases hlt : k < len
    · obtain ⟨b1, o1, ha1, hb1, -⟩ := (X.out.1.below HK.out.2) k (by rw [Hlen.out]; exact hlt)
      subst ha1
      obtain ⟨c0, c1⟩ := (X.out.1.below HK.out.2).cells (k := k) (by rw [Hlen.out]; exact hlt)
      have B9 : Hid (Boxed wr w.heap.size #[.int .i64 t, .int .i64 i] 33) := X.out.2.1.below X.out.2.1.under HK.out.2
      have d0 : wr.cell? ⟨w.heap.size, 0, none⟩ = some (.int .i64 t) := B9.out.cell 0 rfl
      have d1 : wr.cell? ⟨w.heap.size, 1, none⟩ = some (.int .i64 i) := B9.out.cell 1 rfl
      have hdl : w.heap.size < wr.heap.size := B9.out.under
      have hlt' : (k : Int) < (len : Int) := by omega
      have Yk := Yes.out k hlt
      have Nk : Hid (duAt l k ≠ ⟨t, i⟩ → (∀ j, j < k + 1 → duAt l j ≠ ⟨t, i⟩)) := fun hn j hj => by
        by_cases e : j = k
        · rw [e]; exact hn
        · exact HK.out.1 j (by omega)
      have Bn : Hid (∀ nq, Below W.heap.size W (wr.drewN nq)) := fun nq => HK.out.2.trans ⟨rfl, rfl, rfl, Nat.le_refl _, fun _ _ => rfl⟩
      have Be : Hid (∀ nq, Below w.heap.size w (wr.drewN nq)) := fun nq => X.out.2.2.trans ((Bn.out nq).mono X.out.2.2.size)
      generalize duAt l k = q at c0 c1 Yk Nk
      obtain ⟨t2, i2⟩ := q
      simp only at c0 c1
      have HY : Hid ((⟨t2, i2⟩ : Du) = ⟨t, i⟩ → R = true) := Yk
      clear Yk HK B9
      by_cases e1 : t = t2
      · by_cases e2 : i = i2
        · have e : Hid (R = true) := HY.out (by rw [e1, e2])
          subst e1 e2
          go_upto_region 4 with fail
          go_quiet (fail)
          go_wp2
          go_ret
          exact ⟨⟨_, rfl, by rw [e.out]; exact decide_eq_true (by omega)⟩, Be.out _⟩
        · have e2' : (i == i2) = false := by simpa using e2
          have N2 : Hid (∀ j, j < k + 1 → duAt l j ≠ ⟨t, i⟩) := Nk.out (fun q => e2 (by injection q with q1 q2; exact q2.symm))
          subst e1
          go_upto_region 4 with fail
          go_quiet (fail)
          go_wp2
          go_roundw
          case rel => exact ⟨k + 1, by omega, by go_num, N2.out, Bn.out _⟩
          case measure => simp [intOf]; omega
      · have e1' : (t == t2) = false := by simpa using e1
        have N2 : Hid (∀ j, j < k + 1 → duAt l j ≠ ⟨t, i⟩) := Nk.out (fun q => e1 (by injection q with q1 q2; exact q1.symm))
        go_upto_region 4 with fail
        go_quiet (fail)
        go_wp2
        go_roundw
        case rel => exact ⟨k + 1, by omega, by go_num, N2.out, Bn.out _⟩
        case measure => simp [intOf]; omega
    · obtain rfl : k = len := by omega
      have e : Hid (R = false) := No.out HK.out.1
      go_wp2
      go_ret
      exact ⟨⟨_, rfl, by rw [e.out]; decide⟩, X.out.2.2.trans (HK.out.2.mono X.out.2.2.size)⟩
set_option maxHeartbeats 1600000 in
theorem implHasDu (a : Option Addr) (cap : Nat) (l : List Du) (d : Du) (w : World) (hT : l.length ≤ 1048576) (h : Hid (DusAt w a l)) :
    Calls Try.prog 43 #[.slice a l.length cap, d.val] w fun e w' => e = .returned (.bool (duHas l d)) ∧ Below w.heap.size w w' := by
  have b0 : Below w.heap.size w (w.alloc (.cells #[.int .i64 d.time, .int .i64 d.id] 33)) := (Below.refl _ _).alloc (Nat.le_refl _) _
  have C := fun (_ : Nat) => implIndexDu a cap l d _ hT (h.out.below b0)
  have B0 : Hid _ := b0
  have C' : Hid _ := C
  clear C h b0 hT
  obtain ⟨t, i⟩ := d
  simp only [Du.val] at C' B0 ⊢
  generalize duHas l ⟨t, i⟩ = R at C' ⊢
  generalize l.length = n at C' ⊢
  go_enter Try.func43, Try.ntmps43
  go_wp2_with fail
  refine (C'.out 0).mono ?_
  rintro e w2 ⟨⟨z, rfl, hz⟩, q⟩
  have Z : Hid (decide (0 ≤ z) = R ∧ Below w.heap.size w w2) := ⟨hz, B0.out.trans (q.mono B0.out.size)⟩
  clear hz q
  go_wp2
  go_ret
  exact ⟨ret_bool (by rw [← Z.out.1]), Z.out.2⟩
end Go.Proofs.Ytgimalimfmoilaa
