import Derived.Test.YtgimalimfmoilaaM6HpMeth
import Derived.Test.YtgimalimfmoilaaM7HpPop
import Derived.Test.YtgimalimfmoilaaDuHokI
import Derived.Deep.DeepCutAuto
/-
  The walks of slices.Index and slices.Contains on dues. By the verifier.
-/
namespace Go.Proofs.Ytgimalimfmoilaa
open Go.RowKit Go.Shelf

set_option maxHeartbeats 1600000 in
set_option maxRecDepth 100000 in
theorem implIndexDu (a : Option Addr) (cap : Nat) (l : List Du) (d : Du) (w : World) (hT : l.length ≤ 1048576) (h : Hid (DusAt w a l)) :
    Calls Try.prog 69 #[.slice a l.length cap, d.val] w fun e w' => (∃ z : Int, e = .returned (.int .i64 z) ∧ (decide (0 ≤ z) = duHas l d)) ∧ Below w.heap.size w w' := by
  obtain ⟨R, hR⟩ : ∃ R, duHas l d = R := ⟨_, rfl⟩
  have Yes : Hid (∀ k, k < l.length → duAt l k = d → R = true) := fun k hk e => by rw [← hR]; exact duHas_at.2 ⟨k, hk, e⟩
  have No : Hid ((∀ k, k < l.length → duAt l k ≠ d) → R = false) := fun hn => by
    rw [← hR]
    cases hq : duHas l d with
    | false => rfl
    | true =>
      obtain ⟨j, hj, e⟩ := duHas_at.1 hq
      exact absurd e (hn j hj)
  rw [hR]
  clear hR
  obtain ⟨len, hlen⟩ : ∃ n, l.length = n := ⟨_, rfl⟩
  rw [hlen] at hT Yes No ⊢
  have Hlen : Hid (l.length = len) := hlen
  clear hlen
  obtain ⟨t, i⟩ := d
  simp only [Du.val] at Yes No ⊢
  have X : Hid (DusAt (w.alloc (.cells #[.int .i64 t, .int .i64 i] 33)) a l ∧ Boxed (w.alloc (.cells #[.int .i64 t, .int .i64 i] 33)) w.heap.size #[.int .i64 t, .int .i64 i] 33 ∧ Below w.heap.size w (w.alloc (.cells #[.int .i64 t, .int .i64 i] 33))) := ⟨h.out.alloc _, Boxed.new _ _ _, (Below.refl _ _).alloc (Nat.le_refl _) _⟩
  clear h
  go_enter Try.func69, Try.ntmps69
  go_wp2
  generalize w.alloc (.cells #[.int .i64 t, .int .i64 i] 33) = W at X ⊢
  go_loopw [8] (fun s wr => ∃ k : Nat, k ≤ len ∧ s = .int .i64 k ∧ Hid ((∀ j, j < k → duAt l j ≠ ⟨t, i⟩) ∧ Below W.heap.size W wr)) (fun s _ => len - (intOf s).toNat)
  case atStart => exact ⟨0, Nat.zero_le _, rfl, fun j hj => by omega, Below.refl _ _⟩
  case round =>
    obtain ⟨k, hk, rfl, HK⟩ := hrel
    by_cases hlt : k < len
    · obtain ⟨b1, o1, ha1, hb1, -⟩ := (X.out.1.below HK.out.2) k (by rw [Hlen.out]; exact hlt)
      subst ha1
      obtain ⟨c0, c1⟩ := (X.out.1.below HK.out.2).cells (k := k) (by rw [Hlen.out]; exact hlt)
      have B9 : Hid (Boxed wr w.heap.size #[.int .i64 t, .int .i64 i] 33) := X.out.2.1.below X.out.2.1.under HK.out.2
      have d0 : wr.cell? ⟨w.heap.size, 0, none⟩ = some (.int .i64 t) := B9.out.cell 0 rfl
      have d1 : wr.cell? ⟨w.heap.size, 1, none⟩ = some (.int .i64 i) := B9.out.cell 1 rfl
      have hdl : w.heap.size < wr.heap.size := B9.out.under
      have hlt' : (k : Int) < (len : Int) := by omega
      have Yk := Yes.out k hlt
      have Nk : Hid (duAt l k ≠ ⟨t, i⟩ → (∀ j, j < k + 1 → duAt l j ≠ ⟨t, i⟩)) := fun hn j hj => by
        by_cases e : j = k
        · rw [e]; exact hn
        · exact HK.out.1 j (by omega)
      have Bn : Hid (∀ nq, Below W.heap.size W (wr.drewN nq)) := fun nq => HK.out.2.trans ⟨rfl, rfl, rfl, Nat.le_refl _, fun _ _ => rfl⟩
      have Be : Hid (∀ nq, Below w.heap.size w (wr.drewN nq)) := fun nq => X.out.2.2.trans ((Bn.out nq).mono X.out.2.2.size)
      generalize duAt l k = q at c0 c1 Yk Nk
      obtain ⟨t2, i2⟩ := q
      simp only at c0 c1
      have HY : Hid ((⟨t2, i2⟩ : Du) = ⟨t, i⟩ → R = true) := Yk
      clear Yk HK B9
      by_cases e1 : t = t2
      · by_cases e2 : i = i2
        · have e : Hid (R = true) := HY.out (by rw [e1, e2])
          subst e1 e2
          go_upto_region 4 with fail
          go_quiet (fail)
          go_wp2
          go_ret
          exact ⟨⟨_, rfl, by rw [e.out]; exact decide_eq_true (by omega)⟩, Be.out _⟩
        · have e2' : (i == i2) = false := by simpa using e2
          have N2 : Hid (∀ j, j < k + 1 → duAt l j ≠ ⟨t, i⟩) := Nk.out (fun q => e2 (by injection q with q1 q2; exact q2.symm))
          subst e1
          go_upto_region 4 with fail
          go_quiet (fail)
          go_wp2
          go_roundw
          case rel => exact ⟨k + 1, by omega, by go_num, N2.out, Bn.out _⟩
          case measure => simp [intOf]; omega
      · have e1' : (t == t2) = false := by simpa using e1
        have N2 : Hid (∀ j, j < k + 1 → duAt l j ≠ ⟨t, i⟩) := Nk.out (fun q => e1 (by injection q with q1 q2; exact q1.symm))
        go_upto_region 4 with fail
        go_quiet (fail)
        go_wp2
        go_roundw
        case rel => exact ⟨k + 1, by omega, by go_num, N2.out, Bn.out _⟩
        case measure => simp [intOf]; omega
    · obtain rfl : k = len := by omega
      have e : Hid (R = false) := No.out HK.out.1
      go_wp2
      go_ret
      exact ⟨⟨_, rfl, by rw [e.out]; decide⟩, X.out.2.2.trans (HK.out.2.mono X.out.2.2.size)⟩
set_option maxHeartbeats 1600000 in
theorem implHasDu (a : Option Addr) (cap : Nat) (l : List Du) (d : Du) (w : World) (hT : l.length ≤ 1048576) (h : Hid (DusAt w a l)) :
    Calls Try.prog 43 #[.slice a l.length cap, d.val] w fun e w' => e = .returned (.bool (duHas l d)) ∧ Below w.heap.size w w' := by
  have b0 : Below w.heap.size w (w.alloc (.cells #[.int .i64 d.time, .int .i64 d.id] 33)) := (Below.refl _ _).alloc (Nat.le_refl _) _
  have C := fun (_ : Nat) => implIndexDu a cap l d _ hT (h.out.below b0)
  have B0 : Hid _ := b0
  have C' : Hid _ := C
  clear C h b0 hT
  obtain ⟨t, i⟩ := d
  simp only [Du.val] at C' B0 ⊢
  generalize duHas l ⟨t, i⟩ = R at C' ⊢
  generalize l.length = n at C' ⊢
  go_enter Try.func43, Try.ntmps43
  go_wp2_with fail
  refine (C'.out 0).mono ?_
  rintro e w2 ⟨⟨z, rfl, hz⟩, q⟩
  have Z : Hid (decide (0 ≤ z) = R ∧ Below w.heap.size w w2) := ⟨hz, B0.out.trans (q.mono B0.out.size)⟩
  clear hz q
  go_wp2
  go_ret
  exact ⟨ret_bool (by rw [← Z.out.1]), Z.out.2⟩
end Go.Proofs.Ytgimalimfmoilaa

/-
  The walk of the program's HeapPut. By the verifier.
-/
namespace Go.Proofs.Ytgimalimfmoilaa
open Go.RowKit Go.Shelf

/-- A copy of a list in a new variable. -/
theorem hp_new {base : Nat} {w : World} {g cap : Nat} {l : List Du} (h : DuRow base w (.slice (some ⟨g, 0, none⟩) l.length cap) l) (hb : base ≤ w.heap.size) :
    HpV base w.heap.size g cap l (w.alloc (.cells #[.slice (some ⟨g, 0, none⟩) l.length cap] 59)) :=
  ⟨Boxed.new w _ _, h.alloc _, hb⟩
set_option maxHeartbeats 3200000 in
set_option maxRecDepth 100000 in
theorem implHeapPut (l : List Du) (a : Option Addr) (cap : Nat) (d : Du) (w : World) (hT : l.length ≤ 1048576) (_hcap : l.length ≤ cap) (_hnil : a = none → cap = 0) (h : Hid (DusAt w a l)) :
    Calls Try.prog 16 #[.slice a l.length cap, d.val] w fun e w' => (∃ v, e = .returned (.tuple #[v, .bool (putB l d)]) ∧ DuRow w.heap.size w' v (putH l d)) ∧ Below w.heap.size w w' := by
  have A1 := fun (w : World) (hh : DusAt w a l) => implHeapOk l a cap w hT hh
  have A2 := fun (w : World) (hh : DusAt w a l) => implCopyDu a cap l w hT hh
  have A3 := fun (w : World) => implDueOk d w
  have A4 := fun (w : World) (hh : DusAt w a l) => implHasDu a cap l d w hT hh
  have A6 : Hid (hok l = true → ∀ base B g c w, HpV base B g c l w → Calls Try.prog 44 #[.pointer (some ⟨B, 0, none⟩), d.val] w fun e w' => e = .returned (.tuple #[]) ∧ HpPut base B g (hput l d) w w') := fun hk base B g c w hv => implPutM base B g c l d w (by have := (hok_is.1 hk).1; omega) hv
  have P1 : Hid (hok l = false → putB l d = false ∧ putH l d = []) := fun e => by
    unfold putB putH
    rw [e]
    exact ⟨rfl, rfl⟩
  have P2 : Hid (hok l = true → (d.ok && (!duHas l d && !decide (l.length = 60))) = false → putB l d = false ∧ putH l d = l) := fun e e2 => by
    unfold putB putH
    have : mayPut l d = false := e2
    rw [e, this]
    exact ⟨rfl, rfl⟩
  have P3 : Hid (hok l = true → (d.ok && (!duHas l d && !decide (l.length = 60))) = true → putB l d = true ∧ putH l d = hput l d) := fun e e2 => by
    unfold putB putH
    have : mayPut l d = true := e2
    rw [e, this]
    exact ⟨rfl, rfl⟩
  have HI : Hid (∀ w', Below w.heap.size w w' → DusAt w' a l) := fun w' g => h.out.below g
  have HN : Hid (∀ base B g c w, HpV base B g c l w → w.cell? ⟨B, 0, none⟩ = some (.slice (some ⟨g, 0, none⟩) l.length c) ∧ DuRow base w (.slice (some ⟨g, 0, none⟩) l.length c) l) := fun base B g c w hv => ⟨hv.cell, hv.row⟩
  have HW : Hid (∀ base w g c, DuRow base w (.slice (some ⟨g, 0, none⟩) l.length c) l → base ≤ w.heap.size → HpV base w.heap.size g c l (w.alloc (.cells #[.slice (some ⟨g, 0, none⟩) l.length c] 59))) := fun base w g c hr hb => hp_new hr hb
  generalize hok l = b1 at A1 A6 P1 P2 P3
  generalize d.ok = b2 at A3 P2 P3
  generalize duHas l d = b3 at A4 P2 P3
  generalize putB l d = rb at P1 P2 P3 ⊢
  generalize putH l d = rl at P1 P2 P3 ⊢
  generalize hput l d = hl at A6 P3
  generalize l.length = n at A1 A2 A4 P2 P3 HN HW hT ⊢
  obtain ⟨t, i⟩ := d
  simp only [Du.val] at A3 A4 A6 ⊢
  have A1' : Hid _ := A1
  have A2' : Hid _ := A2
  have A3' : Hid _ := A3
  have A4' : Hid _ := A4
  clear A1 A2 A3 A4 h
  obtain ⟨W, hW⟩ : ∃ W, W = w.alloc (.cells #[.int .i64 t, .int .i64 i] 33) := ⟨_, rfl⟩
  have X : Hid (Boxed W w.heap.size #[.int .i64 t, .int .i64 i] 33 ∧ Below w.heap.size w W) := by rw [hW]; exact ⟨Boxed.new _ _ _, (Below.refl _ _).alloc (Nat.le_refl _) _⟩
  have HWe : Hid (W = _) := hW
  clear hW
  go_enter Try.func16, Try.ntmps16
  go_upto_region 1 with fail
  rw [← HWe.out]
  clear HWe
  go_wp2_with fail
  refine (A1'.out _ (HI.out _ X.out.2)).mono ?_
  rintro e w1 ⟨rfl, q⟩
  have X1 : Hid (Boxed w1 w.heap.size #[.int .i64 t, .int .i64 i] 33 ∧ Below w.heap.size w w1) := ⟨X.out.1.below X.out.1.under q, X.out.2.trans (q.mono X.out.2.size)⟩
  clear q X A1'
  cases b1
  · obtain ⟨e1, e2⟩ := P1.out (by first | exact trivial | exact rfl)
    subst e1 e2
    go_wp2
    go_ret2
    exact ⟨⟨_, rfl, du_built w1 _ X1.out.2.size⟩, X1.out.2.alloc X1.out.2.size _⟩
  go_wp2_with fail
  refine (A2'.out _ (HI.out _ X1.out.2)).mono ?_
  rintro e w2 ⟨g, rfl, q1, q2⟩
  have X2 : Hid (HpV w.heap.size w2.heap.size g n l (w2.alloc (.cells #[.slice (some ⟨g, 0, none⟩) n n] 59)) ∧ Boxed (w2.alloc (.cells #[.slice (some ⟨g, 0, none⟩) n n] 59)) w.heap.size #[.int .i64 t, .int .i64 i] 33 ∧ Below w.heap.size w (w2.alloc (.cells #[.slice (some ⟨g, 0, none⟩) n n] 59))) := by
    have hs1 := X1.out.2.size
    have hs2 := q2.size
    have hb2 : Boxed w2 w.heap.size #[.int .i64 t, .int .i64 i] 33 := X1.out.1.below X1.out.1.under q2
    have bw := X1.out.2.trans (q2.mono hs1)
    exact ⟨HW.out _ _ _ _ (q1.mono hs1) (by omega), hb2.more _, bw.alloc (by omega) _⟩
  clear q1 q2 A2' X1
  go_upto_region 4 with fail
  generalize w2.alloc (.cells #[.slice (some ⟨g, 0, none⟩) n n] 59) = w3 at X2 ⊢
  generalize w2.heap.size = B at X2 ⊢
  have c0 : w3.cell? ⟨w.heap.size, 0, none⟩ = some (.int .i64 t) := X2.out.2.1.cell 0 rfl
  have c1 : w3.cell? ⟨w.heap.size, 1, none⟩ = some (.int .i64 i) := X2.out.2.1.cell 1 rfl
  go_cut [25] (fun s wc => Hid (s = .bool (!(b2 && (!b3 && !decide (n = 60)))) ∧ HpV w.heap.size B g n l wc ∧ Boxed wc w.heap.size #[.int .i64 t, .int .i64 i] 33 ∧ Below w.heap.size w wc))
  case first =>
    go_wp2_with fail
    refine (A3'.out _).mono ?_
    rintro e w4 ⟨rfl, q⟩
    have X4 : Hid (HpV w.heap.size B g n l w4 ∧ Boxed w4 w.heap.size #[.int .i64 t, .int .i64 i] 33 ∧ Below w.heap.size w w4) := ⟨X2.out.1.below q, X2.out.2.1.below X2.out.2.1.under q, X2.out.2.2.trans (q.mono X2.out.2.2.size)⟩
    clear q c0 c1 X2
    cases b2
    · go_wp2_with fail
      go_meet
      exact ⟨rfl, X4.out⟩
    have c0 : w4.cell? ⟨w.heap.size, 0, none⟩ = some (.int .i64 t) := X4.out.2.1.cell 0 rfl
    have c1 : w4.cell? ⟨w.heap.size, 1, none⟩ = some (.int .i64 i) := X4.out.2.1.cell 1 rfl
    go_wp2_with fail
    refine (A4'.out _ (HI.out _ X4.out.2.2)).mono ?_
    rintro e w5 ⟨rfl, q⟩
    have X5 : Hid (HpV w.heap.size B g n l w5 ∧ Boxed w5 w.heap.size #[.int .i64 t, .int .i64 i] 33 ∧ Below w.heap.size w w5) := ⟨X4.out.1.below q, X4.out.2.1.below X4.out.2.1.under q, X4.out.2.2.trans (q.mono X4.out.2.2.size)⟩
    clear q c0 c1 X4
    cases b3
    · by_cases hn : n = 60
      · have hn' : (n : Int) = 60 := by omega
        have hd : ((n : Int) == 60) = true := by simpa using hn'
        have Hn : Hid (n = 60) := hn
        clear hn hn'
        go_wp2_with fail
        go_meet
        exact ⟨by simp [Hn.out], X5.out⟩
      · have hn' : ¬ (n : Int) = 60 := by omega
        have hd : ((n : Int) == 60) = false := by simpa using hn'
        go_wp2_with fail
        go_meet
        exact ⟨by simp [hn], X5.out⟩
    · go_wp2_with fail
      go_meet
      exact ⟨rfl, X5.out⟩
  case rest =>
  obtain ⟨rfl, hP⟩ := hcut.out
  have X3 : Hid (HpV w.heap.size B g n l wc ∧ Boxed wc w.heap.size #[.int .i64 t, .int .i64 i] 33 ∧ Below w.heap.size w wc) := hP
  clear hcut hP X2 c0 c1
  obtain ⟨e0, r0⟩ := HN.out _ _ _ _ _ X3.out.1
  have R0 : Hid _ := r0
  clear r0
  generalize hz : (b2 && (!b3 && !decide (n = 60))) = z at P2 P3 ⊢
  clear hz
  cases z
  · obtain ⟨e1, e2⟩ := P2.out (by first | exact trivial | exact rfl) (by first | exact trivial | exact rfl)
    subst e1 e2
    go_wp2
    go_ret2
    exact ⟨⟨_, rfl, R0.out⟩, X3.out.2.2⟩
  obtain ⟨e1, e2⟩ := P3.out (by first | exact trivial | exact rfl) (by first | exact trivial | exact rfl)
  subst e1 e2
  have c0 : wc.cell? ⟨w.heap.size, 0, none⟩ = some (.int .i64 t) := X3.out.2.1.cell 0 rfl
  have c1 : wc.cell? ⟨w.heap.size, 1, none⟩ = some (.int .i64 i) := X3.out.2.1.cell 1 rfl
  have C6 := fun (_ : Nat) => A6.out (by first | exact trivial | exact rfl) _ _ _ _ _ X3.out.1
  have C6' : Hid _ := C6
  clear C6 e0
  go_wp2_with fail
  refine (C6'.out 0).mono ?_
  rintro e w6 ⟨rfl, q⟩
  obtain ⟨g', c', hv, hg⟩ := q.hp
  have d0 := hv.cell
  have Z : Hid (DuRow w.heap.size w6 (.slice (some ⟨g', 0, none⟩) rl.length c') rl ∧ Below w.heap.size w w6) := ⟨hv.row, X3.out.2.2.trans q.bel⟩
  generalize rl.length = m at d0 Z
  clear q hv hg c0 c1 C6'
  go_wp2
  go_ret2
  exact ⟨⟨_, rfl, Z.out.1⟩, Z.out.2⟩
end Go.Proofs.Ytgimalimfmoilaa
