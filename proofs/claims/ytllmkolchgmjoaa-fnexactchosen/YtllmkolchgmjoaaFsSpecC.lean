/-
  The walk of the model's Chosen. By the verifier.
-/
import Derived.Test.YtllmkolchgmjoaaFsSpecB
namespace Go.Proofs.Ytllmkolchgmjoaa
open Go.RowKit

set_option maxHeartbeats 6400000 in
set_option maxRecDepth 100000 in
theorem specChosen (d : Fs) (v : Value) (w : World) (hB : d.big ≤ 1048576) (h : Hid (FsAt w v d)) :
    Calls Try.prog 15 #[v] w fun e w' => e = .returned (.int .i64 d.chosen) ∧ Below w.heap.size w w' := by
  have A1 := fun v w h => specFairOk d v w hB h
  have A3 := fun v i w hi h => specBeg d v i w hi (Fs.small hB).1 h
  obtain ⟨a, c, rfl, k1⟩ := h.out
  clear h
  have Hv : Hid (d.chosen = if d.ok = true then d.best d.flows.length else -1) := rfl
  have Hs : Hid (∀ k, d.best (k + 1) = if (d.waits k && (decide (d.best k < 0) || decide (d.beg k < d.beg (d.best k).toNat))) = true then (k : Int) else d.best k) := fun _ => rfl
  have H0 : Hid (d.best 0 = -1) := rfl
  have Hbi : Hid (∀ k, -1 ≤ d.best k ∧ d.best k < k) := fun k => d.best_in k
  have Hwt : Hid (∀ i, d.waits i = decide (0 < (fwAt d.flows i).sizes.length)) := fun _ => rfl
  have Hg : Hid (d.ok = true → d.flows.length ≤ 8) := fun hk => (Fs.ok_iff.1 hk).2.1.2
  generalize d.chosen = R at Hv ⊢
  have A2 : ∀ a c w, FwsAt w a d.flows → Calls Try.prog 13 #[.agg #[.int .i64 d.now, .slice a d.flows.length c]] w fun e w' => e = .returned (.bool d.ok) ∧ Below w.heap.size w w' := fun a c w h => A1 _ w ⟨a, c, rfl, h⟩
  have A4 : ∀ a c (i : Nat) w, i < d.flows.length → FwsAt w a d.flows → Calls Try.prog 45 #[.agg #[.int .i64 d.now, .slice a d.flows.length c], .int .i64 i] w fun e w' => e = .returned (.int .i64 (d.beg i)) ∧ Below w.heap.size w w' := fun a c i w hi h => A3 _ i w hi ⟨a, c, rfl, h⟩
  generalize d.ok = ok at A2 Hv Hg
  generalize d.beg = bg at A4 Hs
  generalize d.waits = wt at Hs Hwt
  generalize d.best = bs at Hs Hv H0 Hbi
  clear A1 A3 hB
  obtain ⟨f, ls⟩ := d
  simp only [Fs.val] at A2 A4 Hg Hv Hwt k1 ⊢
  obtain ⟨len, hlen⟩ : ∃ n, ls.length = n := ⟨_, rfl⟩
  have Hlen : Hid (ls.length = len) := hlen
  rw [hlen] at A2 A4 Hg Hv ⊢
  clear hlen
  have A2' : Hid _ := A2
  have A4' : Hid _ := A4
  clear A2 A4
  have X : Hid (FwsAt (w.alloc (.cells #[.int .i64 f, .slice a len c] 26)) a ls ∧ Boxed (w.alloc (.cells #[.int .i64 f, .slice a len c] 26)) w.heap.size #[.int .i64 f, .slice a len c] 26 ∧ Below w.heap.size w (w.alloc (.cells #[.int .i64 f, .slice a len c] 26))) := ⟨k1.alloc _, Boxed.new _ _ _, (Below.refl _ _).alloc (Nat.le_refl _) _⟩
  clear k1
  go_enter Try.func15, Try.ntmps15
  go_wp2_with (refine wpList_load_row rfl 26 (.tmp 1) rfl w.heap.size rfl _ _ _ _ X.out.2.1 Try.underlying26 rfl (by kernel_rfl) ?_)
  refine (A2'.out _ _ _ X.out.1).mono ?_
  rintro e W ⟨rfl, q⟩
  have X1 : Hid (FwsAt W a ls ∧ Boxed W w.heap.size #[.int .i64 f, .slice a len c] 26 ∧ Below w.heap.size w W) := ⟨X.out.1.below q, X.out.2.1.below X.out.2.1.under q, X.out.2.2.trans (q.mono X.out.2.2.size)⟩
  clear q X A2'
  cases ok
  · have e1 : R = -1 := by rw [Hv.out]; rfl
    subst e1
    go_wp2
    go_ret
    exact ⟨rfl, X1.out.2.2⟩
  have hl8 := Hg.out (by first | exact trivial | exact rfl)
  have e1 : R = bs len := by rw [Hv.out]; rfl
  have HR : Hid (R = bs len) := e1
  clear Hv Hg e1
  go_wp2
  have hWs : Hid (w.heap.size < W.heap.size) := X1.out.2.1.under
  go_loopw [3, 4] (fun r i wr => ∃ (k : Nat) (z : Int), k ≤ len ∧ i = .int .i64 k ∧ r = .int .i64 z ∧ Hid (z = bs k) ∧ Hid (Below W.heap.size W wr)) (fun _ i _ => len - (intOf i).toNat)
  case atStart => exact ⟨0, -1, Nat.zero_le _, rfl, rfl, H0.out.symm, Below.refl _ _⟩
  case round =>
    obtain ⟨k, z, hk, rfl, rfl, Hz, HK⟩ := hrel
    by_cases hlt : k < len
    case neg =>
      have e : len = k := by omega
      have cb : wr.cell? ⟨w.heap.size, 1, none⟩ = some (.slice a len c) := (X1.out.2.1.below hWs.out HK.out).cell 1 rfl
      have e2 : z = R := by rw [Hz.out, HR.out, e]
      subst e
      subst e2
      go_wp2
      go_ret
      exact ⟨rfl, X1.out.2.2.trans (HK.out.mono X1.out.2.2.size)⟩
    have hkl : k < ls.length := by rw [Hlen.out]; exact hlt
    have Y : Hid (FwsAt wr a ls ∧ Boxed wr w.heap.size #[.int .i64 f, .slice a len c] 26) := ⟨X1.out.1.below HK.out, X1.out.2.1.below hWs.out HK.out⟩
    obtain ⟨b, off, ak, ck, ha, hb, ⟨c0, c1, c2⟩, hr, -⟩ := Y.out.1 k hkl
    subst ha
    have Hw2 : Hid (wt k = decide (0 < (fwAt ls k).sizes.length)) := Hwt.out k
    have Hs2 : Hid (bs (k + 1) = if (wt k && (decide (z < 0) || decide (bg k < bg z.toNat))) = true then (k : Int) else z) := by
      show bs (k + 1) = _
      rw [Hz.out]
      exact Hs.out k
    have hzb := Hbi.out k
    rw [← Hz.out] at hzb
    generalize (fwAt ls k).sizes.length = n at c2 Hw2
    have cb : wr.cell? ⟨w.heap.size, 1, none⟩ = some (.slice (some ⟨b, off, none⟩) len c) := Y.out.2.cell 1 rfl
    have hlt' : (k : Int) < (len : Int) := by omega
    have G : Hid (wr.cell? ⟨b, off + k * 3 + 2, none⟩ = some (.slice ak n ck) ∧ b < wr.heap.size) := ⟨c2, hb⟩
    clear hr c0 c1 c2 hb
    go_upto_region 7 with fail
    clear cb
    have d0 : ∀ p : BelW wr.heap.size wr, p.w'.cell? ⟨w.heap.size, 0, none⟩ = some (.int .i64 f) := fun p => (Y.out.2.below Y.out.2.under p.h).cell 0 rfl
    have d1 : ∀ p : BelW wr.heap.size wr, p.w'.cell? ⟨w.heap.size, 1, none⟩ = some (.slice (some ⟨b, off, none⟩) len c) := fun p => (Y.out.2.below Y.out.2.under p.h).cell 1 rfl
    have d2 : ∀ p : BelW wr.heap.size wr, p.w'.cell? ⟨b, off + k * 3 + 2, none⟩ = some (.slice ak n ck) := fun p => by rw [p.h.cell (p := ⟨b, off + k * 3 + 2, none⟩) G.out.2]; exact G.out.1
    haveI : Nonempty (BelW wr.heap.size wr) := ⟨⟨wr, Below.refl _ _⟩⟩
    by_cases g1 : n = 0
    · subst g1
      have e : bs (k + 1) = z := by rw [Hs2.out, Hw2.out]; rfl
      have He : Hid (z = bs (k + 1)) := e.symm
      clear e Hs2 Hw2
      refine region_below wr.heap.size (by kernel_rfl) (by kernel_rfl) ?_
      repeat (go_big_quiet_step (fail))
      refine wpQuiet_nil ?_
      intro w7 hx
      have H8 : Hid (Below W.heap.size W w7) := HK.out.trans ((BelW.out hx).mono HK.out.size)
      clear hx d0 d1 d2
      go_wp2
      go_roundw
      case rel => exact ⟨k + 1, z, by omega, by go_num, rfl, He, H8⟩
      case measure => simp [intOf]; omega
    have g1' : (0 : Int) < (n : Int) := by omega
    have g1n : 0 < n := by omega
    rw [decide_eq_true g1n] at Hw2
    have dn : decide (0 < n) = true := decide_eq_true g1n
    by_cases g2 : z < 0
    · have e : bs (k + 1) = (k : Int) := by rw [Hs2.out, Hw2.out, decide_eq_true g2]; rfl
      have He : Hid ((k : Int) = bs (k + 1)) := e.symm
      have dz : decide (z < 0) = true := decide_eq_true g2
      clear e Hs2 Hw2
      refine region_below wr.heap.size (by kernel_rfl) (by kernel_rfl) ?_
      repeat (go_big_quiet_step (fail))
      refine wpQuiet_nil ?_
      intro w7 hx
      have H8 : Hid (Below W.heap.size W w7) := HK.out.trans ((BelW.out hx).mono HK.out.size)
      clear hx d0 d1 d2
      go_wp2
      go_roundw
      case rel => exact ⟨k + 1, k, by omega, by go_num, rfl, He, H8⟩
      case measure => simp [intOf]; omega
    have dz : decide (z < 0) = false := decide_eq_false g2
    obtain ⟨m, hm⟩ : ∃ m : Nat, z = m := ⟨z.toNat, by omega⟩
    subst hm
    rw [Int.toNat_natCast] at Hs2
    have hml : m < len := by omega
    have C1 := fun w h => A4'.out (some ⟨b, off, none⟩) c k w hlt h
    have C2 := fun w h => A4'.out (some ⟨b, off, none⟩) c m w hml h
    rw [Hw2.out, dz, Bool.false_or, Bool.true_and] at Hs2
    generalize bg k = x at C1 Hs2
    generalize bg m = y at C2 Hs2
    have C1' : Hid _ := C1
    have C2' : Hid _ := C2
    clear C1 C2
    refine region_below wr.heap.size (by kernel_rfl) (by kernel_rfl) ?_
    repeat (go_big_quiet_step ((first | (go_at_call 45; with_reducible refine quiet_below (Nat.le_refl _) (C1'.out _ (Y.out.1.below (BelW.h _)))) | (go_at_call 45; with_reducible refine quiet_below (Nat.le_refl _) (C2'.out _ (Y.out.1.below (BelW.h _)))))))
    refine wpQuiet_nil ?_
    intro w7 hx
    have H8 : Hid (Below W.heap.size W w7) := HK.out.trans ((BelW.out hx).mono HK.out.size)
    clear hx d0 d1 d2
    by_cases hxy : x < y
    · have e : bs (k + 1) = (k : Int) := by rw [Hs2.out, decide_eq_true hxy]; rfl
      have He : Hid ((k : Int) = bs (k + 1)) := e.symm
      clear e Hs2
      go_wp2
      go_roundw
      case rel => exact ⟨k + 1, k, by omega, by go_num, rfl, He, H8⟩
      case measure => simp [intOf]; omega
    · have e : bs (k + 1) = (m : Int) := by rw [Hs2.out, decide_eq_false hxy]; rfl
      have He : Hid ((m : Int) = bs (k + 1)) := e.symm
      clear e Hs2
      go_wp2
      go_roundw
      case rel => exact ⟨k + 1, m, by omega, by go_num, rfl, He, H8⟩
      case measure => simp [intOf]; omega
end Go.Proofs.Ytllmkolchgmjoaa
