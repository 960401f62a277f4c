/-
  The walks of the model's Begins and Chosen. By the verifier.
-/
import Derived.Test.YtllmkolchgmjoaaFsSpec
import Derived.Test.YtllmkolchgmjoaaNumMax
namespace Go.Proofs.Ytllmkolchgmjoaa
open Go.RowKit

set_option maxHeartbeats 3200000 in
set_option maxRecDepth 100000 in
theorem specBeg (d : Fs) (v : Value) (i : Nat) (w : World) (hi : i < d.flows.length) (hl : d.flows.length ≤ 1048576) (h : Hid (FsAt w v d)) :
    Calls Try.prog 45 #[v, .int .i64 i] w fun e w' => e = .returned (.int .i64 (d.beg i)) ∧ Below w.heap.size w w' := by
  obtain ⟨a, c, rfl, k1⟩ := h.out
  clear h
  have Hv : Hid (d.beg i = max d.now (fwAt d.flows i).finish) := rfl
  generalize d.beg i = R at Hv ⊢
  obtain ⟨f, ls⟩ := d
  simp only [Fs.val] at Hv k1 hi hl ⊢
  obtain ⟨b, off, ak, ck, ha, hb, ⟨c0, c1, c2⟩, -, -⟩ := k1 i hi
  subst ha
  generalize (fwAt ls i).finish = u at c1 Hv
  generalize (fwAt ls i).weight = t at c0
  generalize (fwAt ls i).sizes.length = m at c2
  generalize ls.length = n at hi hl ⊢
  clear k1 c0 c2
  have M : ∀ w, Calls Try.prog 55 #[.int .i64 f, .int .i64 u] w fun e w' => e = .returned (.int .i64 R) ∧ Below w.heap.size w w' := fun w => (specMx f u w).mono (by rintro e w' ⟨rfl, rfl⟩; exact ⟨by rw [Hv.out], Below.refl _ _⟩)
  have M' : Hid _ := M
  clear M Hv
  have X : Hid (Boxed (w.alloc (.cells #[.int .i64 f, .slice (some ⟨b, off, none⟩) n c] 26)) w.heap.size #[.int .i64 f, .slice (some ⟨b, off, none⟩) n c] 26 ∧ (w.alloc (.cells #[.int .i64 f, .slice (some ⟨b, off, none⟩) n c] 26)).cell? ⟨b, off + i * 3 + 1, none⟩ = some (.int .i64 u) ∧ Below w.heap.size w (w.alloc (.cells #[.int .i64 f, .slice (some ⟨b, off, none⟩) n c] 26)) ∧ b < (w.alloc (.cells #[.int .i64 f, .slice (some ⟨b, off, none⟩) n c] 26)).heap.size) := by
    have q : Below w.heap.size w (w.alloc (.cells #[.int .i64 f, .slice (some ⟨b, off, none⟩) n c] 26)) := (Below.refl _ _).alloc (Nat.le_refl _) _
    exact ⟨Boxed.new _ _ _, by rw [q.cell (p := ⟨b, off + i * 3 + 1, none⟩) hb]; exact c1, q, Nat.lt_of_lt_of_le hb q.size⟩
  clear c1 hb
  go_enter Try.func45, Try.ntmps45
  go_upto_region 1 with fail
  generalize w.alloc (.cells #[.int .i64 f, .slice (some ⟨b, off, none⟩) n c] 26) = W at X ⊢
  have d0 : ∀ p : BelW W.heap.size W, p.w'.cell? ⟨w.heap.size, 0, none⟩ = some (.int .i64 f) := fun p => (X.out.1.below X.out.1.under p.h).cell 0 rfl
  have d1 : ∀ p : BelW W.heap.size W, p.w'.cell? ⟨w.heap.size, 1, none⟩ = some (.slice (some ⟨b, off, none⟩) n c) := fun p => (X.out.1.below X.out.1.under p.h).cell 1 rfl
  have d2 : ∀ p : BelW W.heap.size W, p.w'.cell? ⟨b, off + i * 3 + 1, none⟩ = some (.int .i64 u) := fun p => by rw [p.h.cell (p := ⟨b, off + i * 3 + 1, none⟩) X.out.2.2.2]; exact X.out.2.1
  haveI : Nonempty (BelW W.heap.size W) := ⟨⟨W, Below.refl _ _⟩⟩
  have hi' : (i : Int) < (n : Int) := by omega
  refine region_below W.heap.size (by kernel_rfl) (by kernel_rfl) ?_
  repeat (go_big_quiet_step ((go_at_call 55; with_reducible refine quiet_below (Nat.le_refl _) (M'.out _))))
  refine wpQuiet_nil ?_
  intro w7 hx
  have H8 : Hid (Below w.heap.size w w7) := X.out.2.2.1.trans ((BelW.out hx).mono X.out.2.2.1.size)
  clear hx d0 d1 d2
  go_wp2
  go_ret
  exact ⟨rfl, H8.out⟩

set_option maxHeartbeats 3200000 in
set_option maxRecDepth 100000 in
theorem specBegins (d : Fs) (v : Value) (flow : Int) (w : World) (hB : d.big ≤ 1048576) (h : Hid (FsAt w v d)) :
    Calls Try.prog 23 #[v, .int .i64 flow] w fun e w' => e = .returned (.int .i64 (d.begins flow)) ∧ Below w.heap.size w w' := by
  have A1 := fun v w h => specFairOk d v w hB h
  have A3 := fun v i w hi h => specBeg d v i w hi (Fs.small hB).1 h
  obtain ⟨a, c, rfl, k1⟩ := h.out
  clear h
  have Hv : Hid (d.begins flow = if (d.ok && (inB 0 ((d.flows.length : Int) - 1) flow && d.waits flow.toNat)) = true then d.beg flow.toNat else -1) := rfl
  have Hwt : Hid (∀ i, d.waits i = decide (0 < (fwAt d.flows i).sizes.length)) := fun _ => rfl
  have Hg : Hid (d.ok = true → d.flows.length ≤ 8) := fun hk => (Fs.ok_iff.1 hk).2.1.2
  generalize d.begins flow = R at Hv ⊢
  have A2 : ∀ a c w, FwsAt w a d.flows → Calls Try.prog 13 #[.agg #[.int .i64 d.now, .slice a d.flows.length c]] w fun e w' => e = .returned (.bool d.ok) ∧ Below w.heap.size w w' := fun a c w h => A1 _ w ⟨a, c, rfl, h⟩
  have A4 : ∀ a c (i : Nat) w, i < d.flows.length → FwsAt w a d.flows → Calls Try.prog 45 #[.agg #[.int .i64 d.now, .slice a d.flows.length c], .int .i64 i] w fun e w' => e = .returned (.int .i64 (d.beg i)) ∧ Below w.heap.size w w' := fun a c i w hi h => A3 _ i w hi ⟨a, c, rfl, h⟩
  generalize d.ok = ok at A2 Hv Hg
  generalize d.beg = bg at A4 Hv
  generalize d.waits = wt at Hv Hwt
  clear A1 A3 hB
  obtain ⟨f, ls⟩ := d
  simp only [Fs.val] at A2 A4 Hg Hv Hwt k1 ⊢
  obtain ⟨len, hlen⟩ : ∃ n, ls.length = n := ⟨_, rfl⟩
  have Hlen : Hid (ls.length = len) := hlen
  rw [hlen] at A2 A4 Hg Hv ⊢
  clear hlen
  have A2' : Hid _ := A2
  have A4' : Hid _ := A4
  clear A2 A4
  have X : Hid (FwsAt (w.alloc (.cells #[.int .i64 f, .slice a len c] 26)) a ls ∧ Boxed (w.alloc (.cells #[.int .i64 f, .slice a len c] 26)) w.heap.size #[.int .i64 f, .slice a len c] 26 ∧ Below w.heap.size w (w.alloc (.cells #[.int .i64 f, .slice a len c] 26))) := ⟨k1.alloc _, Boxed.new _ _ _, (Below.refl _ _).alloc (Nat.le_refl _) _⟩
  clear k1
  go_enter Try.func23, Try.ntmps23
  go_wp2_with (refine wpList_load_row rfl 26 (.tmp 2) rfl w.heap.size rfl _ _ _ _ X.out.2.1 Try.underlying26 rfl (by kernel_rfl) ?_)
  refine (A2'.out _ _ _ X.out.1).mono ?_
  rintro e W ⟨rfl, q⟩
  have X1 : Hid (FwsAt W a ls ∧ Boxed W w.heap.size #[.int .i64 f, .slice a len c] 26 ∧ Below w.heap.size w W) := ⟨X.out.1.below q, X.out.2.1.below X.out.2.1.under q, X.out.2.2.trans (q.mono X.out.2.2.size)⟩
  clear q X A2'
  cases ok
  · have e1 : R = -1 := by rw [Hv.out]; rfl
    subst e1
    go_wp2
    go_ret
    exact ⟨rfl, X1.out.2.2⟩
  have hl8 := Hg.out (by first | exact trivial | exact rfl)
  have cb : W.cell? ⟨w.heap.size, 1, none⟩ = some (.slice a len c) := X1.out.2.1.cell 1 rfl
  by_cases g1 : flow < 0
  · have e1 : R = -1 := by rw [Hv.out, inB_false.2 (by omega)]; rfl
    subst e1
    go_wp2
    go_ret
    exact ⟨rfl, X1.out.2.2⟩
  by_cases g2 : (len : Int) ≤ flow
  · have e1 : R = -1 := by rw [Hv.out, inB_false.2 (by omega)]; rfl
    subst e1
    go_wp2
    go_ret
    exact ⟨rfl, X1.out.2.2⟩
  obtain ⟨H, hH⟩ : ∃ H : Nat, flow = H := ⟨flow.toNat, by omega⟩
  subst hH
  rw [Int.toNat_natCast] at Hv
  have hHl : H < len := by omega
  obtain ⟨b, off, ak, ck, ha, hb, ⟨c0, c1, c2⟩, hr, -⟩ := X1.out.1 H (by rw [Hlen.out]; exact hHl)
  subst ha
  have Hw2 : Hid (wt H = decide (0 < (fwAt ls H).sizes.length)) := Hwt.out H
  generalize (fwAt ls H).sizes.length = n at c2 Hw2
  have g2' : (H : Int) < (len : Int) := by omega
  have d1 : decide ((H : Int) < 0) = false := decide_eq_false (by omega)
  have d2 : decide (len ≤ H) = false := decide_eq_false (by omega)
  clear hr Hwt c0 c1
  by_cases g3 : n = 0
  · have e1 : R = -1 := by rw [Hv.out, Hw2.out, g3, inB_true.2 (by omega)]; rfl
    subst e1
    subst g3
    go_wp2
    go_ret
    exact ⟨rfl, X1.out.2.2⟩
  have e1 : R = bg H := by rw [Hv.out, Hw2.out, inB_true.2 (by omega), decide_eq_true (show 0 < n by omega)]; rfl
  have d3 : ((n : Int) == 0) = false := by simpa using g3
  clear Hv Hw2
  go_wp2_with (refine wpList_load_row rfl 26 (.tmp 2) rfl w.heap.size rfl _ _ _ _ X1.out.2.1 Try.underlying26 rfl (by kernel_rfl) ?_)
  refine (A4'.out _ _ H _ hHl X1.out.1).mono ?_
  rintro e w2 ⟨rfl, q⟩
  have X2 : Hid (Below w.heap.size w w2) := X1.out.2.2.trans (q.mono X1.out.2.2.size)
  clear q A4' cb c2 X1
  subst e1
  go_wp2
  go_ret
  exact ⟨rfl, X2.out⟩

end Go.Proofs.Ytllmkolchgmjoaa
