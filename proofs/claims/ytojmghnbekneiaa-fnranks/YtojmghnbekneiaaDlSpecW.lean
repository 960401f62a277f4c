/-
  The walks of the model's Waiting and Rank. By the verifier.
-/
import Derived.Test.YtojmghnbekneiaaDlSpec
namespace Go.Proofs.Ytojmghnbekneiaa
open Go.RowKit

theorem waits_take (l : List Hs) (k : Nat) (h : k < l.length) : tot ((l.take (k + 1)).map Hs.sum) = tot ((l.take k).map Hs.sum) + (hsAt l k).sum := by
  rw [List.take_succ_eq_append_getElem h, List.map_append, tot_append, hsAt_lt h]
  simp [tot]
theorem waits_in {l : List Hs} (h : ∀ x ∈ l, x.ok = true) : 0 ≤ tot (l.map Hs.sum) ∧ tot (l.map Hs.sum) ≤ 8000 * (l.length : Int) := by
  induction l with
  | nil => simp [tot]
  | cons x r ih =>
    have h1 := ih fun y hy => h y (List.mem_cons_of_mem _ hy)
    have h2 := Hs.sum_in (h x List.mem_cons_self)
    simp only [List.map_cons, tot, List.length_cons]
    push_cast
    omega

set_option maxHeartbeats 3200000 in
set_option maxRecDepth 100000 in
theorem specWaiting (d : Dl) (v : Value) (w : World) (hB : d.big ≤ 1048576) (h : Hid (DlAt w v d)) :
    Calls Try.prog 13 #[v] w fun e w' => e = .returned (.int .i64 d.waiting) ∧ Below w.heap.size w w' := by
  have A1 := fun v w h => specDealOk d v w hB h
  obtain ⟨a, c, rfl, k1⟩ := h.out
  clear h
  have Hv : Hid (d.waiting = if d.ok = true then d.waits else -1) := rfl
  have Hw : Hid (d.waits = tot ((d.hosts.take d.hosts.length).map Hs.sum)) := by show d.waits = _; rw [List.take_length]; rfl
  have Hg : Hid (d.ok = true → d.hosts.length ≤ 8 ∧ ∀ k, k < d.hosts.length → (hsAt d.hosts k).ok = true) := fun hk => ⟨(Dl.ok_iff.1 hk).1.2, fun k h => Dl.ok_at hk h⟩
  have Hb : Hid (d.ok = true → ∀ k, k ≤ d.hosts.length → 0 ≤ tot ((d.hosts.take k).map Hs.sum) ∧ tot ((d.hosts.take k).map Hs.sum) ≤ 64000) := fun hk k hkl => by
    have h1 := waits_in (l := d.hosts.take k) fun x hx => (Dl.ok_iff.1 hk).2.2 x (List.mem_of_mem_take hx)
    have h2 := (Dl.ok_iff.1 hk).1.2
    rw [List.length_take] at h1
    omega
  generalize d.waiting = R at Hv ⊢
  generalize d.waits = T at Hv Hw
  have A2 : ∀ a c w, HssAt w a d.hosts → Calls Try.prog 11 #[.agg #[.int .i64 d.turn, .slice a d.hosts.length c]] w fun e w' => e = .returned (.bool d.ok) ∧ Below w.heap.size w w' := fun a c w h => A1 _ w ⟨a, c, rfl, h⟩
  generalize d.ok = ok at A2 Hv Hg Hb
  clear A1 hB
  obtain ⟨f, ls⟩ := d
  simp only [Dl.val] at A2 Hw Hg Hb k1 ⊢
  obtain ⟨len, hlen⟩ : ∃ n, ls.length = n := ⟨_, rfl⟩
  have Hlen : Hid (ls.length = len) := hlen
  rw [hlen] at A2 Hw Hg Hb ⊢
  clear hlen
  have A2' : Hid _ := A2
  clear A2
  have X : Hid (HssAt (w.alloc (.cells #[.int .i64 f, .slice a len c] 26)) a ls ∧ Boxed (w.alloc (.cells #[.int .i64 f, .slice a len c] 26)) w.heap.size #[.int .i64 f, .slice a len c] 26 ∧ Below w.heap.size w (w.alloc (.cells #[.int .i64 f, .slice a len c] 26))) := ⟨k1.alloc _, Boxed.new _ _ _, (Below.refl _ _).alloc (Nat.le_refl _) _⟩
  clear k1
  go_enter Try.func13, Try.ntmps13
  go_wp2_with (refine wpList_load_row rfl 26 (.tmp 1) rfl w.heap.size rfl _ _ _ _ X.out.2.1 Try.underlying26 rfl (by kernel_rfl) ?_)
  refine (A2'.out _ _ _ X.out.1).mono ?_
  rintro e W ⟨rfl, q⟩
  have X1 : Hid (HssAt W a ls ∧ Boxed W w.heap.size #[.int .i64 f, .slice a len c] 26 ∧ Below w.heap.size w W) := ⟨X.out.1.below q, X.out.2.1.below X.out.2.1.under q, X.out.2.2.trans (q.mono X.out.2.2.size)⟩
  clear q X A2'
  cases ok
  · have e1 : R = -1 := by rw [Hv.out]; rfl
    subst e1
    go_wp2
    go_ret
    exact ⟨rfl, X1.out.2.2⟩
  have e1 : R = T := by rw [Hv.out]; rfl
  subst e1
  obtain ⟨hl8, hg⟩ := Hg.out (by first | exact trivial | exact rfl)
  have hb := Hb.out (by first | exact trivial | exact rfl)
  have HG : Hid _ := hg
  have HB : Hid _ := hb
  clear hg hb Hg Hb Hv
  go_wp2
  have hWs : Hid (w.heap.size < W.heap.size) := X1.out.2.1.under
  go_loopw [3, 4] (fun n i wr => ∃ (k : Nat) (z : Int), k ≤ len ∧ i = .int .i64 k ∧ n = .int .i64 z ∧ Hid (z = tot ((ls.take k).map Hs.sum)) ∧ Hid (Below W.heap.size W wr)) (fun _ i _ => len - (intOf i).toNat)
  case atStart => exact ⟨0, 0, Nat.zero_le _, rfl, rfl, by show 0 = tot ((ls.take 0).map Hs.sum); simp [tot], Below.refl _ _⟩
  case round =>
    obtain ⟨k, z, hk, rfl, rfl, Hz, HK⟩ := hrel
    have cb : wr.cell? ⟨w.heap.size, 1, none⟩ = some (.slice a len c) := (X1.out.2.1.below hWs.out HK.out).cell 1 rfl
    by_cases hlt : k < len
    · have hkl : k < ls.length := by rw [Hlen.out]; exact hlt
      obtain ⟨b, off, ak, ck, ha, hb, ⟨c0, c1⟩, hr, -⟩ := (X1.out.1.below HK.out) k hkl
      subst ha
      have ht := waits_take ls k hkl
      have b1 := HB.out k (by omega)
      rw [← Hz.out] at b1
      have A3 := fun w h => specHost (hsAt ls k) ak ck w (HG.out k hlt) h
      have b2 := Hs.sum_in (HG.out k hlt)
      generalize hsAt ls k = q at c0 c1 hr ht A3 b2
      have Ht : Hid (tot ((ls.take (k + 1)).map Hs.sum) = z + q.sum) := by show tot _ = _; rw [ht, Hz.out]
      generalize q.sum = y at A3 b2 Ht
      obtain ⟨t, fl⟩ := q
      simp only [Hs.val] at c0 c1 hr A3
      generalize fl.length = n at c1 A3
      have A3' : Hid _ := A3
      have Hr : Hid (IntsAt wr ak fl) := hr
      obtain ⟨z0, z1⟩ := b1
      obtain ⟨y0, y1⟩ := b2
      clear A3 hr ht hkl
      have hlt' : (k : Int) < (len : Int) := by omega
      go_wp2_with fail
      refine (A3'.out _ Hr.out).mono ?_
      rintro e w2 ⟨rfl, q⟩
      have K2 : Hid (Below W.heap.size W w2) := HK.out.trans (q.mono HK.out.size)
      clear q c0 c1 cb
      go_wp2
      go_roundw
      case rel => exact ⟨k + 1, z + y, by omega, by go_num, by go_num, by show z + y = _; rw [Ht.out], K2⟩
      case measure => simp [intOf]; omega
    · obtain rfl : k = len := by omega
      have hz : z = R := by rw [Hz.out, Hw.out]
      subst hz
      go_wp2
      go_ret
      exact ⟨rfl, X1.out.2.2.trans (HK.out.mono X1.out.2.2.size)⟩

end Go.Proofs.Ytojmghnbekneiaa
