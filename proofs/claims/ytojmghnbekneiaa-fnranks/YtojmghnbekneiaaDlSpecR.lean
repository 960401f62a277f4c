/-
  The walk of the model's Rank. By the verifier.
-/
import Derived.Test.YtojmghnbekneiaaDlSpec
import Derived.Test.YtojmghnbekneiaaDlGap
namespace Go.Proofs.Ytojmghnbekneiaa
open Go.RowKit

theorem back_step {t n k : Nat} (ht : t < n) (hk : k < n) : ((t + k) % n + n - t) % n = k := by
  by_cases a1 : t + k < n
  · rw [Nat.mod_eq_of_lt a1, show t + k + n - t = k + n by omega, Nat.add_mod_right, Nat.mod_eq_of_lt hk]
  · have e : (t + k) % n = t + k - n := by rw [Nat.mod_eq_sub_mod (by omega), Nat.mod_eq_of_lt (by omega)]
    rw [e, show t + k - n + n - t = k by omega, Nat.mod_eq_of_lt hk]
theorem next_step {t n k : Nat} : ((t + k) % n + 1) % n = (t + (k + 1)) % n := by
  rw [Nat.mod_add_mod]
  rfl
theorem tmod_nat (i n : Nat) : Int.tmod ((i : Int) + 1) (n : Int) = (((i + 1) % n : Nat) : Int) := by
  rw [show (i : Int) + 1 = ((i + 1 : Nat) : Int) by push_cast; rfl]
  rfl

set_option maxHeartbeats 3200000 in
set_option maxRecDepth 100000 in
theorem specRank (d : Dl) (v : Value) (host : Int) (w : World) (hB : d.big ≤ 1048576) (h : Hid (DlAt w v d)) :
    Calls Try.prog 20 #[v, .int .i64 host] w fun e w' => e = .returned (.int .i64 (d.rank host)) ∧ Below w.heap.size w w' := by
  have A1 := fun v w h => specDealOk d v w hB h
  obtain ⟨a, c, rfl, k1⟩ := h.out
  clear h
  have Hv : Hid (d.rank host = if d.isRanked host = true then ((cnt (fun i => (hsAt d.hosts i).some) d.turn.toNat d.hosts.length (d.gap host.toNat) : Nat) : Int) else -1) := rfl
  have Hi : Hid (d.isRanked host = (d.ok && (inB 0 ((d.hosts.length : Int) - 1) host && (hsAt d.hosts host.toNat).some))) := rfl
  have Hg : Hid (d.ok = true → d.hosts.length ≤ 8 ∧ (0 ≤ d.turn ∧ d.turn < (d.hosts.length : Int)) ∧ ∀ k, k < d.hosts.length → (hsAt d.hosts k).ok = true) := fun hk => ⟨(Dl.ok_iff.1 hk).1.2, (Dl.ok_iff.1 hk).2.1, fun k h => Dl.ok_at hk h⟩
  have Hgap : Hid (d.ok = true → ∀ h, h < d.hosts.length → d.gap h < d.hosts.length ∧ ∀ k, k ≤ d.gap h → ((d.turn.toNat + k) % d.hosts.length = h ↔ k = d.gap h)) := fun hk h hh => Dl.gap_is hk hh
  generalize d.rank host = R at Hv ⊢
  have A2 : ∀ a c w, HssAt w a d.hosts → Calls Try.prog 11 #[.agg #[.int .i64 d.turn, .slice a d.hosts.length c]] w fun e w' => e = .returned (.bool d.ok) ∧ Below w.heap.size w w' := fun a c w h => A1 _ w ⟨a, c, rfl, h⟩
  generalize d.isRanked host = rk at Hi Hv
  generalize d.gap = gp at Hv Hgap
  generalize d.ok = ok at A2 Hi Hg Hgap
  clear A1 hB
  obtain ⟨f, ls⟩ := d
  simp only [Dl.val] at A2 Hg Hgap Hv Hi k1 ⊢
  obtain ⟨len, hlen⟩ : ∃ n, ls.length = n := ⟨_, rfl⟩
  have Hlen : Hid (ls.length = len) := hlen
  rw [hlen] at A2 Hg Hgap Hv Hi ⊢
  clear hlen
  have A2' : Hid _ := A2
  clear A2
  have X : Hid (HssAt (w.alloc (.cells #[.int .i64 f, .slice a len c] 26)) a ls ∧ Boxed (w.alloc (.cells #[.int .i64 f, .slice a len c] 26)) w.heap.size #[.int .i64 f, .slice a len c] 26 ∧ Below w.heap.size w (w.alloc (.cells #[.int .i64 f, .slice a len c] 26))) := ⟨k1.alloc _, Boxed.new _ _ _, (Below.refl _ _).alloc (Nat.le_refl _) _⟩
  clear k1
  go_enter Try.func20, Try.ntmps20
  go_wp2_with (refine wpList_load_row rfl 26 (.tmp 2) rfl w.heap.size rfl _ _ _ _ X.out.2.1 Try.underlying26 rfl (by kernel_rfl) ?_)
  refine (A2'.out _ _ _ X.out.1).mono ?_
  rintro e W ⟨rfl, q⟩
  have X1 : Hid (HssAt W a ls ∧ Boxed W w.heap.size #[.int .i64 f, .slice a len c] 26 ∧ Below w.heap.size w W) := ⟨X.out.1.below q, X.out.2.1.below X.out.2.1.under q, X.out.2.2.trans (q.mono X.out.2.2.size)⟩
  clear q X A2'
  have no : Hid (rk = false → R = -1) := fun e => by rw [Hv.out, e]; rfl
  cases ok
  · have e1 : R = -1 := no.out (by rw [Hi.out]; rfl)
    subst e1
    go_wp2
    go_ret
    exact ⟨rfl, X1.out.2.2⟩
  by_cases g1 : host < 0
  · have e1 : R = -1 := no.out (by rw [Hi.out, inB_false.2 (by omega)]; rfl)
    subst e1
    go_wp2
    go_ret
    exact ⟨rfl, X1.out.2.2⟩
  by_cases g2 : (len : Int) ≤ host
  · have e1 : R = -1 := no.out (by rw [Hi.out, inB_false.2 (by omega)]; rfl)
    subst e1
    go_wp2
    go_ret
    exact ⟨rfl, X1.out.2.2⟩
  obtain ⟨H, hH⟩ : ∃ H : Nat, host = H := ⟨host.toNat, by omega⟩
  subst hH
  obtain ⟨hl8, hf, hg⟩ := Hg.out (by first | exact trivial | exact rfl)
  have HG : Hid _ := hg
  have hHl : H < len := by omega
  obtain ⟨hgl, hgap⟩ := Hgap.out (by first | exact trivial | exact rfl) H hHl
  rw [Int.toNat_natCast] at Hi Hv
  clear hg Hg Hgap
  have cb0 : W.cell? ⟨w.heap.size, 0, none⟩ = some (.int .i64 f) := X1.out.2.1.cell 0 rfl
  have cb : W.cell? ⟨w.heap.size, 1, none⟩ = some (.slice a len c) := X1.out.2.1.cell 1 rfl
  obtain ⟨b, off, ak, ck, ha, hb, ⟨c0, c1⟩, hr, -⟩ := X1.out.1 H (by rw [Hlen.out]; exact hHl)
  subst ha
  have A3 := fun w h => specHost (hsAt ls H) ak ck w (HG.out H hHl) h
  have Hi2 : Hid (rk = decide ((hsAt ls H).sum ≠ 0)) := by
    show rk = _
    rw [Hi.out, inB_true.2 (by omega)]
    rfl
  generalize (hsAt ls H).sum = y at A3 Hi2
  generalize hsAt ls H = q at c0 c1 hr A3
  obtain ⟨t, fl⟩ := q
  simp only [Hs.val] at c0 c1 hr A3
  generalize fl.length = n at c1 A3
  have A3' : Hid _ := A3
  have Hr : Hid (IntsAt W ak fl) := hr
  clear A3 hr Hi
  have g2' : (H : Int) < (len : Int) := by omega
  have d1 : decide ((H : Int) < 0) = false := decide_eq_false (by omega)
  have d2 : decide (len ≤ H) = false := decide_eq_false (by omega)
  go_wp2_with fail
  refine (A3'.out _ Hr.out).mono ?_
  rintro e w2 ⟨rfl, q⟩
  have X2 : Hid (HssAt w2 (some ⟨b, off, none⟩) ls ∧ Boxed w2 w.heap.size #[.int .i64 f, .slice (some ⟨b, off, none⟩) len c] 26 ∧ Below w.heap.size w w2) := ⟨X1.out.1.below q, X1.out.2.1.below X1.out.2.1.under q, X1.out.2.2.trans (q.mono X1.out.2.2.size)⟩
  clear q c0 c1 cb cb0 A3' Hr X1
  by_cases g3 : y = 0
  · have e1 : R = -1 := no.out (by rw [Hi2.out, g3]; rfl)
    subst e1
    subst g3
    go_wp2
    go_ret
    exact ⟨rfl, X2.out.2.2⟩
  have e1 : R = ((cnt (fun i => (hsAt ls i).some) f.toNat len (gp H) : Nat) : Int) := by
    rw [Hv.out, if_pos (by rw [Hi2.out]; exact decide_eq_true g3)]
  obtain ⟨F, hF⟩ : ∃ F : Nat, f = F := ⟨f.toNat, by omega⟩
  subst hF
  rw [Int.toNat_natCast] at e1 hgap
  have hFl : F < len := by omega
  have He : Hid _ := e1
  have Hgap : Hid _ := hgap
  clear Hv Hi2 no e1 hgap
  have cb0 : w2.cell? ⟨w.heap.size, 0, none⟩ = some (.int .i64 F) := X2.out.2.1.cell 0 rfl
  have d3 : (y == 0) = false := by simpa using g3
  go_wp2
  clear g1 g2 g2' g3 d1 d2 d3
  have hWs : Hid (w.heap.size < w2.heap.size) := X2.out.2.1.under
  have Hm : Hid (∀ k, k < len → ((F + k) % len + len - F) % len = k) := fun k hk => back_step hFl hk
  generalize gp H = G at hgl Hgap He
  go_loopw [6, 7] (fun r i wr => ∃ (k I C : Nat), k ≤ G ∧ i = .int .i64 I ∧ r = .int .i64 C ∧ Hid (I = (F + k) % len) ∧ Hid (C = cnt (fun i => (hsAt ls i).some) F len k) ∧ Hid (Below w2.heap.size w2 wr)) (fun _ i _ => G - ((intOf i).toNat + len - F) % len)
  case atStart => exact ⟨0, F, 0, Nat.zero_le _, rfl, rfl, by show F = _; rw [Nat.add_zero, Nat.mod_eq_of_lt hFl], rfl, Below.refl _ _⟩
  case round =>
    obtain ⟨k, I, C, hk, rfl, rfl, HI, HC, HK⟩ := hrel
    have hI : I < len := by rw [HI.out]; exact Nat.mod_lt _ (by omega)
    by_cases hlt : k = G
    · have e : I = H := by rw [HI.out]; exact (Hgap.out k hk).2 hlt
      subst e
      have e2 : R = (C : Int) := by rw [He.out, HC.out, hlt]
      subst e2
      go_wp2
      go_ret
      exact ⟨rfl, X2.out.2.2.trans (HK.out.mono X2.out.2.2.size)⟩
    · have hne : ¬ (I : Int) = (H : Int) := fun e => hlt ((Hgap.out k hk).1 (by rw [← HI.out]; omega))
      have cb : wr.cell? ⟨w.heap.size, 1, none⟩ = some (.slice (some ⟨b, off, none⟩) len c) := (X2.out.2.1.below hWs.out HK.out).cell 1 rfl
      obtain ⟨b9, off9, ak9, ck9, ha9, hb9, ⟨c0, c1⟩, hr, -⟩ := (X2.out.1.below HK.out) I (by rw [Hlen.out]; exact hI)
      cases ha9
      have A3 := fun w h => specHost (hsAt ls I) ak9 ck9 w (HG.out I hI) h
      have b2 := Hs.sum_in (HG.out I hI)
      have hc := cnt_le (fun i => (hsAt ls i).some) F len k
      rw [← HC.out] at hc
      have HC2 : Hid (cnt (fun i => (hsAt ls i).some) F len (k + 1) = C + if (hsAt ls I).sum ≠ 0 then 1 else 0) := by
        show cnt _ F len (k + 1) = _
        unfold cnt
        rw [← HC.out, ← HI.out]
        by_cases hz : (hsAt ls I).sum = 0
        · simp [Hs.some, hz]
        · simp [Hs.some, hz]
      generalize (hsAt ls I).sum = y9 at A3 b2 HC2
      generalize hsAt ls I = q at c0 c1 hr A3
      obtain ⟨t9, fl9⟩ := q
      simp only [Hs.val] at c0 c1 hr A3
      generalize fl9.length = n9 at c1 A3
      have A3' : Hid _ := A3
      have Hr : Hid (IntsAt wr ak9 fl9) := hr
      clear A3 hr
      obtain ⟨y0, y1⟩ := b2
      have hI' : (I : Int) < (len : Int) := by omega
      go_wp2_with fail
      refine (A3'.out _ Hr.out).mono ?_
      rintro e w3 ⟨rfl, q⟩
      have K2 : Hid (Below w2.heap.size w2 w3) := HK.out.trans (q.mono HK.out.size)
      clear q c0 c1 cb Hr A3'
      have hnz : ¬ (len : Int) = 0 := by omega
      have kt : Int.tmod ((I : Int) + 1) (len : Int) = (((I + 1) % len : Nat) : Int) := tmod_nat I len
      have kl : (I + 1) % len < len := Nat.mod_lt _ (by omega)
      have kw1 : IntKind.i64.wrap ((I : Int) + 1) = (I : Int) + 1 := by rw [IntKind.wrap_i64]; omega
      have kw2 : IntKind.i64.wrap (((I + 1) % len : Nat) : Int) = (((I + 1) % len : Nat) : Int) := by rw [IntKind.wrap_i64]; omega
      have HJ : Hid ((I + 1) % len = (F + (k + 1)) % len) := by show (I + 1) % len = _; rw [HI.out]; exact next_step
      have HM : Hid (G - ((I + 1) % len + len - F) % len < G - (I + len - F) % len) := by
        show G - _ < G - _
        rw [HJ.out, Hm.out (k + 1) (by omega), HI.out, Hm.out k (by omega)]
        omega
      generalize (I + 1) % len = J at kt kl kw2 HJ HM
      by_cases hz : 0 < y9
      · have HC3 : Hid (C + 1 = cnt (fun i => (hsAt ls i).some) F len (k + 1)) := by show C + 1 = _; rw [HC2.out, if_pos (by omega)]
        go_wp2
        go_roundw
        case rel => exact ⟨k + 1, J, C + 1, by omega, by first | rfl | simp only [kt, kw2], by go_num, HJ, HC3, K2⟩
        case measure => simpa [intOf] using HM.out
      · have HC3 : Hid (C = cnt (fun i => (hsAt ls i).some) F len (k + 1)) := by show C = _; rw [HC2.out, if_neg (by omega)]; rfl
        go_wp2
        go_roundw
        case rel => exact ⟨k + 1, J, C, by omega, by first | rfl | simp only [kt, kw2], rfl, HJ, HC3, K2⟩
        case measure => simpa [intOf] using HM.out
end Go.Proofs.Ytojmghnbekneiaa
