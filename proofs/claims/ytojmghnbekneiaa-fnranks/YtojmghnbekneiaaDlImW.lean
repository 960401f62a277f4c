/-
  The walks of the program's waitingIn, Waiting and Rank. By the verifier.
-/
import Derived.Test.YtojmghnbekneiaaHsFn
import Derived.Test.YtojmghnbekneiaaDlSpecW
import Derived.Test.YtojmghnbekneiaaDlSpecR
namespace Go.Proofs.Ytojmghnbekneiaa
open Go.RowKit

set_option maxHeartbeats 1600000 in
theorem implHost (h : Hs) (a : Option Addr) (c : Nat) (w : World) (hk : h.ok = true) (H : Hid (IntsAt w a h.flows)) :
    Calls Try.prog 34 #[h.val a c] w fun e w' => e = .returned (.int .i64 h.sum) ∧ Below w.heap.size w w' := by
  have h1 := Hs.ok_iff.1 hk
  have Ht : Hid (∀ k, k ≤ h.flows.length → 0 ≤ tot (h.flows.take k) ∧ tot (h.flows.take k) ≤ 8000) := fun k hk => by
    have := tot_in (l := h.flows.take k) fun x hx => h1.2.2 x (List.mem_of_mem_take hx)
    rw [List.length_take] at this
    omega
  have Hs' : Hid (h.sum = tot (h.flows.take h.flows.length)) := by show h.sum = _; rw [List.take_length]; rfl
  have Hx : Hid (∀ k, k < h.flows.length → 0 ≤ flAt h.flows k ∧ flAt h.flows k ≤ 1000) := fun k hk => h1.2.2 _ (flAt_mem hk)
  have hl := h1.1.2
  clear h1 hk
  generalize h.sum = s at Hs' ⊢
  obtain ⟨t, fl⟩ := h
  simp only [Hs.val] at Ht Hs' Hx H hl ⊢
  obtain ⟨len, hlen⟩ : ∃ n, fl.length = n := ⟨_, rfl⟩
  have Hlen : Hid (fl.length = len) := hlen
  rw [hlen] at hl ⊢
  have X : Hid (IntsAt (w.alloc (.cells #[.int .i64 t, .slice a len c] 35)) a fl ∧ Boxed (w.alloc (.cells #[.int .i64 t, .slice a len c] 35)) w.heap.size #[.int .i64 t, .slice a len c] 35 ∧ Below w.heap.size w (w.alloc (.cells #[.int .i64 t, .slice a len c] 35))) := by
    have b0 : Below w.heap.size w (w.alloc (.cells #[.int .i64 t, .slice a len c] 35)) := (Below.refl _ _).alloc (Nat.le_refl _) _
    exact ⟨H.out.below b0, Boxed.new _ _ _, b0⟩
  clear hlen H
  go_enter Try.func34, Try.ntmps34
  go_wp2
  generalize w.alloc (.cells #[.int .i64 t, .slice a len c] 35) = W at X ⊢
  go_loop [3, 9] (fun n j => ∃ (k : Nat) (z : Int), k ≤ len ∧ j = .int .i64 k ∧ n = .int .i64 z ∧ Hid (z = tot (fl.take k))) (fun _ j => len - (intOf j).toNat)
  case atStart => exact ⟨0, 0, Nat.zero_le _, rfl, rfl, by show 0 = tot (fl.take 0); simp [tot]⟩
  case round =>
    obtain ⟨k, z, hk, rfl, rfl, Hz⟩ := hrel
    by_cases hlt : k < len
    · have hkl : k < fl.length := by rw [Hlen.out]; exact hlt
      obtain ⟨b, off, ha, hb, hc⟩ := X.out.1 k hkl
      subst ha
      have e := tot_take fl k hkl
      have b1 := Ht.out k (by omega)
      have b2 := Hx.out k hkl
      have e2 : fl[k]?.getD 0 = flAt fl k := rfl
      rw [e2] at hc e
      rw [← Hz.out] at b1
      generalize flAt fl k = y at hc b2 e
      have He : Hid (tot (fl.take (k + 1)) = z + y) := by show tot _ = z + y; rw [e, Hz.out]
      obtain ⟨z0, z1⟩ := b1
      obtain ⟨y0, y1⟩ := b2
      clear e e2 hkl
      go_wp2
      go_round
      case rel => exact ⟨k + 1, z + y, by omega, by go_num, by go_num, by show z + y = _; rw [He.out]⟩
      case measure => simp [intOf]; omega
    · obtain rfl : k = len := by omega
      have hz : z = s := by rw [Hz.out, Hs'.out, Hlen.out]
      subst hz
      go_wp2
      go_ret
      exact ⟨rfl, X.out.2.2⟩

set_option maxHeartbeats 3200000 in
set_option maxRecDepth 100000 in
theorem implWaiting (d : Dl) (v : Value) (w : World) (hB : d.big ≤ 1048576) (h : Hid (DlAt w v d)) :
    Calls Try.prog 12 #[v] w fun e w' => e = .returned (.int .i64 d.waiting) ∧ Below w.heap.size w w' := by
  have A1 := fun v w h => implDealOk d v w hB h
  obtain ⟨a, c, rfl, k1⟩ := h.out
  clear h
  have Hv : Hid (d.waiting = if d.ok = true then d.waits else -1) := rfl
  have Hw : Hid (d.waits = tot ((d.hosts.take d.hosts.length).map Hs.sum)) := by show d.waits = _; rw [List.take_length]; rfl
  have Hg : Hid (d.ok = true → d.hosts.length ≤ 8 ∧ ∀ k, k < d.hosts.length → (hsAt d.hosts k).ok = true) := fun hk => ⟨(Dl.ok_iff.1 hk).1.2, fun k h => Dl.ok_at hk h⟩
  have Hb : Hid (d.ok = true → ∀ k, k ≤ d.hosts.length → 0 ≤ tot ((d.hosts.take k).map Hs.sum) ∧ tot ((d.hosts.take k).map Hs.sum) ≤ 64000) := fun hk k hkl => by
    have h1 := waits_in (l := d.hosts.take k) fun x hx => (Dl.ok_iff.1 hk).2.2 x (List.mem_of_mem_take hx)
    have h2 := (Dl.ok_iff.1 hk).1.2
    rw [List.length_take] at h1
    omega
  generalize d.waiting = R at Hv ⊢
  generalize d.waits = T at Hv Hw
  have A2 : ∀ a c w, HssAt w a d.hosts → Calls Try.prog 10 #[.agg #[.int .i64 d.turn, .slice a d.hosts.length c]] w fun e w' => e = .returned (.bool d.ok) ∧ Below w.heap.size w w' := fun a c w h => A1 _ w ⟨a, c, rfl, h⟩
  generalize d.ok = ok at A2 Hv Hg Hb
  clear A1 hB
  obtain ⟨f, ls⟩ := d
  simp only [Dl.val] at A2 Hw Hg Hb k1 ⊢
  obtain ⟨len, hlen⟩ : ∃ n, ls.length = n := ⟨_, rfl⟩
  have Hlen : Hid (ls.length = len) := hlen
  rw [hlen] at A2 Hw Hg Hb ⊢
  clear hlen
  have A2' : Hid _ := A2
  clear A2
  have X : Hid (HssAt (w.alloc (.cells #[.int .i64 f, .slice a len c] 26)) a ls ∧ Boxed (w.alloc (.cells #[.int .i64 f, .slice a len c] 26)) w.heap.size #[.int .i64 f, .slice a len c] 26 ∧ Below w.heap.size w (w.alloc (.cells #[.int .i64 f, .slice a len c] 26))) := ⟨k1.alloc _, Boxed.new _ _ _, (Below.refl _ _).alloc (Nat.le_refl _) _⟩
  clear k1
  go_enter Try.func12, Try.ntmps12
  go_wp2_with (refine wpList_load_row rfl 26 (.tmp 1) rfl w.heap.size rfl _ _ _ _ X.out.2.1 Try.underlying26 rfl (by kernel_rfl) ?_)
  refine (A2'.out _ _ _ X.out.1).mono ?_
  rintro e W ⟨rfl, q⟩
  have X1 : Hid (HssAt W a ls ∧ Boxed W w.heap.size #[.int .i64 f, .slice a len c] 26 ∧ Below w.heap.size w W) := ⟨X.out.1.below q, X.out.2.1.below X.out.2.1.under q, X.out.2.2.trans (q.mono X.out.2.2.size)⟩
  clear q X A2'
  cases ok
  · have e1 : R = -1 := by rw [Hv.out]; rfl
    subst e1
    go_wp2
    go_ret
    exact ⟨rfl, X1.out.2.2⟩
  have e1 : R = T := by rw [Hv.out]; rfl
  subst e1
  obtain ⟨hl8, hg⟩ := Hg.out (by first | exact trivial | exact rfl)
  have hb := Hb.out (by first | exact trivial | exact rfl)
  have HG : Hid _ := hg
  have HB : Hid _ := hb
  clear hg hb Hg Hb Hv
  have cb : W.cell? ⟨w.heap.size, 1, none⟩ = some (.slice a len c) := X1.out.2.1.cell 1 rfl
  go_wp2
  clear cb
  go_loopw [3, 5, 12] (fun n _ i wr => ∃ (k : Nat) (z : Int), k ≤ len ∧ i = .int .i64 k ∧ n = .int .i64 z ∧ Hid (z = tot ((ls.take k).map Hs.sum)) ∧ Hid (Below W.heap.size W wr)) (fun _ _ i _ => len - (intOf i).toNat)
  case atStart => exact ⟨0, 0, Nat.zero_le _, rfl, rfl, by show 0 = tot ((ls.take 0).map Hs.sum); simp [tot], Below.refl _ _⟩
  case round =>
    obtain ⟨k, z, hk, rfl, rfl, Hz, HK⟩ := hrel
    obtain ⟨wo, rfl⟩ : ∃ wo, wo = wr := ⟨_, rfl⟩
    by_cases hlt : k < len
    · have hkl : k < ls.length := by rw [Hlen.out]; exact hlt
      obtain ⟨b, off, ak, ck, ha, hb, ⟨c0, c1⟩, hr, -⟩ := (X1.out.1.below HK.out) k hkl
      subst ha
      have ht := waits_take ls k hkl
      have b1 := HB.out k (by omega)
      rw [← Hz.out] at b1
      have A3 := fun w h => implHost (hsAt ls k) ak ck w (HG.out k hlt) h
      have b2 := Hs.sum_in (HG.out k hlt)
      generalize hsAt ls k = q at c0 c1 hr ht A3 b2
      have Ht : Hid (tot ((ls.take (k + 1)).map Hs.sum) = z + q.sum) := by show tot _ = _; rw [ht, Hz.out]
      generalize q.sum = y at A3 b2 Ht
      obtain ⟨t, fl⟩ := q
      simp only [Hs.val] at c0 c1 hr A3
      generalize fl.length = n at c1 A3
      have A3' : Hid _ := A3
      obtain ⟨z0, z1⟩ := b1
      obtain ⟨y0, y1⟩ := b2
      have hlt' : (k : Int) < (len : Int) := by omega
      have N : Hid (Boxed (wo.alloc (.cells #[.int .i64 0, .slice none 0 0] 35)) wo.heap.size #[.int .i64 0, .slice none 0 0] 35) := Boxed.new _ _ _
      obtain ⟨wh, hwh⟩ : ∃ wh, (wo.alloc (.cells #[.int .i64 0, .slice none 0 0] 35)).setRow wo.heap.size #[.int .i64 t, .slice ak n ck] = wh := ⟨_, rfl⟩
      have V : Hid (Boxed wh wo.heap.size #[.int .i64 t, .slice ak n ck] 35 ∧ Below W.heap.size W wh ∧ IntsAt wh ak fl) := by
        have b0 : Below wo.heap.size wo wh := by rw [← hwh]; exact below_setRow ((Below.refl _ _).alloc (Nat.le_refl _) _) (Nat.le_refl _) _
        have b1 := HK.out.trans (b0.mono HK.out.size)
        exact ⟨by rw [← hwh]; exact setRow_heap _ _ _ _ _ _ N.out, b1, hr.below b0⟩
      have HW : Hid _ := hwh
      clear A3 hr ht hkl hwh
      go_upto_region 7 with (refine wpList_store_row rfl 35 (.tmp 5) (.tmp 15) rfl wo.heap.size #[.int .i64 t, .slice ak n ck] rfl rfl _ _ N.out (by kernel_rfl) rfl (by simp [Value.oneCell']) ?_)
      rw [HW.out]
      clear N HW c0 c1
      have d0 : wh.cell? ⟨wo.heap.size, 0, none⟩ = some (.int .i64 t) := V.out.1.cell 0 rfl
      have d1 : wh.cell? ⟨wo.heap.size, 1, none⟩ = some (.slice ak n ck) := V.out.1.cell 1 rfl
      go_wp2_with fail
      refine (A3'.out _ V.out.2.2).mono ?_
      rintro e w2 ⟨rfl, q⟩
      have K2 : Hid (Below W.heap.size W w2) := V.out.2.1.trans (q.mono V.out.2.1.size)
      clear q d0 d1 V HK
      go_wp2
      go_roundw
      case rel => exact ⟨k + 1, z + y, by omega, by go_num, by go_num, by show z + y = _; rw [Ht.out], K2⟩
      case measure => simp [intOf]; omega
    · obtain rfl : k = len := by omega
      have hz : z = R := by rw [Hz.out, Hw.out]
      subst hz
      go_wp2
      go_ret
      exact ⟨rfl, X1.out.2.2.trans (HK.out.mono X1.out.2.2.size)⟩

set_option maxHeartbeats 3200000 in
set_option maxRecDepth 100000 in
theorem implRank (d : Dl) (v : Value) (host : Int) (w : World) (hB : d.big ≤ 1048576) (h : Hid (DlAt w v d)) :
    Calls Try.prog 14 #[v, .int .i64 host] w fun e w' => e = .returned (.int .i64 (d.rank host)) ∧ Below w.heap.size w w' := by
  have A1 := fun v w h => implDealOk d v w hB h
  have hT := (Dl.small hB).1
  have AP := fun (w : World) => implPlace d.hosts.length host w hT
  obtain ⟨a, c, rfl, k1⟩ := h.out
  clear h
  have Hv : Hid (d.rank host = if d.isRanked host = true then ((cnt (fun i => (hsAt d.hosts i).some) d.turn.toNat d.hosts.length (d.gap host.toNat) : Nat) : Int) else -1) := rfl
  have Hi : Hid (d.isRanked host = (d.ok && (inB 0 ((d.hosts.length : Int) - 1) host && (hsAt d.hosts host.toNat).some))) := rfl
  have Hg : Hid (d.ok = true → d.hosts.length ≤ 8 ∧ (0 ≤ d.turn ∧ d.turn < (d.hosts.length : Int)) ∧ ∀ k, k < d.hosts.length → (hsAt d.hosts k).ok = true) := fun hk => ⟨(Dl.ok_iff.1 hk).1.2, (Dl.ok_iff.1 hk).2.1, fun k h => Dl.ok_at hk h⟩
  have Hgap : Hid (d.ok = true → ∀ h, h < d.hosts.length → d.gap h < d.hosts.length ∧ ∀ k, k ≤ d.gap h → ((d.turn.toNat + k) % d.hosts.length = h ↔ k = d.gap h)) := fun hk h hh => Dl.gap_is hk hh
  generalize d.rank host = R at Hv ⊢
  have A2 : ∀ a c w, HssAt w a d.hosts → Calls Try.prog 10 #[.agg #[.int .i64 d.turn, .slice a d.hosts.length c]] w fun e w' => e = .returned (.bool d.ok) ∧ Below w.heap.size w w' := fun a c w h => A1 _ w ⟨a, c, rfl, h⟩
  generalize d.isRanked host = rk at Hi Hv
  generalize d.gap = gp at Hv Hgap
  generalize d.ok = ok at A2 Hi Hg Hgap
  clear A1 hB
  obtain ⟨f, ls⟩ := d
  simp only [Dl.val] at A2 AP Hg Hgap Hv Hi k1 hT ⊢
  obtain ⟨len, hlen⟩ : ∃ n, ls.length = n := ⟨_, rfl⟩
  have Hlen : Hid (ls.length = len) := hlen
  rw [hlen] at A2 AP Hg Hgap Hv Hi hT ⊢
  clear hlen
  have A2' : Hid _ := A2
  have Hp : Hid (inB 0 ((len : Int) - 1) host = true ↔ 0 ≤ host ∧ host ≤ (len : Int) - 1) := inB_true
  generalize inB 0 ((len : Int) - 1) host = pl at AP Hi Hp
  have AP' : Hid _ := AP
  clear A2 AP
  have X : Hid (HssAt (w.alloc (.cells #[.int .i64 f, .slice a len c] 26)) a ls ∧ Boxed (w.alloc (.cells #[.int .i64 f, .slice a len c] 26)) w.heap.size #[.int .i64 f, .slice a len c] 26 ∧ Below w.heap.size w (w.alloc (.cells #[.int .i64 f, .slice a len c] 26))) := ⟨k1.alloc _, Boxed.new _ _ _, (Below.refl _ _).alloc (Nat.le_refl _) _⟩
  clear k1
  go_enter Try.func14, Try.ntmps14
  go_wp2_with (refine wpList_load_row rfl 26 (.tmp 2) rfl w.heap.size rfl _ _ _ _ X.out.2.1 Try.underlying26 rfl (by kernel_rfl) ?_)
  refine (A2'.out _ _ _ X.out.1).mono ?_
  rintro e W0 ⟨rfl, q⟩
  have X0 : Hid (HssAt W0 a ls ∧ Boxed W0 w.heap.size #[.int .i64 f, .slice a len c] 26 ∧ Below w.heap.size w W0) := ⟨X.out.1.below q, X.out.2.1.below X.out.2.1.under q, X.out.2.2.trans (q.mono X.out.2.2.size)⟩
  clear q X A2'
  have no : Hid (rk = false → R = -1) := fun e => by rw [Hv.out, e]; rfl
  cases ok
  · have e1 : R = -1 := no.out (by rw [Hi.out]; rfl)
    subst e1
    go_wp2
    go_ret
    exact ⟨rfl, X0.out.2.2⟩
  have ca : W0.cell? ⟨w.heap.size, 1, none⟩ = some (.slice a len c) := X0.out.2.1.cell 1 rfl
  have X1 : Hid (HssAt (W0.alloc (.cells #[.int .i64 host] 2)) a ls ∧ Boxed (W0.alloc (.cells #[.int .i64 host] 2)) w.heap.size #[.int .i64 f, .slice a len c] 26 ∧ Below w.heap.size w (W0.alloc (.cells #[.int .i64 host] 2))) := ⟨X0.out.1.alloc _, X0.out.2.1.more _, X0.out.2.2.alloc X0.out.2.2.size _⟩
  cases pl
  · have e1 : R = -1 := no.out (by rw [Hi.out]; rfl)
    subst e1
    go_wp2_with fail
    refine (AP'.out _).mono ?_
    rintro e w' ⟨rfl, rfl⟩
    go_wp2
    go_ret
    exact ⟨rfl, X1.out.2.2⟩
  obtain ⟨g1, g2⟩ := Hp.out.1 (by first | exact trivial | exact rfl)
  go_wp2_with fail
  refine (AP'.out _).mono ?_
  rintro e W ⟨rfl, hW⟩
  rw [← hW] at X1
  clear hW AP' X0 ca Hp
  obtain ⟨H, hH⟩ : ∃ H : Nat, host = H := ⟨host.toNat, by omega⟩
  subst hH
  obtain ⟨hl8, hf, hg⟩ := Hg.out (by first | exact trivial | exact rfl)
  have HG : Hid _ := hg
  have hHl : H < len := by omega
  obtain ⟨hgl, hgap⟩ := Hgap.out (by first | exact trivial | exact rfl) H hHl
  rw [Int.toNat_natCast] at Hi Hv
  clear hg Hg Hgap
  have cb : W.cell? ⟨w.heap.size, 1, none⟩ = some (.slice a len c) := X1.out.2.1.cell 1 rfl
  obtain ⟨b, off, ak, ck, ha, hb, ⟨c0, c1⟩, hr, -⟩ := X1.out.1 H (by rw [Hlen.out]; exact hHl)
  subst ha
  have A3 := fun w h => implHost (hsAt ls H) ak ck w (HG.out H hHl) h
  have Hi2 : Hid (rk = decide ((hsAt ls H).sum ≠ 0)) := by
    show rk = _
    rw [Hi.out]
    rfl
  generalize (hsAt ls H).sum = y at A3 Hi2
  generalize hsAt ls H = q at c0 c1 hr A3
  obtain ⟨t, fl⟩ := q
  simp only [Hs.val] at c0 c1 hr A3
  generalize fl.length = n at c1 A3
  have A3' : Hid _ := A3
  have Hr : Hid (IntsAt W ak fl) := hr
  clear A3 hr Hi
  have g2' : (H : Int) < (len : Int) := by omega
  go_wp2_with fail
  refine (A3'.out _ Hr.out).mono ?_
  rintro e w2 ⟨rfl, q⟩
  have X2 : Hid (HssAt w2 (some ⟨b, off, none⟩) ls ∧ Boxed w2 w.heap.size #[.int .i64 f, .slice (some ⟨b, off, none⟩) len c] 26 ∧ Below w.heap.size w w2) := ⟨X1.out.1.below q, X1.out.2.1.below X1.out.2.1.under q, X1.out.2.2.trans (q.mono X1.out.2.2.size)⟩
  clear q c0 c1 cb A3' Hr X1
  by_cases g3 : y = 0
  · have e1 : R = -1 := no.out (by rw [Hi2.out, g3]; rfl)
    subst e1
    subst g3
    go_wp2
    go_ret
    exact ⟨rfl, X2.out.2.2⟩
  have e1 : R = ((cnt (fun i => (hsAt ls i).some) f.toNat len (gp H) : Nat) : Int) := by
    rw [Hv.out, if_pos (by rw [Hi2.out]; exact decide_eq_true g3)]
  obtain ⟨F, hF⟩ : ∃ F : Nat, f = F := ⟨f.toNat, by omega⟩
  subst hF
  rw [Int.toNat_natCast] at e1 hgap
  have hFl : F < len := by omega
  have He : Hid _ := e1
  have Hgap : Hid _ := hgap
  clear Hv Hi2 no e1 hgap
  have cb0 : w2.cell? ⟨w.heap.size, 0, none⟩ = some (.int .i64 F) := X2.out.2.1.cell 0 rfl
  have d3 : (y == 0) = false := by simpa using g3
  go_wp2
  clear g1 g2 g2' g3 d3 cb0
  have hWs : Hid (w.heap.size < w2.heap.size) := X2.out.2.1.under
  have Hm : Hid (∀ k, k < len → ((F + k) % len + len - F) % len = k) := fun k hk => back_step hFl hk
  have AB := fun (i : Nat) (w : World) (hi : i < len) => implBehind i len w hi hT
  have AB' : Hid _ := AB
  clear AB hT
  generalize gp H = G at hgl Hgap He
  go_loopw [5, 6] (fun r i wr => ∃ (k I C : Nat), k ≤ G ∧ i = .int .i64 I ∧ r = .int .i64 C ∧ Hid (I = (F + k) % len) ∧ Hid (C = cnt (fun i => (hsAt ls i).some) F len k) ∧ Hid (Below w2.heap.size w2 wr)) (fun _ i _ => G - ((intOf i).toNat + len - F) % len)
  case atStart => exact ⟨0, F, 0, Nat.zero_le _, rfl, rfl, by show F = _; rw [Nat.add_zero, Nat.mod_eq_of_lt hFl], rfl, Below.refl _ _⟩
  case round =>
    obtain ⟨k, I, C, hk, rfl, rfl, HI, HC, HK⟩ := hrel
    have hI : I < len := by rw [HI.out]; exact Nat.mod_lt _ (by omega)
    by_cases hlt : k = G
    · have e : I = H := by rw [HI.out]; exact (Hgap.out k hk).2 hlt
      subst e
      have e2 : R = (C : Int) := by rw [He.out, HC.out, hlt]
      subst e2
      go_wp2
      go_ret
      exact ⟨rfl, X2.out.2.2.trans (HK.out.mono X2.out.2.2.size)⟩
    · have hne : ¬ (I : Int) = (H : Int) := fun e => hlt ((Hgap.out k hk).1 (by rw [← HI.out]; omega))
      have cb : wr.cell? ⟨w.heap.size, 1, none⟩ = some (.slice (some ⟨b, off, none⟩) len c) := (X2.out.2.1.below hWs.out HK.out).cell 1 rfl
      obtain ⟨b9, off9, ak9, ck9, ha9, hb9, ⟨c0, c1⟩, hr, -⟩ := (X2.out.1.below HK.out) I (by rw [Hlen.out]; exact hI)
      cases ha9
      have A3 := fun w h => implHost (hsAt ls I) ak9 ck9 w (HG.out I hI) h
      have b2 := Hs.sum_in (HG.out I hI)
      have hc := cnt_le (fun i => (hsAt ls i).some) F len k
      rw [← HC.out] at hc
      have HC2 : Hid (cnt (fun i => (hsAt ls i).some) F len (k + 1) = C + if (hsAt ls I).sum ≠ 0 then 1 else 0) := by
        show cnt _ F len (k + 1) = _
        unfold cnt
        rw [← HC.out, ← HI.out]
        by_cases hz : (hsAt ls I).sum = 0
        · simp [Hs.some, hz]
        · simp [Hs.some, hz]
      generalize (hsAt ls I).sum = y9 at A3 b2 HC2
      generalize hsAt ls I = q at c0 c1 hr A3
      obtain ⟨t9, fl9⟩ := q
      simp only [Hs.val] at c0 c1 hr A3
      generalize fl9.length = n9 at c1 A3
      have A3' : Hid _ := A3
      have Hr : Hid (IntsAt wr ak9 fl9) := hr
      clear A3 hr
      obtain ⟨y0, y1⟩ := b2
      have hI' : (I : Int) < (len : Int) := by omega
      go_wp2_with fail
      refine (A3'.out _ Hr.out).mono ?_
      rintro e w3 ⟨rfl, q⟩
      have K2 : Hid (Below w2.heap.size w2 w3) := HK.out.trans (q.mono HK.out.size)
      clear q c0 c1 cb Hr A3'
      have cb : w3.cell? ⟨w.heap.size, 1, none⟩ = some (.slice (some ⟨b, off, none⟩) len c) := (X2.out.2.1.below hWs.out K2.out).cell 1 rfl
      have HJ : Hid ((I + 1) % len = (F + (k + 1)) % len) := by show (I + 1) % len = _; rw [HI.out]; exact next_step
      have HM : Hid (G - ((I + 1) % len + len - F) % len < G - (I + len - F) % len) := by
        show G - _ < G - _
        rw [HJ.out, Hm.out (k + 1) (by omega), HI.out, Hm.out k (by omega)]
        omega
      have B9 := fun w => AB'.out I w hI
      generalize (I + 1) % len = J at HJ HM B9
      have B9' : Hid _ := B9
      clear B9
      by_cases hz : 0 < y9
      · have HC3 : Hid (C + 1 = cnt (fun i => (hsAt ls i).some) F len (k + 1)) := by show C + 1 = _; rw [HC2.out, if_pos (by omega)]
        go_wp2_with fail
        refine (B9'.out _).mono ?_
        rintro e w4 ⟨rfl, hw4⟩
        obtain rfl := hw4.symm
        go_wp2
        go_roundw
        case rel => exact ⟨k + 1, J, C + 1, by omega, by first | rfl | go_num, by go_num, HJ, HC3, K2⟩
        case measure => simpa [intOf] using HM.out
      · have HC3 : Hid (C = cnt (fun i => (hsAt ls i).some) F len (k + 1)) := by show C = _; rw [HC2.out, if_neg (by omega)]; rfl
        go_wp2_with fail
        refine (B9'.out _).mono ?_
        rintro e w4 ⟨rfl, hw4⟩
        obtain rfl := hw4.symm
        go_wp2
        go_roundw
        case rel => exact ⟨k + 1, J, C, by omega, by first | rfl | go_num, rfl, HJ, HC3, K2⟩
        case measure => simpa [intOf] using HM.out
end Go.Proofs.Ytojmghnbekneiaa
