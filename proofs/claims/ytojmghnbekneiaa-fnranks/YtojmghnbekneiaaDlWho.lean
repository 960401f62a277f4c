/-
  The walk of the program's whoseTurn: two loops that a label leaves. By the verifier.
-/
import Derived.Test.YtojmghnbekneiaaHsFn
import Derived.Test.YtojmghnbekneiaaDlSpecR
import Derived.Test.YtojmghnbekneiaaStepRow
import Derived.Deep.LoopGhost
import Derived.WalkMore
namespace Go.Proofs.Ytojmghnbekneiaa
open Go.RowKit

/-- Of a right host with any: how far the first one is. -/
theorem Hs.first {h : Hs} (hok : h.ok = true) (hs : h.some = true) : h.far < h.flows.length ∧ (∀ q, q < h.far → flAt h.flows ((h.turn.toNat + q) % h.flows.length) = 0) ∧ 0 < flAt h.flows ((h.turn.toNat + h.far) % h.flows.length) := by
  have h1 := Hs.far_lt hok hs
  refine ⟨h1, fun q hq => by simpa using seek_not hq, ?_⟩
  have h2 : flAt h.flows ((h.turn.toNat + h.far) % h.flows.length) ≠ 0 := of_decide_eq_true (seek_is (p := fun j => decide (flAt h.flows j ≠ 0)) (s := h.turn.toNat) (n := h.flows.length) h1)
  have h3 := (Hs.ok_iff.1 hok).2.2 _ (flAt_mem (l := h.flows) (j := (h.turn.toNat + h.far) % h.flows.length) (Nat.mod_lt _ (by omega)))
  omega
/-- Of one without any: none. -/
theorem Hs.none_of {h : Hs} (hok : h.ok = true) (hs : h.some = false) : ∀ q, q < h.flows.length → flAt h.flows q = 0 := by
  intro q hq
  have h1 : h.sum = 0 := by simpa [Hs.some] using hs
  exact (tot_zero fun x hx => ((Hs.ok_iff.1 hok).2.2 x hx).1).1 h1 _ (flAt_mem hq)

set_option maxHeartbeats 6400000 in
set_option maxRecDepth 100000 in
theorem implWhose (d : Dl) (a : Option Addr) (c : Nat) (w : World) (hok : d.ok = true) (hhas : d.has = true) (h : Hid (HssAt w a d.hosts)) :
    Calls Try.prog 23 #[d.val a c] w fun e w' => e = .returned (.tuple #[.int .i64 (d.at' : Nat), .int .i64 ((hsAt d.hosts d.at').at' : Nat)]) ∧ Below w.heap.size w w' := by
  have k1 := Dl.ok_iff.1 hok
  have HG : Hid (∀ k, k < d.hosts.length → (hsAt d.hosts k).ok = true) := fun k hk => Dl.ok_at hok hk
  have hfar : d.far < d.hosts.length := of_decide_eq_true hhas
  have HF1 : Hid (∀ k, k < d.far → (hsAt d.hosts ((d.turn.toNat + k) % d.hosts.length)).some = false) := fun k hk => seek_not (p := fun i => (hsAt d.hosts i).some) hk
  have HF2 : Hid ((hsAt d.hosts ((d.turn.toNat + d.far) % d.hosts.length)).some = true) := seek_is (p := fun i => (hsAt d.hosts i).some) hfar
  have HA : Hid (d.at' = (d.turn.toNat + d.far) % d.hosts.length) := rfl
  generalize d.at' = at0 at HA ⊢
  generalize d.far = FR at hfar HF1 HF2 HA
  clear hok hhas
  obtain ⟨⟨hl1, hl8⟩, hf, -⟩ := k1
  obtain ⟨f, ls⟩ := d
  simp only [Dl.val] at *
  obtain ⟨n, hn⟩ : ∃ n, ls.length = n := ⟨_, rfl⟩
  have Hn : Hid (ls.length = n) := hn
  rw [hn] at hl1 hl8 hf HG hfar HF1 HF2 HA ⊢
  obtain ⟨tf, htf⟩ : ∃ tf, (hsAt ls at0).at' = tf := ⟨_, rfl⟩
  have Htf : Hid ((hsAt ls at0).at' = tf) := htf
  rw [htf]
  clear htf
  obtain ⟨F, hF⟩ : ∃ F : Nat, f = F := ⟨f.toNat, by omega⟩
  subst hF
  rw [Int.toNat_natCast] at HF1 HF2 HA
  have hFl : F < n := by omega
  clear hn hf
  have X : Hid (HssAt (w.alloc (.cells #[.int .i64 (F : Int), .slice a n c] 26)) a ls ∧ Boxed (w.alloc (.cells #[.int .i64 (F : Int), .slice a n c] 26)) w.heap.size #[.int .i64 (F : Int), .slice a n c] 26 ∧ Below w.heap.size w (w.alloc (.cells #[.int .i64 (F : Int), .slice a n c] 26))) := ⟨h.out.alloc _, Boxed.new _ _ _, (Below.refl _ _).alloc (Nat.le_refl _) _⟩
  clear h
  have AB := fun (i m : Nat) (w : World) (hi : i < m) (hm : m ≤ 8) => implBehind i m w hi (by omega)
  have AB' : Hid _ := AB
  clear AB
  go_enter Try.func23, Try.ntmps23
  go_wp2
  try go_step3
  go_wp2
  try go_step3
  go_wp2
  generalize w.alloc (.cells #[.int .i64 (F : Int), .slice a n c] 26) = W at X ⊢
  have hWs : Hid (w.heap.size < W.heap.size) := X.out.2.1.under
  go_loopw [4, 5, 6, 12] (fun hv fv _ i wr => ∃ (k I : Nat) (z : Int), k ≤ FR ∧ i = .int .i64 k ∧ hv = .int .i64 I ∧ fv = .int .i64 z ∧ Hid (I = (F + k) % n) ∧ Hid (Below W.heap.size W wr)) (fun _ _ _ i _ => n - (intOf i).toNat)
  case atStart => exact ⟨0, F, 0, Nat.zero_le _, rfl, rfl, rfl, by show F = _; rw [Nat.add_zero, Nat.mod_eq_of_lt hFl], Below.refl _ _⟩
  case round =>
    obtain ⟨k, I, z, hk, rfl, rfl, rfl, HI, HK⟩ := hrel
    obtain ⟨wo, rfl⟩ : ∃ wo, wo = wr := ⟨_, rfl⟩
    have hI : I < n := by rw [HI.out]; exact Nat.mod_lt _ (by omega)
    have hI' : (I : Int) < (n : Int) := by omega
    have hlt' : (k : Int) < (n : Int) := by omega
    have cb : wo.cell? ⟨w.heap.size, 1, none⟩ = some (.slice a n c) := (X.out.2.1.below hWs.out HK.out).cell 1 rfl
    obtain ⟨b, off, ak, ck, ha, hb, ⟨c0, c1⟩, hr, -⟩ := (X.out.1.below HK.out) I (by rw [Hn.out]; exact hI)
    subst ha
    have hok := HG.out I hI
    have h1 := Hs.ok_iff.1 hok
    have Q1 : Hid ((hsAt ls I).some = true → _) := fun hs => Hs.first hok hs
    have Q2 : Hid ((hsAt ls I).some = false → _) := fun hs => Hs.none_of hok hs
    have Hat : Hid ((hsAt ls I).at' = ((hsAt ls I).turn.toNat + (hsAt ls I).far) % (hsAt ls I).flows.length) := rfl
    have Hsm : Hid ((k < FR → (hsAt ls I).some = false) ∧ (k = FR → (hsAt ls I).some = true ∧ (at0 : Nat) = I)) := ⟨fun h => by rw [HI.out]; exact HF1.out k h, fun h => by rw [HI.out, h]; exact ⟨HF2.out, HA.out⟩⟩
    have HE : Hid (at0 = I → tf = (hsAt ls I).at') := fun e => by rw [← Htf.out, e]
    generalize (hsAt ls I).at' = tg at HE Hat
    generalize (hsAt ls I).far = qf at Q1 Hat
    generalize (hsAt ls I).some = sm at Q1 Q2 Hsm
    generalize hsAt ls I = q at c0 c1 hr h1 Q1 Q2 Hat
    clear hok
    obtain ⟨t, fl⟩ := q
    simp only at c0 c1 hr h1 Q1 Q2 Hat
    obtain ⟨⟨m1, m8⟩, ht, -⟩ := h1
    obtain ⟨m, hm⟩ : ∃ m, fl.length = m := ⟨_, rfl⟩
    have Hm : Hid (fl.length = m) := hm
    rw [hm] at c1 m1 m8 ht Q1 Q2 Hat
    obtain ⟨tn, htn⟩ : ∃ T : Nat, t = T := ⟨t.toNat, by omega⟩
    subst htn
    rw [Int.toNat_natCast] at Q1 Hat
    have htl : tn < m := by omega
    clear hm ht
    have N : Hid (Boxed (wo.alloc (.cells #[.int .i64 0, .slice none 0 0] 35)) wo.heap.size #[.int .i64 0, .slice none 0 0] 35) := Boxed.new _ _ _
    obtain ⟨wh, hwh⟩ : ∃ wh, (wo.alloc (.cells #[.int .i64 0, .slice none 0 0] 35)).setRow wo.heap.size #[.int .i64 (tn : Int), .slice ak m ck] = wh := ⟨_, rfl⟩
    have b0 : Below wo.heap.size wo wh := by rw [← hwh]; exact below_setRow ((Below.refl _ _).alloc (Nat.le_refl _) _) (Nat.le_refl _) _
    have V : Hid (Boxed wh wo.heap.size #[.int .i64 (tn : Int), .slice ak m ck] 35 ∧ Below W.heap.size W wh ∧ IntsAt wh ak fl) := ⟨by rw [← hwh]; exact setRow_heap _ _ _ _ _ _ N.out, HK.out.trans (b0.mono HK.out.size), hr.below b0⟩
    have HW : Hid _ := hwh
    clear hr hwh b0
    go_upto_region 5 with (refine wpList_store_row rfl 35 (.tmp 6) (.tmp 18) rfl wo.heap.size #[.int .i64 (tn : Int), .slice ak m ck] rfl rfl _ _ N.out (by kernel_rfl) rfl (by simp [Value.oneCell']) ?_)
    rw [HW.out]
    clear N HW c0 c1 cb
    have d0 : wh.cell? ⟨wo.heap.size, 0, none⟩ = some (.int .i64 (tn : Int)) := V.out.1.cell 0 rfl
    have d1 : wh.cell? ⟨wo.heap.size, 1, none⟩ = some (.slice ak m ck) := V.out.1.cell 1 rfl
    generalize wo.heap.size = B at V d0 d1 ⊢
    by_cases hkF : k = FR
    · obtain ⟨e1, e2⟩ := Hsm.out.2 hkF
      obtain ⟨g1, g2, g3⟩ := Q1.out e1
      have G2 : Hid (∀ q, q < qf → flAt fl ((tn + q) % m) = 0) := g2
      have G3 : Hid (0 < flAt fl ((tn + qf) % m)) := g3
      have e3 := HE.out e2
      have HT : Hid (at0 = I ∧ tf = (tn + qf) % m) := ⟨e2, by rw [e3]; exact Hat.out⟩
      clear Hsm Q1 Q2 HE Hat g2 g3 e1 e2 e3
      go_wp2
      go_loop [5, 24] (fun fv jv => ∃ (qq J : Nat), qq ≤ qf ∧ jv = .int .i64 qq ∧ fv = .int .i64 J ∧ Hid (J = (tn + qq) % m)) (fun _ jv => m - (intOf jv).toNat)
      case atStart => exact ⟨0, tn, Nat.zero_le _, rfl, rfl, by show tn = _; rw [Nat.add_zero, Nat.mod_eq_of_lt htl]⟩
      case round =>
        obtain ⟨qq, J, hq, rfl, rfl, HJ⟩ := hrel
        have hJ : J < m := by rw [HJ.out]; exact Nat.mod_lt _ (by omega)
        have hJ' : (J : Int) < (m : Int) := by omega
        have hlm : (qq : Int) < (m : Int) := by omega
        obtain ⟨b5, o5, ha5, hb5, c5⟩ := V.out.2.2 J (by rw [Hm.out]; exact hJ)
        subst ha5
        have e5 : fl[J]?.getD 0 = flAt fl J := rfl
        rw [e5] at c5
        by_cases hqf : qq = qf
        · have hz : 0 < flAt fl J := by rw [HJ.out, hqf]; exact G3.out
          have HT2 : Hid (at0 = I ∧ tf = J) := ⟨HT.out.1, by rw [HT.out.2, HJ.out, hqf]⟩
          generalize flAt fl J = y at c5 hz
          clear e5
          go_wp2
          try rw [Exit.noGoto_ret]
          go_ret2
          exact ⟨by rw [HT2.out.1, HT2.out.2]; rfl, X.out.2.2.trans (V.out.2.1.mono X.out.2.2.size)⟩
        · have hz : flAt fl J = 0 := by rw [HJ.out]; exact G2.out qq (by omega)
          rw [hz] at c5
          have HJ2 : Hid ((J + 1) % m = (tn + (qq + 1)) % m) := by show (J + 1) % m = _; rw [HJ.out]; exact next_step
          have B9 := fun w => AB'.out J m w hJ m8
          generalize (J + 1) % m = J2 at HJ2 B9
          have B9' : Hid _ := B9
          clear B9 e5 hz
          go_wp2_with fail
          refine (B9'.out _).mono ?_
          rintro e w4 ⟨rfl, hw4⟩
          obtain rfl := hw4.symm
          go_wp2
          go_round
          case rel => exact ⟨qq + 1, J2, by omega, by go_num, rfl, HJ2⟩
          case measure => simp [intOf]; omega
    · have G2 : Hid (∀ q, q < m → flAt fl q = 0) := Q2.out (Hsm.out.1 (by omega))
      clear Hsm Q1 Q2 HE Hat
      go_wp2
      go_loop [5, 24] (fun fv jv => ∃ (qq J : Nat), qq ≤ m ∧ jv = .int .i64 qq ∧ fv = .int .i64 J ∧ J < m) (fun _ jv => m - (intOf jv).toNat)
      case atStart => exact ⟨0, tn, Nat.zero_le _, rfl, rfl, htl⟩
      case round =>
        obtain ⟨qq, J, hq, rfl, rfl, hJ⟩ := hrel
        have hJ' : (J : Int) < (m : Int) := by omega
        by_cases hqm : qq < m
        · have hlm : (qq : Int) < (m : Int) := by omega
          obtain ⟨b5, o5, ha5, hb5, c5⟩ := V.out.2.2 J (by rw [Hm.out]; exact hJ)
          subst ha5
          have e5 : fl[J]?.getD 0 = flAt fl J := rfl
          rw [e5, G2.out J hJ] at c5
          have hJ2 : (J + 1) % m < m := Nat.mod_lt _ (by omega)
          have B9 := fun w => AB'.out J m w hJ m8
          generalize (J + 1) % m = J2 at hJ2 B9
          have B9' : Hid _ := B9
          clear B9 e5
          go_wp2_with fail
          refine (B9'.out _).mono ?_
          rintro e w4 ⟨rfl, hw4⟩
          obtain rfl := hw4.symm
          go_wp2
          go_round
          case rel => exact ⟨qq + 1, J2, by omega, by go_num, rfl, hJ2⟩
          case measure => simp [intOf]; omega
        · obtain rfl : m = qq := by omega
          have HJ2 : Hid ((I + 1) % n = (F + (k + 1)) % n) := by show (I + 1) % n = _; rw [HI.out]; exact next_step
          have B9 := fun w => AB'.out I n w hI hl8
          generalize (I + 1) % n = I2 at HJ2 B9
          have B9' : Hid _ := B9
          have cb : wh.cell? ⟨w.heap.size, 1, none⟩ = some (.slice (some ⟨b, off, none⟩) n c) := (X.out.2.1.below hWs.out V.out.2.1).cell 1 rfl
          have K2 : Hid (Below W.heap.size W wh) := V.out.2.1
          clear B9
          go_wp2_with fail
          refine (B9'.out _).mono ?_
          rintro e w4 ⟨rfl, hw4⟩
          obtain rfl := hw4.symm
          go_wp2
          go_roundw
          case rel => exact ⟨k + 1, I2, J, by omega, by go_num, rfl, rfl, HJ2, K2⟩
          case measure => simp [intOf]; omega
end Go.Proofs.Ytojmghnbekneiaa
