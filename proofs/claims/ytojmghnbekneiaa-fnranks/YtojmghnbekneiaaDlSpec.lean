/-
  The walks of the model's deals that only read: sums, which are right, how many wait. By the verifier.
-/
import Derived.Test.YtojmghnbekneiaaDlFn
import Derived.Test.YtojmghnbekneiaaM1LikeInt
import Derived.Test.YtojmghnbekneiaaM2OneN
import Derived.Test.YtojmghnbekneiaaStepRow
import Derived.BigQuiet
import Derived.Laws.ResultCell
import Derived.Laws.CopyOwn
import Derived.WalkKit
import Derived.WalkSpells
import Derived.WalkLawsBesides
import Derived.RegionTactic
namespace Go.Proofs.Ytojmghnbekneiaa
open Go.RowKit

set_option maxHeartbeats 1600000 in
theorem specHost (h : Hs) (a : Option Addr) (c : Nat) (w : World) (hk : h.ok = true) (H : Hid (IntsAt w a h.flows)) :
    Calls Try.prog 26 #[h.val a c] w fun e w' => e = .returned (.int .i64 h.sum) ∧ Below w.heap.size w w' := by
  have h1 := Hs.ok_iff.1 hk
  have Ht : Hid (∀ k, k ≤ h.flows.length → 0 ≤ tot (h.flows.take k) ∧ tot (h.flows.take k) ≤ 8000) := fun k hk => by
    have := tot_in (l := h.flows.take k) fun x hx => h1.2.2 x (List.mem_of_mem_take hx)
    rw [List.length_take] at this
    omega
  have Hs' : Hid (h.sum = tot (h.flows.take h.flows.length)) := by show h.sum = _; rw [List.take_length]; rfl
  have Hx : Hid (∀ k, k < h.flows.length → 0 ≤ flAt h.flows k ∧ flAt h.flows k ≤ 1000) := fun k hk => h1.2.2 _ (flAt_mem hk)
  have hl := h1.1.2
  clear h1 hk
  generalize h.sum = s at Hs' ⊢
  obtain ⟨t, fl⟩ := h
  simp only [Hs.val] at Ht Hs' Hx H hl ⊢
  obtain ⟨len, hlen⟩ : ∃ n, fl.length = n := ⟨_, rfl⟩
  have Hlen : Hid (fl.length = len) := hlen
  rw [hlen] at hl ⊢
  have X : Hid (IntsAt (w.alloc (.cells #[.int .i64 t, .slice a len c] 35)) a fl ∧ Boxed (w.alloc (.cells #[.int .i64 t, .slice a len c] 35)) w.heap.size #[.int .i64 t, .slice a len c] 35 ∧ Below w.heap.size w (w.alloc (.cells #[.int .i64 t, .slice a len c] 35))) := by
    have b0 : Below w.heap.size w (w.alloc (.cells #[.int .i64 t, .slice a len c] 35)) := (Below.refl _ _).alloc (Nat.le_refl _) _
    exact ⟨H.out.below b0, Boxed.new _ _ _, b0⟩
  clear hlen H
  go_enter Try.func26, Try.ntmps26
  go_wp2
  generalize w.alloc (.cells #[.int .i64 t, .slice a len c] 35) = W at X ⊢
  have cb : W.cell? ⟨w.heap.size, 1, none⟩ = some (.slice a len c) := X.out.2.1.cell 1 rfl
  go_loop [3, 4] (fun n j => ∃ (k : Nat) (z : Int), k ≤ len ∧ j = .int .i64 k ∧ n = .int .i64 z ∧ Hid (z = tot (fl.take k))) (fun _ j => len - (intOf j).toNat)
  case atStart => exact ⟨0, 0, Nat.zero_le _, rfl, rfl, by show 0 = tot (fl.take 0); simp [tot]⟩
  case round =>
    obtain ⟨k, z, hk, rfl, rfl, Hz⟩ := hrel
    by_cases hlt : k < len
    · have hkl : k < fl.length := by rw [Hlen.out]; exact hlt
      obtain ⟨b, off, ha, hb, hc⟩ := X.out.1 k hkl
      subst ha
      have e := tot_take fl k hkl
      have b1 := Ht.out k (by omega)
      have b2 := Hx.out k hkl
      have e2 : fl[k]?.getD 0 = flAt fl k := rfl
      rw [e2] at hc e
      rw [← Hz.out] at b1
      generalize flAt fl k = y at hc b2 e
      have He : Hid (tot (fl.take (k + 1)) = z + y) := by show tot _ = z + y; rw [e, Hz.out]
      obtain ⟨z0, z1⟩ := b1
      obtain ⟨y0, y1⟩ := b2
      clear e e2 hkl
      go_wp2
      go_round
      case rel => exact ⟨k + 1, z + y, by omega, by go_num, by go_num, by show z + y = _; rw [He.out]⟩
      case measure => simp [intOf]; omega
    · obtain rfl : k = len := by omega
      have hz : z = s := by rw [Hz.out, Hs'.out, Hlen.out]
      subst hz
      go_wp2
      go_ret
      exact ⟨rfl, X.out.2.2⟩

set_option maxHeartbeats 6400000 in
set_option maxRecDepth 100000 in
theorem specDealOk (d : Dl) (v : Value) (w : World) (hB : d.big ≤ 1048576) (h : Hid (DlAt w v d)) :
    Calls Try.prog 11 #[v] w fun e w' => e = .returned (.bool d.ok) ∧ Below w.heap.size w w' := by
  obtain ⟨a, c, rfl, k1⟩ := h.out
  clear h
  obtain ⟨hT, -, hin⟩ := Dl.small hB
  have HR : Hid (d.ok = (inB 1 8 (d.hosts.length : Int) && (inB 0 ((d.hosts.length : Int) - 1) d.turn && d.hosts.all Hs.ok))) := rfl
  generalize d.ok = R at HR ⊢
  obtain ⟨f, ls⟩ := d
  simp only [Dl.val] at HR k1 hT hin ⊢
  obtain ⟨len, hlen⟩ : ∃ n, ls.length = n := ⟨_, rfl⟩
  have Hlen : Hid (ls.length = len) := hlen
  have Hin : Hid _ := hin
  rw [hlen] at HR hT ⊢
  clear hB hin hlen
  have X : Hid (HssAt (w.alloc (.cells #[.int .i64 f, .slice a len c] 26)) a ls ∧ Boxed (w.alloc (.cells #[.int .i64 f, .slice a len c] 26)) w.heap.size #[.int .i64 f, .slice a len c] 26 ∧ Below w.heap.size w (w.alloc (.cells #[.int .i64 f, .slice a len c] 26))) := ⟨k1.alloc _, Boxed.new _ _ _, (Below.refl _ _).alloc (Nat.le_refl _) _⟩
  clear k1
  have bad : Hid ((len < 1 ∨ 8 < len ∨ f < 0 ∨ (len : Int) ≤ f) → R = false) := fun hb => by
    rw [HR.out]
    rcases hb with hb | hb | hb | hb
    · rw [inB_false.2 (by omega)]; rfl
    · rw [inB_false.2 (by omega)]; rfl
    · rw [inB_false.2 (show f < 0 ∨ (len : Int) - 1 < f by omega), Bool.false_and, Bool.and_false]
    · rw [inB_false.2 (show f < 0 ∨ (len : Int) - 1 < f by omega), Bool.false_and, Bool.and_false]
  by_cases b1 : len < 1
  · have e : R = false := bad.out (.inl b1)
    subst e
    have b1' : (len : Int) < 1 := by omega
    go_enter Try.func11, Try.ntmps11
    go_wp2
    go_ret
    exact ⟨rfl, X.out.2.2⟩
  have b1' : ¬ (len : Int) < 1 := by omega
  by_cases b2 : 8 < len
  · have e : R = false := bad.out (.inr (.inl b2))
    subst e
    have b2' : (8 : Int) < len := by omega
    go_enter Try.func11, Try.ntmps11
    go_wp2
    go_ret
    exact ⟨rfl, X.out.2.2⟩
  have b2' : ¬ (8 : Int) < len := by omega
  by_cases b3 : f < 0
  · have e : R = false := bad.out (.inr (.inr (.inl b3)))
    subst e
    go_enter Try.func11, Try.ntmps11
    go_wp2
    go_ret
    exact ⟨rfl, X.out.2.2⟩
  by_cases b4 : (len : Int) ≤ f
  · have e : R = false := bad.out (.inr (.inr (.inr b4)))
    subst e
    go_enter Try.func11, Try.ntmps11
    go_wp2
    go_ret
    exact ⟨rfl, X.out.2.2⟩
  have Yes : Hid ((∀ k, k < len → (hsAt ls k).ok = true) → R = true) := fun hg => by
    rw [HR.out, inB_true.2 (by omega), inB_true.2 (by omega), Bool.true_and, Bool.true_and, List.all_eq_true]
    intro x hx
    obtain ⟨i, hi, rfl⟩ := List.mem_iff_getElem.1 hx
    rw [← hsAt_lt hi]
    exact hg i (by rw [← Hlen.out]; exact hi)
  have No : Hid (∀ k, k < len → (hsAt ls k).ok = false → R = false) := fun k hk hn => by
    rw [HR.out, Bool.and_eq_false_iff]
    right
    rw [Bool.and_eq_false_iff]
    right
    rw [List.all_eq_false]
    have hkl : k < ls.length := by rw [Hlen.out]; exact hk
    refine ⟨ls[k], List.getElem_mem hkl, ?_⟩
    rw [← hsAt_lt hkl, hn]
    simp
  clear bad HR
  go_enter Try.func11, Try.ntmps11
  go_wp2
  generalize w.alloc (.cells #[.int .i64 f, .slice a len c] 26) = W at X ⊢
  have hWs : Hid (w.heap.size < W.heap.size) := X.out.2.1.under
  clear b1 b1' b2 b2' b3 b4
  go_loopw [4, 5, 6, 7] (fun i _ _ _ wr => ∃ k : Nat, k ≤ len ∧ i = .int .i64 k ∧ Hid ((∀ j, j < k → (hsAt ls j).ok = true) ∧ Below W.heap.size W wr)) (fun i _ _ _ _ => len - (intOf i).toNat)
  case atStart => exact ⟨0, Nat.zero_le _, rfl, fun j hj => by omega, Below.refl _ _⟩
  case round =>
    obtain ⟨k, hk, rfl, HK⟩ := hrel
    obtain ⟨wo, rfl⟩ : ∃ wo, wo = wr := ⟨_, rfl⟩
    have cb : wo.cell? ⟨w.heap.size, 1, none⟩ = some (.slice a len c) := (X.out.2.1.below hWs.out HK.out.2).cell 1 rfl
    by_cases hlt : k < len
    · have hkl : k < ls.length := by rw [Hlen.out]; exact hlt
      obtain ⟨b, off, ak, ck, ha, hb, ⟨c0, c1⟩, hr, -⟩ := (X.out.1.below HK.out.2) k hkl
      subst ha
      have hin := Hin.out k hkl
      have HH : Hid (hsAt ls k = hsAt ls k) := rfl
      obtain ⟨q, hq⟩ : ∃ q, hsAt ls k = q := ⟨_, rfl⟩
      have Hq : Hid (hsAt ls k = q) := hq
      rw [hq] at c0 c1 hr hin
      clear hq HH
      obtain ⟨t, fl⟩ := q
      simp only at c0 c1 hr hin
      obtain ⟨n, hn⟩ : ∃ n, fl.length = n := ⟨_, rfl⟩
      have Hn : Hid (fl.length = n) := hn
      rw [hn] at c1 hin
      clear hn
      have Hq2 : Hid ((hsAt ls k).ok = (inB 1 8 (n : Int) && (inB 0 ((n : Int) - 1) t && fl.all (inB 0 1000)))) := by
        show Hs.ok _ = _
        rw [Hq.out]
        unfold Hs.ok
        simp only [Hn.out]
      have N : Hid (Boxed (wo.alloc (.cells #[.int .i64 0, .slice none 0 0] 35)) wo.heap.size #[.int .i64 0, .slice none 0 0] 35) := Boxed.new _ _ _
      obtain ⟨wh, hwh⟩ : ∃ wh, (wo.alloc (.cells #[.int .i64 0, .slice none 0 0] 35)).setRow wo.heap.size #[.int .i64 t, .slice ak n ck] = wh := ⟨_, rfl⟩
      have V : Hid (Boxed wh wo.heap.size #[.int .i64 t, .slice ak n ck] 35 ∧ Below W.heap.size W wh ∧ IntsAt wh ak fl ∧ Below w.heap.size w wh) := by
        have b0 : Below wo.heap.size wo wh := by rw [← hwh]; exact below_setRow ((Below.refl _ _).alloc (Nat.le_refl _) _) (Nat.le_refl _) _
        have b1 := HK.out.2.trans (b0.mono HK.out.2.size)
        exact ⟨by rw [← hwh]; exact setRow_heap _ _ _ _ _ _ N.out, b1, hr.below b0, X.out.2.2.trans (b1.mono X.out.2.2.size)⟩
      have HW : Hid _ := hwh
      have d0 : wh.cell? ⟨wo.heap.size, 0, none⟩ = some (.int .i64 t) := V.out.1.cell 0 rfl
      have d1 : wh.cell? ⟨wo.heap.size, 1, none⟩ = some (.slice ak n ck) := V.out.1.cell 1 rfl
      clear hr hwh
      have hlt' : (k : Int) < (len : Int) := by omega
      go_upto_region 8 with (refine wpList_store_row rfl 35 (.tmp 5) (.tmp 39) rfl wo.heap.size #[.int .i64 t, .slice ak n ck] rfl rfl _ _ N.out (by kernel_rfl) rfl (by simp [Value.oneCell']) ?_)
      rw [HW.out]
      clear N HW c0 c1 cb
      generalize wo.heap.size = B at V d0 d1 ⊢
      have bad : Hid ((n < 1 ∨ 8 < n ∨ t < 0 ∨ (n : Int) ≤ t) → R = false) := fun hb => by
        refine No.out k hlt ?_
        rw [Hq2.out]
        rcases hb with hb | hb | hb | hb
        · rw [inB_false.2 (by omega)]; rfl
        · rw [inB_false.2 (by omega)]; rfl
        · rw [inB_false.2 (show t < 0 ∨ (n : Int) - 1 < t by omega), Bool.false_and, Bool.and_false]
        · rw [inB_false.2 (show t < 0 ∨ (n : Int) - 1 < t by omega), Bool.false_and, Bool.and_false]
      by_cases b1 : n < 1
      · have e : R = false := bad.out (.inl b1)
        subst e
        have b1' : (n : Int) < 1 := by omega
        go_wp2
        go_ret
        exact ⟨rfl, V.out.2.2.2⟩
      have b1' : ¬ (n : Int) < 1 := by omega
      by_cases b2 : 8 < n
      · have e : R = false := bad.out (.inr (.inl b2))
        subst e
        have b2' : (8 : Int) < n := by omega
        go_wp2
        go_ret
        exact ⟨rfl, V.out.2.2.2⟩
      have b2' : ¬ (8 : Int) < n := by omega
      by_cases b3 : t < 0
      · have e : R = false := bad.out (.inr (.inr (.inl b3)))
        subst e
        go_wp2
        go_ret
        exact ⟨rfl, V.out.2.2.2⟩
      by_cases b4 : (n : Int) ≤ t
      · have e : R = false := bad.out (.inr (.inr (.inr b4)))
        subst e
        go_wp2
        go_ret
        exact ⟨rfl, V.out.2.2.2⟩
      have Good : Hid ((∀ j, j < n → inB 0 1000 (flAt fl j) = true) → (hsAt ls k).ok = true) := fun hg => by
        rw [Hq2.out, inB_true.2 (by omega), inB_true.2 (by omega), Bool.true_and, Bool.true_and, List.all_eq_true]
        intro x hx
        obtain ⟨i, hi, rfl⟩ := List.mem_iff_getElem.1 hx
        have := hg i (by rw [← Hn.out]; exact hi)
        rwa [flAt, List.getElem?_eq_getElem hi, Option.getD_some] at this
      have Bad : Hid (∀ j, j < n → inB 0 1000 (flAt fl j) = false → R = false) := fun j hj hn => by
        refine No.out k hlt ?_
        rw [Hq2.out, Bool.and_eq_false_iff]
        right
        rw [Bool.and_eq_false_iff]
        right
        rw [List.all_eq_false]
        have hjl : j < fl.length := by rw [Hn.out]; exact hj
        refine ⟨fl[j], List.getElem_mem hjl, ?_⟩
        rw [flAt, List.getElem?_eq_getElem hjl, Option.getD_some] at hn
        rw [hn]
        simp
      clear bad b1 b2 Hq2 Hq
      go_wp2
      clear b1' b2' b3 b4
      go_loop [7] (fun j => ∃ m : Nat, m ≤ n ∧ j = .int .i64 m ∧ Hid (∀ i, i < m → inB 0 1000 (flAt fl i) = true)) (fun j => n - (intOf j).toNat)
      case atStart => exact ⟨0, Nat.zero_le _, rfl, fun i hi => by omega⟩
      case round =>
        obtain ⟨m, hm, rfl, HM⟩ := hrel
        by_cases hlm : m < n
        · obtain ⟨b5, o5, ha5, hb5, c5⟩ := V.out.2.2.1 m (by rw [Hn.out]; exact hlm)
          subst ha5
          have e5 : fl[m]?.getD 0 = flAt fl m := rfl
          rw [e5] at c5
          have A1 := fun w => specIn (flAt fl m) 0 1000 w
          have Bm := Bad.out m hlm
          have Gm : Hid (inB 0 1000 (flAt fl m) = true → ∀ i, i < m + 1 → inB 0 1000 (flAt fl i) = true) := fun h i hi => by
            by_cases e : i = m
            · subst e; exact h
            · exact HM.out i (by omega)
          generalize flAt fl m = y at c5 A1 Bm Gm
          have HBm : Hid (inB 0 1000 y = false → R = false) := Bm
          generalize inB 0 1000 y = bb at A1 HBm Gm
          have A1' : Hid _ := A1
          have hlm' : (m : Int) < (n : Int) := by omega
          clear A1 e5 Bm
          go_wp2_with fail
          refine (A1'.out _).mono ?_
          rintro e w' ⟨rfl, hw⟩
          have hw := hw.symm
          subst hw
          cases bb
          · have e : R = false := HBm.out (by first | exact trivial | exact rfl)
            subst e
            go_wp2
            go_ret
            exact ⟨rfl, V.out.2.2.2⟩
          · go_wp2
            go_round
            case rel => exact ⟨m + 1, by omega, by go_num, Gm.out (by first | exact trivial | exact rfl)⟩
            case measure => simp [intOf]; omega
        · obtain rfl : m = n := by omega
          have K2 : Hid ((∀ j, j < k + 1 → (hsAt ls j).ok = true) ∧ Below W.heap.size W wh) := ⟨fun j hj => by
            by_cases e : j = k
            · subst e; exact Good.out HM.out
            · exact HK.out.1 j (by omega), V.out.2.1⟩
          clear HK Good Bad HM
          go_wp2
          go_roundw
          case rel => exact ⟨k + 1, by omega, by go_num, K2⟩
          case measure => simp [intOf]; omega
    · obtain rfl : k = len := by omega
      have e : R = true := Yes.out HK.out.1
      subst e
      go_wp2
      go_ret
      exact ⟨rfl, X.out.2.2.trans (HK.out.2.mono X.out.2.2.size)⟩
end Go.Proofs.Ytojmghnbekneiaa
