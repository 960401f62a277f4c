import Derived.Test.YtgebghkcikmfaaaGreatDoorQJ3SrPlain
import Derived.Test.YtgebghkcikmfaaaGreatDoorQJ0NumUp
import Derived.Test.YtgebghkcikmfaaaGreatDoorQJ5StepRow
import Derived.BigQuiet
import Derived.Laws.ResultCell
import Derived.Laws.CopyOwn
import Derived.WalkKit
import Derived.WalkSpells
import Derived.WalkLawsBesides
import Derived.RegionTactic
/-
  The walk of the model's FairOk. By the verifier.
-/
namespace Go.Proofs.YtgebghkcikmfaaaGreatDoor
open Go.RowKit

set_option maxHeartbeats 6400000 in
set_option maxRecDepth 100000 in
theorem specFairOk (d : Fs) (v : Value) (w : World) (hB : d.big ≤ 1048576) (h : Hid (FsAt w v d)) :
    Calls Tryz.prog 71 #[v] w fun e w' => e = .returned (.bool d.ok) ∧ Below w.heap.size w w' := by
  obtain ⟨a, c, rfl, k1⟩ := h.out
  clear h
  obtain ⟨hT, -, hin⟩ := Fs.small hB
  have HR : Hid (d.ok = (inB 0 1125899906842624 d.now && (inB 1 8 (d.flows.length : Int) && d.flows.all Fw.ok))) := rfl
  generalize d.ok = R at HR ⊢
  obtain ⟨f, ls⟩ := d
  simp only [Fs.val] at HR k1 hT hin ⊢
  obtain ⟨len, hlen⟩ : ∃ n, ls.length = n := ⟨_, rfl⟩
  have Hlen : Hid (ls.length = len) := hlen
  have Hin : Hid _ := hin
  rw [hlen] at HR hT ⊢
  clear hB hin hlen
  have X : Hid (FwsAt (w.alloc (.cells #[.int .i64 f, .slice a len c] 48)) a ls ∧ Boxed (w.alloc (.cells #[.int .i64 f, .slice a len c] 48)) w.heap.size #[.int .i64 f, .slice a len c] 48 ∧ Below w.heap.size w (w.alloc (.cells #[.int .i64 f, .slice a len c] 48))) := ⟨k1.alloc _, Boxed.new _ _ _, (Below.refl _ _).alloc (Nat.le_refl _) _⟩
  clear k1
  have bad : Hid ((len < 1 ∨ 8 < len) → R = false) := fun hb => by
    rw [HR.out, inB_false.2 (show (len : Int) < 1 ∨ 8 < (len : Int) by omega), Bool.false_and, Bool.and_false]
  have B1 := fun w => specIn f 0 1125899906842624 w
  generalize inB 0 1125899906842624 f = b0 at HR B1
  have B1' : Hid _ := B1
  clear B1
  go_enter Tryz.func71, Tryz.ntmps71
  go_wp2_with fail
  refine (B1'.out _).mono ?_
  rintro e w' ⟨rfl, hw⟩
  have hw := hw.symm
  subst hw
  clear B1'
  cases b0
  · have e : R = false := by rw [HR.out]; rfl
    subst e
    go_wp2
    go_ret
    exact ⟨rfl, X.out.2.2⟩
  by_cases b1 : len < 1
  · have e : R = false := bad.out (.inl b1)
    subst e
    have b1' : (len : Int) < 1 := by omega
    go_wp2
    go_ret
    exact ⟨rfl, X.out.2.2⟩
  have b1' : ¬ (len : Int) < 1 := by omega
  by_cases b2 : 8 < len
  · have e : R = false := bad.out (.inr b2)
    subst e
    have b2' : (8 : Int) < len := by omega
    go_wp2
    go_ret
    exact ⟨rfl, X.out.2.2⟩
  have b2' : ¬ (8 : Int) < len := by omega
  have Yes : Hid ((∀ k, k < len → (fwAt ls k).ok = true) → R = true) := fun hg => by
    rw [HR.out, inB_true.2 (by omega), Bool.true_and, Bool.true_and, List.all_eq_true]
    intro x hx
    obtain ⟨i, hi, rfl⟩ := List.mem_iff_getElem.1 hx
    rw [← fwAt_lt hi]
    exact hg i (by rw [← Hlen.out]; exact hi)
  have No : Hid (∀ k, k < len → (fwAt ls k).ok = false → R = false) := fun k hk hn => by
    rw [HR.out, Bool.and_eq_false_iff]
    right
    rw [Bool.and_eq_false_iff]
    right
    rw [List.all_eq_false]
    have hkl : k < ls.length := by rw [Hlen.out]; exact hk
    refine ⟨ls[k], List.getElem_mem hkl, ?_⟩
    rw [← fwAt_lt hkl, hn]
    simp
  clear bad HR
  go_wp2
  generalize w.alloc (.cells #[.int .i64 f, .slice a len c] 48) = W at X ⊢
  have hWs : Hid (w.heap.size < W.heap.size) := X.out.2.1.under
  clear b1 b1' b2 b2'
  go_loopw [3, 4, 5] (fun i _ _ wr => ∃ k : Nat, k ≤ len ∧ i = .int .i64 k ∧ Hid ((∀ j, j < k → (fwAt ls j).ok = true) ∧ Below W.heap.size W wr)) (fun i _ _ _ => len - (intOf i).toNat)
  case atStart => exact ⟨0, Nat.zero_le _, rfl, fun j hj => by omega, Below.refl _ _⟩
  case round =>
    obtain ⟨k, hk, rfl, HK⟩ := hrel
    obtain ⟨wo, rfl⟩ : ∃ wo, wo = wr := ⟨_, rfl⟩
    have cb : wo.cell? ⟨w.heap.size, 1, none⟩ = some (.slice a len c) := (X.out.2.1.below hWs.out HK.out.2).cell 1 rfl
    by_cases hlt : k < len
    · have hkl : k < ls.length := by rw [Hlen.out]; exact hlt
      obtain ⟨b, off, ak, ck, ha, hb, ⟨c0, c1, c2⟩, hr, -⟩ := (X.out.1.below HK.out.2) k hkl
      subst ha
      have hin := Hin.out k hkl
      obtain ⟨q, hq⟩ : ∃ q, fwAt ls k = q := ⟨_, rfl⟩
      have Hq : Hid (fwAt ls k = q) := hq
      rw [hq] at c0 c1 c2 hr hin
      clear hq
      obtain ⟨t, u, fl⟩ := q
      simp only at c0 c1 c2 hr hin
      obtain ⟨n, hn⟩ : ∃ n, fl.length = n := ⟨_, rfl⟩
      have Hn : Hid (fl.length = n) := hn
      rw [hn] at c2 hin
      clear hn
      have Hq2 : Hid ((fwAt ls k).ok = (inB 1 10 t && (inB 0 1125899906842624 u && (inB 0 40 (n : Int) && fl.all (inB 1 2000))))) := by
        show Fw.ok _ = _
        rw [Hq.out]
        unfold Fw.ok
        simp only [Hn.out]
      have N : Hid (Boxed (wo.alloc (.cells #[.int .i64 0, .int .i64 0, .slice none 0 0] 116)) wo.heap.size #[.int .i64 0, .int .i64 0, .slice none 0 0] 116) := Boxed.new _ _ _
      obtain ⟨wh, hwh⟩ : ∃ wh, (wo.alloc (.cells #[.int .i64 0, .int .i64 0, .slice none 0 0] 116)).setRow wo.heap.size #[.int .i64 t, .int .i64 u, .slice ak n ck] = wh := ⟨_, rfl⟩
      have V : Hid (Boxed wh wo.heap.size #[.int .i64 t, .int .i64 u, .slice ak n ck] 116 ∧ Below W.heap.size W wh ∧ IntsAt wh ak fl ∧ Below w.heap.size w wh) := by
        have b0 : Below wo.heap.size wo wh := by rw [← hwh]; exact below_setRow ((Below.refl _ _).alloc (Nat.le_refl _) _) (Nat.le_refl _) _
        have b1 := HK.out.2.trans (b0.mono HK.out.2.size)
        exact ⟨by rw [← hwh]; exact setRow_heap _ _ _ _ _ _ N.out, b1, hr.below b0, X.out.2.2.trans (b1.mono X.out.2.2.size)⟩
      have HW : Hid _ := hwh
      have d0 : wh.cell? ⟨wo.heap.size, 0, none⟩ = some (.int .i64 t) := V.out.1.cell 0 rfl
      have d1 : wh.cell? ⟨wo.heap.size, 1, none⟩ = some (.int .i64 u) := V.out.1.cell 1 rfl
      have d2 : wh.cell? ⟨wo.heap.size, 2, none⟩ = some (.slice ak n ck) := V.out.1.cell 2 rfl
      clear hr hwh
      have hlt' : (k : Int) < (len : Int) := by omega
      go_upto_region 7 with (refine wpList_store_row rfl 116 (.tmp 4) (.tmp 33) rfl wo.heap.size #[.int .i64 t, .int .i64 u, .slice ak n ck] rfl rfl _ _ N.out (by kernel_rfl) rfl (by simp [Value.oneCell']) ?_)
      rw [HW.out]
      clear N HW c0 c1 c2 cb
      generalize wo.heap.size = B at V d0 d1 d2 ⊢
      have B2 := fun w => specIn t 1 10 w
      have B3 := fun w => specIn u 0 1125899906842624 w
      generalize inB 1 10 t = b2 at B2 Hq2
      generalize inB 0 1125899906842624 u = b3 at B3 Hq2
      have B2' : Hid _ := B2
      have B3' : Hid _ := B3
      clear B2 B3
      go_wp2_with fail
      refine (B2'.out _).mono ?_
      rintro e w' ⟨rfl, hw⟩
      have hw := hw.symm
      subst hw
      cases b2
      · have e : R = false := No.out k hlt (by rw [Hq2.out]; rfl)
        subst e
        go_wp2
        go_ret
        exact ⟨rfl, V.out.2.2.2⟩
      go_wp2_with fail
      refine (B3'.out _).mono ?_
      rintro e w' ⟨rfl, hw⟩
      have hw := hw.symm
      subst hw
      clear B2' B3'
      cases b3
      · have e : R = false := No.out k hlt (by rw [Hq2.out]; rfl)
        subst e
        go_wp2
        go_ret
        exact ⟨rfl, V.out.2.2.2⟩
      by_cases b4 : 40 < n
      · have e : R = false := No.out k hlt (by rw [Hq2.out, inB_false.2 (show (n : Int) < 0 ∨ 40 < (n : Int) by omega)]; rfl)
        subst e
        have b4' : (40 : Int) < n := by omega
        go_wp2
        go_ret
        exact ⟨rfl, V.out.2.2.2⟩
      have b4' : ¬ (40 : Int) < n := by omega
      have Good : Hid ((∀ j, j < n → inB 1 2000 (szAt fl j) = true) → (fwAt ls k).ok = true) := fun hg => by
        rw [Hq2.out, inB_true.2 (by omega), Bool.true_and, Bool.true_and, Bool.true_and, List.all_eq_true]
        intro x hx
        obtain ⟨i, hi, rfl⟩ := List.mem_iff_getElem.1 hx
        have := hg i (by rw [← Hn.out]; exact hi)
        rwa [szAt, List.getElem?_eq_getElem hi, Option.getD_some] at this
      have Bad : Hid (∀ j, j < n → inB 1 2000 (szAt fl j) = false → R = false) := fun j hj hn => by
        refine No.out k hlt ?_
        have hjl : j < fl.length := by rw [Hn.out]; exact hj
        have : fl.all (inB 1 2000) = false := by
          rw [List.all_eq_false]
          refine ⟨fl[j], List.getElem_mem hjl, ?_⟩
          rw [szAt, List.getElem?_eq_getElem hjl, Option.getD_some] at hn
          rw [hn]
          simp
        rw [Hq2.out, this]
        simp
      clear Hq2 Hq
      go_wp2
      clear b4 b4'
      go_loop [5] (fun j => ∃ m : Nat, m ≤ n ∧ j = .int .i64 m ∧ Hid (∀ i, i < m → inB 1 2000 (szAt fl i) = true)) (fun j => n - (intOf j).toNat)
      case atStart => exact ⟨0, Nat.zero_le _, rfl, fun i hi => by omega⟩
      case round =>
        obtain ⟨m, hm, rfl, HM⟩ := hrel
        by_cases hlm : m < n
        · obtain ⟨b5, o5, ha5, hb5, c5⟩ := V.out.2.2.1 m (by rw [Hn.out]; exact hlm)
          subst ha5
          have e5 : fl[m]?.getD 0 = szAt fl m := rfl
          rw [e5] at c5
          have A1 := fun w => specIn (szAt fl m) 1 2000 w
          have Bm := Bad.out m hlm
          have Gm : Hid (inB 1 2000 (szAt fl m) = true → ∀ i, i < m + 1 → inB 1 2000 (szAt fl i) = true) := fun h i hi => by
            by_cases e : i = m
            · subst e; exact h
            · exact HM.out i (by omega)
          generalize szAt fl m = y at c5 A1 Bm Gm
          have HBm : Hid (inB 1 2000 y = false → R = false) := Bm
          generalize inB 1 2000 y = bb at A1 HBm Gm
          have A1' : Hid _ := A1
          have hlm' : (m : Int) < (n : Int) := by omega
          clear A1 e5 Bm
          go_wp2_with fail
          refine (A1'.out _).mono ?_
          rintro e w' ⟨rfl, hw⟩
          have hw := hw.symm
          subst hw
          cases bb
          · have e : R = false := HBm.out (by first | exact trivial | exact rfl)
            subst e
            go_wp2
            go_ret
            exact ⟨rfl, V.out.2.2.2⟩
          · go_wp2
            go_round
            case rel => exact ⟨m + 1, by omega, by go_num, Gm.out (by first | exact trivial | exact rfl)⟩
            case measure => simp [intOf]; omega
        · obtain rfl : m = n := by omega
          have K2 : Hid ((∀ j, j < k + 1 → (fwAt ls j).ok = true) ∧ Below W.heap.size W wh) := ⟨fun j hj => by
            by_cases e : j = k
            · subst e; exact Good.out HM.out
            · exact HK.out.1 j (by omega), V.out.2.1⟩
          clear HK Good Bad HM
          go_wp2
          go_roundw
          case rel => exact ⟨k + 1, by omega, by go_num, K2⟩
          case measure => simp [intOf]; omega
    · obtain rfl : k = len := by omega
      have e : R = true := Yes.out HK.out.1
      subst e
      go_wp2
      go_ret
      exact ⟨rfl, X.out.2.2.trans (HK.out.2.mono X.out.2.2.size)⟩
end Go.Proofs.YtgebghkcikmfaaaGreatDoor

/-
  The walk of the model's copy of flows. By the verifier.
-/
namespace Go.Proofs.YtgebghkcikmfaaaGreatDoor
open Go.RowKit

/-- What lies while flows are copied: so many flows, what is made, the answer's variable, what came in. -/
structure CpF (w : World) (f : Int) (a : Option Addr) (n c : Nat) (ls : List Fw) (k : Nat) (v : Value) (rs : List Fwr) (wr : World) : Prop where
  g : FwG (w.heap.size + 3) v rs (ls.take k) wr
  out : Boxed wr (w.heap.size + 1 + 1) #[.int .i64 f, v] 48
  res : Boxed wr (w.heap.size + 1) #[.int .i64 0, .slice none 0 0] 48
  box : Boxed wr w.heap.size #[.int .i64 f, .slice a n c] 48
  bel : Below w.heap.size w wr
/-- One more. -/
theorem CpF.add {w : World} {f : Int} {a : Option Addr} {n c : Nat} {ls : List Fw} {k : Nat} {v v' u : Value} {rs : List Fwr} {wr wd wx : World} (h : CpF w f a n c ls k v rs wr) (hk : k < ls.length) (g1 : Below wr.heap.size wr wd) (hu : IRow wr.heap.size wd u (fwAt ls k).sizes)
    (ho : wx.ownsRow (w.heap.size + 3) 116 3 v' (k + 1) (fwcells (rs ++ [⟨(fwAt ls k).weight, (fwAt ls k).finish, u⟩]))) (g2 : ∀ y, v.ownBlock ≠ some y → y < wd.heap.size → wx.heap[y]? = wd.heap[y]?) (g3 : Below (w.heap.size + 3) wd wx) :
    CpF w f a n c ls (k + 1) v' (rs ++ [⟨(fwAt ls k).weight, (fwAt ls k).finish, u⟩]) (wx.setCell ⟨w.heap.size + 1 + 1, 1, none⟩ v') := by
  have hs := h.out.under
  have hlk : (ls.take k).length = k := by simp; omega
  have e : ls.take (k + 1) = ls.take k ++ [fwAt ls k] := by rw [List.take_succ_eq_append_getElem hk, fwAt_lt hk]
  have hg : FwG (w.heap.size + 3) v' (rs ++ [⟨(fwAt ls k).weight, (fwAt ls k).finish, u⟩]) (ls.take (k + 1)) wx := by
    rw [e]
    exact h.g.add (by omega) g1 hu (by rw [hlk]; exact ho) g2
  have b1 : ∀ y, y < w.heap.size + 3 → wx.heap[y]? = wr.heap[y]? := fun y hy => (g3.block y hy).trans (g1.block y (by omega))
  have oth : ∀ y, y ≠ w.heap.size + 1 + 1 → (wx.setCell ⟨w.heap.size + 1 + 1, 1, none⟩ v').heap[y]? = wx.heap[y]? := fun y hy => Below.heap_setCell _ _ _ _ hy
  have o1 : Boxed wx (w.heap.size + 1 + 1) #[.int .i64 f, v] 48 := (b1 _ (by omega)).trans h.out
  refine ⟨hg.other fun y hy _ => oth y (by omega), o1.put 1 v', ?_, ?_, ?_⟩
  · exact (oth _ (by omega)).trans ((b1 _ (by omega)).trans h.res)
  · exact (oth _ (by omega)).trans ((b1 _ (by omega)).trans h.box)
  · exact (h.bel.trans ((g1.mono h.bel.size).trans (g3.mono (by omega)))).setCell (by show w.heap.size ≤ w.heap.size + 1 + 1; omega) _

set_option maxHeartbeats 6400000 in
set_option maxRecDepth 100000 in
theorem specCopyF (d : Fs) (a : Option Addr) (c : Nat) (w : World) (hB : d.big ≤ 1048576) (h : Hid (FwsAt w a d.flows)) :
    Calls Tryz.prog 76 #[d.val a c] w fun e w' => (∃ v rs, e = .returned (.agg #[.int .i64 d.now, v]) ∧ FwG (w.heap.size + 3) v rs d.flows w') ∧ Below w.heap.size w w' := by
  obtain ⟨hT, -, hin⟩ := Fs.small hB
  obtain ⟨f, ls⟩ := d
  simp only [Fs.val] at h hT hin ⊢
  clear hB
  have Hin : Hid (∀ k, k < ls.length → (fwAt ls k).sizes.length ≤ 1048576) := hin
  obtain ⟨n, hn⟩ : ∃ n, ls.length = n := ⟨_, rfl⟩
  rw [hn] at hT ⊢
  have Hn : Hid (ls.length = n) := hn
  clear hn hin
  obtain ⟨W, hW⟩ : ∃ W, W = ((w.alloc (.cells #[.int .i64 f, .slice a n c] 48)).alloc (.cells #[.int .i64 0, .slice none 0 0] 48)).alloc (.cells #[.int .i64 f, .slice none 0 0] 48) := ⟨_, rfl⟩
  have X : Hid (CpF w f a n c ls 0 (.slice none 0 0) [] W) := by
    rw [hW]
    refine ⟨by rw [List.take_zero]; exact FwG.nil _ _, ?_, ?_, ((Boxed.new w _ _).more _).more _, (((Below.refl _ _).alloc (Nat.le_refl _) _).alloc (by simp) _).alloc (by simp; omega) _⟩
    · have := Boxed.new ((w.alloc (.cells #[.int .i64 f, .slice a n c] 48)).alloc (.cells #[.int .i64 0, .slice none 0 0] 48)) #[.int .i64 f, .slice none 0 0] 48
      simpa using this
    · have := (Boxed.new (w.alloc (.cells #[.int .i64 f, .slice a n c] 48)) #[.int .i64 0, .slice none 0 0] 48).more (.cells #[.int .i64 f, .slice none 0 0] 48)
      simpa using this
  have HW : Hid (W = _) := hW
  clear hW
  go_enter Tryz.func76, Tryz.ntmps76
  go_wp2
  rw [← HW.out]
  go_loopw [4, 5] (fun i _ wr => ∃ k : Nat, k ≤ n ∧ i = .int .i64 k ∧ Hid (∃ v rs, CpF w f a n c ls k v rs wr)) (fun i _ _ => n - (intOf i).toNat)
  case atStart => exact ⟨0, Nat.zero_le _, rfl, _, _, X.out⟩
  case round =>
    obtain ⟨k, hk, rfl, HE⟩ := hrel
    obtain ⟨v, rs, H1⟩ : ∃ v rs, Hid (CpF w f a n c ls k v rs wr) := HE.out
    clear X HE
    have c1 : wr.cell? ⟨w.heap.size, 1, none⟩ = some (.slice a n c) := H1.out.box.cell 1 rfl
    by_cases hlt : k < n
    · have hkl : k < ls.length := by rw [Hn.out]; exact hlt
      obtain ⟨b, off, ak, ck, ha, hb, ⟨e0, e1, e2⟩, hr, hcap, hnil⟩ := (h.out.below H1.out.bel) k hkl
      subst ha
      have hm := Hin.out k hkl
      have Hr : Hid (IntsAt wr ak (fwAt ls k).sizes) := hr
      have Add : Hid (∀ u v' wd wx, Below wr.heap.size wr wd → IRow wr.heap.size wd u (fwAt ls k).sizes → wx.ownsRow (w.heap.size + 3) 116 3 v' (k + 1) (fwcells (rs ++ [⟨(fwAt ls k).weight, (fwAt ls k).finish, u⟩])) → (∀ y, v.ownBlock ≠ some y → y < wd.heap.size → wx.heap[y]? = wd.heap[y]?) → Below (w.heap.size + 3) wd wx → CpF w f (some ⟨b, off, none⟩) n c ls (k + 1) v' (rs ++ [⟨(fwAt ls k).weight, (fwAt ls k).finish, u⟩]) (wx.setCell ⟨w.heap.size + 1 + 1, 1, none⟩ v')) := fun u v' wd wx q1 q2 q3 q4 q5 => H1.out.add hkl q1 q2 q3 q4 q5
      have Out : Hid (wr.ownsRow (w.heap.size + 3) 116 3 v k (fwcells rs) ∧ w.heap.size + 3 ≤ wr.heap.size) := ⟨by have := H1.out.g.outer; rw [List.length_take, Nat.min_eq_left (by omega)] at this; exact this, H1.out.out.under⟩
      generalize fwAt ls k = q at e0 e1 e2 Hr hm Add hr hcap
      obtain ⟨t, u, l⟩ := q
      simp only at e0 e1 e2 Hr hm Add hr hcap
      obtain ⟨m, hml⟩ : ∃ m, l.length = m := ⟨_, rfl⟩
      rw [hml] at e2 hm hcap
      have Hml : Hid (l.length = m) := hml
      have l2 : w.heap.size + 1 + 1 < wr.heap.size := H1.out.out.under
      have hlt' : (k : Int) < (n : Int) := by omega
      have N : Hid (Boxed (wr.alloc (.cells #[.int .i64 0, .int .i64 0, .slice none 0 0] 116)) wr.heap.size #[.int .i64 0, .int .i64 0, .slice none 0 0] 116) := Boxed.new _ _ _
      have V : Hid (Boxed ((wr.alloc (.cells #[.int .i64 0, .int .i64 0, .slice none 0 0] 116)).setRow wr.heap.size #[.int .i64 t, .int .i64 u, .slice ak m ck]) wr.heap.size #[.int .i64 t, .int .i64 u, .slice ak m ck] 116 ∧ Below wr.heap.size wr ((wr.alloc (.cells #[.int .i64 0, .int .i64 0, .slice none 0 0] 116)).setRow wr.heap.size #[.int .i64 t, .int .i64 u, .slice ak m ck])) :=
        ⟨setRow_heap _ _ _ _ _ _ N.out, below_setRow ((Below.refl _ _).alloc (Nat.le_refl _) _) (Nat.le_refl _) _⟩
      clear hr hml
      go_upto_region 6 with (refine wpList_store_row rfl 116 (.tmp 5) (.tmp 20) rfl wr.heap.size #[.int .i64 t, .int .i64 u, .slice ak m ck] rfl rfl _ _ N.out (by kernel_rfl) rfl (by simp [Value.oneCell']) ?_)
      generalize (wr.alloc (.cells #[.int .i64 0, .int .i64 0, .slice none 0 0] 116)).setRow wr.heap.size #[.int .i64 t, .int .i64 u, .slice ak m ck] = wh at V ⊢
      clear N e0 e1 e2 c1
      have f2 : (wh.alloc (.cells #[] 2)).cell? ⟨wr.heap.size, 2, none⟩ = some (.slice ak m ck) := (V.out.1.more _).cell 2 rfl
      have hbe : Below wh.heap.size wh (wh.alloc (.cells #[] 2)) := (Below.refl _ _).alloc (Nat.le_refl _) _
      have Ha : Hid (IRow wh.heap.size (wh.alloc (.cells #[] 2)) (.slice (some ⟨wh.heap.size, 0, none⟩) 0 0) [] ∧ IntsAt (wh.alloc (.cells #[] 2)) ak l ∧ wh.heap.size ≤ (wh.alloc (.cells #[] 2)).heap.size ∧ Boxed (wh.alloc (.cells #[] 2)) wr.heap.size #[.int .i64 t, .int .i64 u, .slice ak m ck] 116 ∧ Below wr.heap.size wr (wh.alloc (.cells #[] 2)) ∧ wr.heap.size < wh.heap.size) :=
        ⟨irow_built wh wh.heap.size (Nat.le_refl _), (Hr.out.below V.out.2).alloc _, by simp, V.out.1.more _, V.out.2.trans (hbe.mono V.out.2.size), V.out.1.under⟩
      clear hbe
      go_upto_region 7 with (refine int_row_app rfl (.tmp 21) (.tmp 23) rfl wh.heap.size (.slice (some ⟨wh.heap.size, 0, none⟩) 0 0) [] ak m ck l Hml.out rfl rfl Ha.out.1 Ha.out.2.1 hnil (by rw [Hml.out]; simp; omega) Ha.out.2.2.1 ?_; intro uv w2 q1 q2 q3 q4; have q5 : IRow wh.heap.size w2 uv l := (by simpa using q1); obtain ⟨ux, uc, eu⟩ := q5.shape; rw [Hml.out] at eu; subst eu; have bx : Boxed w2 wr.heap.size #[.int .i64 t, .int .i64 u, .slice ak m ck] 116 := Ha.out.2.2.2.1.below Ha.out.2.2.2.2.2 q2; have x2 := bx.cell 2 rfl; have x3 := bx.ice 2; have U : Hid (IRow wh.heap.size w2 (.slice ux m uc) l ∧ Below wr.heap.size wr w2 ∧ Boxed w2 wr.heap.size #[.int .i64 t, .int .i64 u, .slice ak m ck] 116 ∧ wr.heap.size < wh.heap.size) := ⟨q5, Ha.out.2.2.2.2.1.trans (q2.mono (Nat.le_of_lt Ha.out.2.2.2.2.2)), bx, Ha.out.2.2.2.2.2⟩; clear q1 q2 q3 q4 q5 bx)
      have U3 : Hid (IRow wr.heap.size (w2.setCell ⟨wr.heap.size, 2, none⟩ (.slice ux m uc)) (.slice ux m uc) l ∧ Below wr.heap.size wr (w2.setCell ⟨wr.heap.size, 2, none⟩ (.slice ux m uc)) ∧ Boxed (w2.setCell ⟨wr.heap.size, 2, none⟩ (.slice ux m uc)) wr.heap.size #[.int .i64 t, .int .i64 u, .slice ux m uc] 116) := by
        have hl := U.out.2.2.2
        refine ⟨(U.out.1.carry fun y hy _ => Below.heap_setCell _ _ _ _ (by show y ≠ wr.heap.size; omega)).mono (Nat.le_of_lt hl), U.out.2.1.setCell (Nat.le_refl _) _, U.out.2.2.1.put 2 _⟩
      clear x2 x3 U Ha V f2
      generalize w2.setCell ⟨wr.heap.size, 2, none⟩ (.slice ux m uc) = w3 at U3 ⊢
      have g1 : w3.cell? ⟨w.heap.size + 1 + 1, 1, none⟩ = some v := (H1.out.out.below l2 U3.out.2.1).cell 1 rfl
      have hn3 : Below w3.heap.size w3 (w3.alloc (.cells #[.int .i64 t, .int .i64 u, .slice ux m uc] 116)) := (Below.refl _ _).alloc (Nat.le_refl _) _
      have Y : Hid ((w3.alloc (.cells #[.int .i64 t, .int .i64 u, .slice ux m uc] 116)).ownsRow (w.heap.size + 3) 116 3 v k (fwcells rs) ∧ Boxed (w3.alloc (.cells #[.int .i64 t, .int .i64 u, .slice ux m uc] 116)) w3.heap.size #[.int .i64 t, .int .i64 u, .slice ux m uc] 116 ∧ w.heap.size + 3 ≤ (w3.alloc (.cells #[.int .i64 t, .int .i64 u, .slice ux m uc] 116)).heap.size ∧ Below wr.heap.size wr (w3.alloc (.cells #[.int .i64 t, .int .i64 u, .slice ux m uc] 116)) ∧ IRow wr.heap.size (w3.alloc (.cells #[.int .i64 t, .int .i64 u, .slice ux m uc] 116)) (.slice ux m uc) l ∧ Boxed (w3.alloc (.cells #[.int .i64 t, .int .i64 u, .slice ux m uc] 116)) (w.heap.size + 1 + 1) #[.int .i64 f, v] 48) := by
        have o := U3.out.2.1.trans (hn3.mono U3.out.2.1.size)
        exact ⟨fwrows_carry Out.out.1 (fun y _ hy => o.block y hy), Boxed.new _ _ _, Nat.le_trans Out.out.2 o.size, o, U3.out.1.alloc _, H1.out.out.below l2 o⟩
      clear hn3
      obtain ⟨vx, vc, evv⟩ := fwrows_shape Out.out.1
      subst evv
      go_wp2_with (first | (refine wpList_load_row rfl 116 (.tmp 5) rfl wr.heap.size rfl _ _ _ _ U3.out.2.2 Tryz.underlying116 rfl (by kernel_rfl) ?_) | (refine fw_row_one rfl (.tmp 27) (.tmp 29) rfl (w.heap.size + 3) (.slice vx k vc) k rs ⟨t, u, .slice ux m uc⟩ rfl rfl Y.out.1 rfl Y.out.2.1 (by omega) Y.out.2.2.1 ?_; intro v' w4 q1 q2 q3; obtain ⟨wx', wc', ev'⟩ := fwrows_shape q1; subst ev'; have R3 : Hid _ := Add.out _ _ _ _ Y.out.2.2.2.1 Y.out.2.2.2.2.1 q1 q3 q2; have o4 : Boxed w4 (w.heap.size + 1 + 1) #[.int .i64 f, .slice vx k vc] 48 := Y.out.2.2.2.2.2.below (by omega) q2; have x4 := o4.cell 1 rfl; have x5 := o4.ice 1; clear q1 q2 q3 o4))
      go_roundw
      case rel => exact ⟨k + 1, by omega, by go_num, _, _, R3.out⟩
      case measure => simp [intOf]; omega
    · obtain rfl : k = n := by omega
      have e : ls.take k = ls := List.take_of_length_le (by rw [Hn.out]; exact Nat.le_refl _)
      have HG : Hid (FwG (w.heap.size + 3) v rs ls wr) := by have := H1.out.g; rw [e] at this; exact this
      obtain ⟨vx, vc, ev⟩ := fwrows_shape H1.out.g.outer
      clear e
      subst ev
      go_wp2_with (first | (refine wpList_load_row rfl 48 (.tmp 3) rfl (w.heap.size + 1 + 1) rfl _ _ _ _ H1.out.out Tryz.underlying48 rfl (by kernel_rfl) ?_) | (refine wpList_store_row rfl 48 (.tmp 2) (.tmp 32) rfl (w.heap.size + 1) _ rfl rfl _ _ H1.out.res (by kernel_rfl) rfl (by simp [Value.oneCell']) ?_))
      refine bodyPost_ret (results_cell_row Tryz.results76 _ _ (w.heap.size + 1) _ _ _ _ rfl (setRow_heap _ (w.heap.size + 1) _ _ _ _ H1.out.res) Tryz.underlying48 rfl (by kernel_rfl)) rfl ⟨⟨_, rs, rfl, HG.out.other fun y hy _ => setRow_other _ _ _ _ (by omega)⟩, below_setRow H1.out.bel (by omega) _⟩
end Go.Proofs.YtgebghkcikmfaaaGreatDoor
