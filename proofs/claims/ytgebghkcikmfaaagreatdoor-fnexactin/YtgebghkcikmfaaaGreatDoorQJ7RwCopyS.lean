import Derived.Test.YtgebghkcikmfaaaGreatDoorQJ6RwSpecC
import Derived.Test.YtgebghkcikmfaaaGreatDoorQJ0NumUp
import Derived.Test.YtgebghkcikmfaaaGreatDoorQJ5StepRow
import Derived.Laws.ResultCell
import Derived.Laws.CopyOwn
/-
  The walk of the model's RowsOk. By the verifier.
-/
namespace Go.Proofs.YtgebghkcikmfaaaGreatDoor
open Go.RowKit

theorem ok_bad {r : Rw} (h : ¬ ((1 ≤ r.most ∧ r.most ≤ 200) ∧ (1 ≤ r.lists.length ∧ r.lists.length ≤ 16))) : r.ok = false := by
  rw [Rw.ok_no]
  intro g
  exact h ⟨g.1, g.2.1⟩
theorem ok_long {r : Rw} {i : Nat} (hi : i < r.lists.length) (h : 200 < (izAt r.lists i).length) : r.ok = false := by
  rw [Rw.ok_no]
  intro g
  have h1 := g.2.2.2.2
  rw [all_length] at h1
  have h2 := izSum_one hi
  have h3 := g.1.2
  omega
theorem ok_end {r : Rw} (h : (1 ≤ r.most ∧ r.most ≤ 200) ∧ (1 ≤ r.lists.length ∧ r.lists.length ≤ 16)) (g : goodIts r.most (r.pre r.lists.length 0)) : r.ok = true := by
  rw [pre_end] at g
  rw [Rw.ok_iff]
  exact ⟨h.1, h.2, g⟩

set_option maxHeartbeats 6400000 in
set_option maxRecDepth 100000 in
theorem specRowsOk (r : Rw) (a : Option Addr) (c : Nat) (w : World) (hB : r.big ≤ 1048576) (h : Hid (IzAt w a r.lists)) :
    Calls Tryz.prog 70 #[r.val a c] w fun e w' => e = .returned (.bool r.ok) ∧ Below w.heap.size w w' := by
  obtain ⟨hT, -, -⟩ := Rw.small hB
  obtain ⟨R, hR⟩ : ∃ R, r.ok = R := ⟨_, rfl⟩
  rw [hR]
  have HR : Hid (r.ok = R) := hR
  obtain ⟨len, hlen⟩ : ∃ n, r.lists.length = n := ⟨_, rfl⟩
  obtain ⟨f, hf⟩ : ∃ f, r.most = f := ⟨_, rfl⟩
  unfold Rw.val
  rw [hlen] at hT ⊢
  rw [hf]
  have Hlen : Hid (r.lists.length = len) := hlen
  have Hf : Hid (r.most = f) := hf
  have A1 := fun w => specIn f 1 200 w
  clear hlen hB hR hf
  obtain ⟨W, hW⟩ : ∃ W, W = w.alloc (.cells #[.int .i64 f, .slice a len c] 44) := ⟨_, rfl⟩
  have X : Hid (IzAt W a r.lists ∧ Below w.heap.size w W ∧ Boxed W w.heap.size #[.int .i64 f, .slice a len c] 44 ∧ w.heap.size < W.heap.size) := by
    rw [hW]
    exact ⟨h.out.alloc _, (Below.refl _ _).alloc (Nat.le_refl _) _, Boxed.new _ _ _, by simp⟩
  have HW : Hid (W = _) := hW
  clear hW h
  by_cases h1 : inB 1 200 f = true
  case neg =>
    have h1' : inB 1 200 f = false := by simpa using h1
    rw [h1'] at A1
    have er : R = false := by
      rw [← HR.out]
      refine ok_bad fun g => ?_
      rw [Hf.out] at g
      exact h1 (inB_true.2 g.1)
    subst er
    have A1' : Hid _ := A1
    clear A1 h1 h1'
    go_enter Tryz.func70, Tryz.ntmps70
    go_wp2_with fail
    refine (A1'.out _).mono ?_
    rintro e w' ⟨rfl, rfl⟩
    go_wp2
    go_ret
    exact ⟨rfl, by rw [← HW.out]; exact X.out.2.1⟩
  rw [h1] at A1
  have A1' : Hid _ := A1
  have hf := inB_true.1 h1
  clear A1 h1
  by_cases h2 : 1 ≤ len ∧ len ≤ 16
  case neg =>
    have er : R = false := by
      rw [← HR.out]
      refine ok_bad fun g => ?_
      rw [Hlen.out] at g
      exact h2 g.2
    subst er
    have h3 : len < 1 ∨ 16 < len := by omega
    clear h2
    rcases h3 with h3 | h3
    · have h3' : (len : Int) < 1 := by omega
      go_enter Tryz.func70, Tryz.ntmps70
      go_wp2_with fail
      refine (A1'.out _).mono ?_
      rintro e w' ⟨rfl, rfl⟩
      go_wp2
      go_ret
      exact ⟨rfl, by rw [← HW.out]; exact X.out.2.1⟩
    · have h3' : ¬ (len : Int) < 1 := by omega
      have h4' : (16 : Int) < len := by omega
      go_enter Tryz.func70, Tryz.ntmps70
      go_wp2_with fail
      refine (A1'.out _).mono ?_
      rintro e w' ⟨rfl, rfl⟩
      go_wp2
      go_ret
      exact ⟨rfl, by rw [← HW.out]; exact X.out.2.1⟩
  have Yes : Hid (goodIts f (r.pre len 0) → R = true) := fun g => by
    rw [← HR.out]
    refine ok_end ?_ (by rw [Hf.out, Hlen.out]; exact g)
    rw [Hf.out, Hlen.out]
    exact ⟨hf, h2⟩
  have No : Hid (∀ i k, i < len → ¬ goodIts f (r.pre i k) → R = false) := fun i k hi hn => by
    rw [← HR.out]
    exact pre_no (i := i) (k := k) (by rw [Hlen.out]; exact hi) (by rw [Hf.out]; exact hn)
  have Long : Hid (∀ i, i < len → 200 < (izAt r.lists i).length → R = false) := fun i hi hn => by
    rw [← HR.out]
    exact ok_long (by rw [Hlen.out]; exact hi) hn
  have h3' : ¬ (len : Int) < 1 := by omega
  have h4' : ¬ (16 : Int) < len := by omega
  have f0 : 0 ≤ f := by omega
  have f1 : f ≤ 200 := by omega
  clear hf h2 HR
  go_enter Tryz.func70, Tryz.ntmps70
  go_wp2_with fail
  refine (A1'.out _).mono ?_
  rintro e w' ⟨rfl, rfl⟩
  have c0 : (w.alloc (.cells #[.int .i64 f, .slice a len c] 44)).cell? ⟨w.heap.size, 1, none⟩ = some (.slice a len c) := by rw [← HW.out]; exact X.out.2.2.1.cell 1 rfl
  go_wp2
  rw [← HW.out]
  clear c0 h3' h4' A1'
  have S0 : Hid (IRow W.heap.size (W.alloc (.cells #[] 2)) (.slice (some ⟨W.heap.size, 0, none⟩) 0 0) [] ∧ Below W.heap.size W (W.alloc (.cells #[] 2))) := ⟨irow_built _ _ (Nat.le_refl _), (Below.refl _ _).alloc (Nat.le_refl _) _⟩
  have hWs : Hid (w.heap.size + 1 = W.heap.size) := by show w.heap.size + 1 = W.heap.size; rw [HW.out]; simp
  go_loopw [3, 4, 5, 6] (fun v i _ _ wr => ∃ k : Nat, k ≤ len ∧ i = .int .i64 k ∧ Hid (IRow W.heap.size wr v ((r.pre k 0).map It.id) ∧ goodIts f (r.pre k 0) ∧ Below W.heap.size W wr)) (fun _ i _ _ _ => len - (intOf i).toNat)
  case atStart =>
    refine ⟨0, Nat.zero_le _, rfl, ?_⟩
    show IRow _ _ _ _ ∧ _ ∧ _
    rw [pre_zero]
    refine ⟨?_, goodIts.nil f0, S0.out.2⟩
    have := S0.out.1
    rw [← hWs.out] at this
    rw [← hWs.out]
    exact this
  case round =>
    obtain ⟨k, hk, rfl, HK⟩ := hrel
    clear S0
    obtain ⟨wo, rfl⟩ : ∃ wo, wo = wr := ⟨_, rfl⟩
    have cb : wo.cell? ⟨w.heap.size, 1, none⟩ = some (.slice a len c) := (X.out.2.2.1.below X.out.2.2.2 HK.out.2.2).cell 1 rfl
    by_cases hlt : k < len
    · have hkl : k < r.lists.length := by rw [Hlen.out]; exact hlt
      have RO := X.out.1.below HK.out.2.2
      obtain ⟨b, off, ak, ck, ha, hb, hc, -, -⟩ := X.out.1 k hkl
      subst ha
      have hc' : wo.cell? ⟨b, off + k, none⟩ = some (.slice ak (izAt r.lists k).length ck) := by rw [HK.out.2.2.cell (p := ⟨b, off + k, none⟩) hb]; exact hc
      have HC : Hid (∀ wx, Below W.heap.size W wx → wx.cell? ⟨b, off + k, none⟩ = some (.slice ak (izAt r.lists k).length ck) ∧ ItsAt wx ak (izAt r.lists k) ∧ wx.cell? ⟨w.heap.size, 1, none⟩ = some (.slice (some ⟨b, off, none⟩) len c) ∧ wx.cell? ⟨w.heap.size, 0, none⟩ = some (.int .i64 f)) := fun wx g => by
        obtain ⟨b', off', ak', ck', ha', hb', hc1, hr1, -⟩ := X.out.1 k hkl
        cases ha'
        rw [hc1] at hc
        cases hc
        exact ⟨by rw [g.cell (p := ⟨b, off + k, none⟩) hb]; exact hc1, hr1.below g, (X.out.2.2.1.below X.out.2.2.2 g).cell 1 rfl, (X.out.2.2.1.below X.out.2.2.2 g).cell 0 rfl⟩
      have hl := Long.out k hlt
      have hnx : r.pre (k + 1) 0 = r.pre k (izAt r.lists k).length := pre_next hkl
      obtain ⟨n, hnl⟩ : ∃ n, (izAt r.lists k).length = n := ⟨_, rfl⟩
      rw [hnl] at hc' HC hl hnx
      have Hnl : Hid ((izAt r.lists k).length = n) := hnl
      have Hnx : Hid (r.pre (k + 1) 0 = r.pre k n) := hnx
      clear hnl hnx RO hc
      by_cases h200 : 200 < n
      · have er := hl h200
        subst er
        have h200' : (200 : Int) < n := by omega
        go_wp2
        go_ret
        exact ⟨rfl, X.out.2.1.trans (HK.out.2.2.mono X.out.2.1.size)⟩
      have h200' : ¬ (200 : Int) < n := by omega
      clear hl
      go_wp2
      go_loopw [3, 5, 6] (fun v j _ wr => ∃ q : Nat, q ≤ n ∧ j = .int .i64 q ∧ Hid (IRow W.heap.size wr v ((r.pre k q).map It.id) ∧ goodIts f (r.pre k q) ∧ Below W.heap.size W wr)) (fun _ j _ _ => n - (intOf j).toNat)
      case atStart => exact ⟨0, Nat.zero_le _, rfl, HK.out⟩
      case round =>
        obtain ⟨q, hq, rfl, HQ⟩ := hrel
        clear HK cb hc'
        obtain ⟨ce, cr, cb, cf⟩ := HC.out _ HQ.out.2.2
        by_cases hql : q < n
        · have hqn : q < (izAt r.lists k).length := by rw [Hnl.out]; exact hql
          obtain ⟨b2, off2, ha2, hb2, -⟩ := cr q hqn
          subst ha2
          obtain ⟨e0, e1, e2⟩ := cr.cells hqn
          have hs : r.pre k (q + 1) = r.pre k q ++ [itAt (izAt r.lists k) q] := pre_step hqn
          have Hg := fun g => goodIts.one (x := itAt (izAt r.lists k) q) (a := r.pre k q) (most := f) g
          rw [← hs] at Hg
          have IC := fun w => (specItem (itAt (izAt r.lists k) q) w).mono (R' := fun e w' => e = .returned (.bool (itAt (izAt r.lists k) q).ok) ∧ Below w.heap.size w w') fun _ _ h => ⟨h.1, by rw [h.2]; exact (Below.refl _ _).alloc (Nat.le_refl _) _⟩
          generalize itAt (izAt r.lists k) q = x at e0 e1 e2 hs Hg IC
          have Hs : Hid (r.pre k (q + 1) = r.pre k q ++ [x]) := hs
          have HG : Hid (goodIts f (r.pre k (q + 1)) ↔ x.ok = true ∧ x.id ∉ (r.pre k q).map It.id ∧ ((r.pre k q).length : Int) < f) := Hg HQ.out.2.1
          have Hxid : Hid ((r.pre k (q + 1)).map It.id = (r.pre k q).map It.id ++ [x.id]) := by rw [hs]; exact List.map_append ..
          have hlq : ((r.pre k q).length : Int) ≤ 200 := by have := HQ.out.2.1.2.2; omega
          obtain ⟨av, cv, hv⟩ := HQ.out.1.shape
          rw [List.length_map] at hv
          have HC2 := fun w h => specHasI av cv ((r.pre k q).map It.id) x.id w (by rw [List.length_map]; omega) h
          rw [List.length_map] at HC2
          generalize hok : x.ok = ok at IC HG
          generalize hhas : decide (x.id ∈ (r.pre k q).map It.id) = has at HC2
          obtain ⟨m, hm⟩ : ∃ m, (r.pre k q).length = m := ⟨_, rfl⟩
          rw [hm] at hv HC2 HG hlq
          have Hm : Hid ((r.pre k q).length = m) := hm
          obtain ⟨x0, x1, x2⟩ := x
          simp only [It.val] at e0 e1 e2 IC HC2 HG Hs Hxid hhas hok
          have Hhas : Hid (decide (x0 ∈ (r.pre k q).map It.id) = has) := hhas
          subst hv
          have HC2' : Hid _ := HC2
          have IC' : Hid _ := IC
          clear hs Hg cr hm HC2 IC hhas hok
          have Y : Hid (Boxed (wr.alloc (.cells #[.int .i64 x0, .int .i64 x1, .int .i64 x2] 52)) wr.heap.size #[.int .i64 x0, .int .i64 x1, .int .i64 x2] 52 ∧ Below wr.heap.size wr (wr.alloc (.cells #[.int .i64 x0, .int .i64 x1, .int .i64 x2] 52))) := ⟨Boxed.new _ _ _, (Below.refl _ _).alloc (Nat.le_refl _) _⟩
          go_wp2_with fail
          refine (IC'.out _).mono ?_
          rintro e w2 ⟨rfl, g2⟩
          have Y2 : Hid (Boxed w2 wr.heap.size #[.int .i64 x0, .int .i64 x1, .int .i64 x2] 52 ∧ Below wr.heap.size wr w2) := ⟨Y.out.1.below Y.out.1.under g2, Y.out.2.trans (g2.mono Y.out.2.size)⟩
          clear g2 Y e0 e1 e2 ce cb cf
          cases ok
          · have er := No.out k (q + 1) hlt (fun g => by have := (HG.out.1 g).1; cases this)
            subst er
            go_wp2
            go_ret
            exact ⟨rfl, X.out.2.1.trans ((HQ.out.2.2.trans (Y2.out.2.mono HQ.out.2.2.size)).mono X.out.2.1.size)⟩
          have Q2 : Hid (IRow W.heap.size w2 (.slice av m cv) ((r.pre k q).map It.id) ∧ Below W.heap.size W w2) := ⟨HQ.out.1.below (fun y hy => (HQ.out.1.lt y hy).2) Y2.out.2, HQ.out.2.2.trans (Y2.out.2.mono HQ.out.2.2.size)⟩
          obtain ⟨-, -, cb, cf⟩ := HC.out _ Q2.out.2
          have d0 : w2.cell? ⟨wr.heap.size, 0, none⟩ = some (.int .i64 x0) := Y2.out.1.cell 0 rfl
          have hi2 : IntsAt w2 av ((r.pre k q).map It.id) := by
            have := Q2.out.1
            rw [← Hm.out, ← List.length_map (f := It.id)] at this
            exact this.ints
          have Hi2 : Hid _ := hi2
          clear hi2
          go_wp2_with fail
          refine (HC2'.out _ Hi2.out).mono ?_
          rintro e w3 ⟨rfl, hw3⟩
          have hw3 := hw3.symm
          subst hw3
          cases has
          case true =>
            have er := No.out k (q + 1) hlt (fun g => (HG.out.1 g).2.1 (of_decide_eq_true Hhas.out))
            subst er
            go_wp2
            go_ret
            exact ⟨rfl, X.out.2.1.trans (Q2.out.2.mono X.out.2.1.size)⟩
          by_cases hmf : (m : Int) = f
          · have er := No.out k (q + 1) hlt (fun g => by have := (HG.out.1 g).2.2; omega)
            subst er
            have hmf' : f = (m : Int) := hmf.symm
            subst hmf'
            go_wp2
            go_ret
            exact ⟨rfl, X.out.2.1.trans (Q2.out.2.mono X.out.2.1.size)⟩
          · have HG2 : Hid (goodIts f (r.pre k (q + 1))) := HG.out.2 ⟨by first | exact trivial | exact rfl, of_decide_eq_false Hhas.out, by
              have := HQ.out.2.1.2.2
              have := Hm.out
              omega⟩
            have hsz := Q2.out.2.size
            go_wp2_with (at_builtin; refine row_iapp1 rfl (.tmp 72) (.tmp 75) rfl W.heap.size _ ((r.pre k q).map It.id) x0 rfl Q2.out.1 rfl ?_ ?_ ?_)
            · rw [List.length_map, Hm.out]; omega
            · exact hsz
            · intro v' w4 hr4 hb4
              have H4 : Hid (IRow W.heap.size w4 v' ((r.pre k (q + 1)).map It.id) ∧ goodIts f (r.pre k (q + 1)) ∧ Below W.heap.size W w4) := ⟨by rw [Hxid.out]; exact hr4, HG2.out, Q2.out.2.trans hb4⟩
              clear hr4 hb4
              go_wp2
              go_roundw
              case rel => exact ⟨q + 1, by omega, by go_num, H4⟩
              case measure => simp [intOf]; omega
        · obtain rfl : q = n := by omega
          go_wp2
          go_roundw
          case rel =>
            refine ⟨k + 1, by omega, by go_num, ?_⟩
            show IRow _ _ _ _ ∧ _ ∧ _
            rw [Hnx.out]
            exact HQ.out
          case measure => simp [intOf]; omega
    · obtain rfl : k = len := by omega
      have er := Yes.out HK.out.2.1
      subst er
      go_wp2
      go_ret
      exact ⟨rfl, X.out.2.1.trans (HK.out.2.2.mono X.out.2.1.size)⟩
end Go.Proofs.YtgebghkcikmfaaaGreatDoor

/-
  The walk of the model's copy of rows. By the verifier.
-/
namespace Go.Proofs.YtgebghkcikmfaaaGreatDoor
open Go.RowKit

/-- What lies while rows are copied: so many lists, the rows that are made, the answer's variable, what came in. -/
structure CpR (w : World) (f : Int) (a : Option Addr) (n c : Nat) (ls : List (List It)) (k : Nat) (v : Value) (vs : List Value) (wr : World) : Prop where
  g : IzG (w.heap.size + 3) v vs (ls.take k) wr
  out : Boxed wr (w.heap.size + 1 + 1) #[.int .i64 f, v] 44
  res : Boxed wr (w.heap.size + 1) #[.int .i64 0, .slice none 0 0] 44
  box : Boxed wr w.heap.size #[.int .i64 f, .slice a n c] 44
  bel : Below w.heap.size w wr
/-- One list more. -/
theorem CpR.add {w : World} {f : Int} {a : Option Addr} {n c : Nat} {ls : List (List It)} {k : Nat} {v v' u : Value} {vs : List Value} {wr wd wx : World} (h : CpR w f a n c ls k v vs wr) (hk : k < ls.length) (g1 : Below wr.heap.size wr wd) (hu : ItRow wr.heap.size wd u (izAt ls k))
    (ho : wx.ownsRow (w.heap.size + 3) 111 1 v' (k + 1) (vs ++ [u])) (g2 : ∀ y, v.ownBlock ≠ some y → y < wd.heap.size → wx.heap[y]? = wd.heap[y]?) (g3 : Below (w.heap.size + 3) wd wx) :
    CpR w f a n c ls (k + 1) v' (vs ++ [u]) (wx.setCell ⟨w.heap.size + 1 + 1, 1, none⟩ v') := by
  have hs := h.out.under
  have hlk : (ls.take k).length = k := by simp; omega
  have e : ls.take (k + 1) = ls.take k ++ [izAt ls k] := by rw [List.take_succ_eq_append_getElem hk, izAt_lt hk]
  have hg : IzG (w.heap.size + 3) v' (vs ++ [u]) (ls.take (k + 1)) wx := by
    rw [e]
    exact h.g.add (by omega) g1 hu (by rw [hlk]; exact ho) g2
  have b1 : ∀ y, y < w.heap.size + 3 → wx.heap[y]? = wr.heap[y]? := fun y hy => (g3.block y hy).trans (g1.block y (by omega))
  have oth : ∀ y, y ≠ w.heap.size + 1 + 1 → (wx.setCell ⟨w.heap.size + 1 + 1, 1, none⟩ v').heap[y]? = wx.heap[y]? := fun y hy => Below.heap_setCell _ _ _ _ hy
  have o1 : Boxed wx (w.heap.size + 1 + 1) #[.int .i64 f, v] 44 := (b1 _ (by omega)).trans h.out
  refine ⟨hg.other fun y hy _ => oth y (by omega), o1.put 1 v', ?_, ?_, ?_⟩
  · exact (oth _ (by omega)).trans ((b1 _ (by omega)).trans h.res)
  · exact (oth _ (by omega)).trans ((b1 _ (by omega)).trans h.box)
  · exact (h.bel.trans ((g1.mono h.bel.size).trans (g3.mono (by omega)))).setCell (by show w.heap.size ≤ w.heap.size + 1 + 1; omega) _

set_option maxHeartbeats 6400000 in
set_option maxRecDepth 100000 in
theorem specCopy (r : Rw) (a : Option Addr) (c : Nat) (w : World) (hB : r.big ≤ 1048576) (h : Hid (IzAt w a r.lists)) :
    Calls Tryz.prog 75 #[r.val a c] w fun e w' => (∃ v vs, e = .returned (.agg #[.int .i64 r.most, v]) ∧ IzG (w.heap.size + 3) v vs r.lists w') ∧ Below w.heap.size w w' := by
  obtain ⟨hT, -, hin⟩ := Rw.small hB
  obtain ⟨f, ls⟩ := r
  simp only [Rw.val] at h hT hin ⊢
  clear hB
  have Hin : Hid (∀ k, k < ls.length → (izAt ls k).length ≤ 1048576) := hin
  obtain ⟨n, hn⟩ : ∃ n, ls.length = n := ⟨_, rfl⟩
  rw [hn] at hT ⊢
  have Hn : Hid (ls.length = n) := hn
  clear hn hin
  obtain ⟨W, hW⟩ : ∃ W, W = ((w.alloc (.cells #[.int .i64 f, .slice a n c] 44)).alloc (.cells #[.int .i64 0, .slice none 0 0] 44)).alloc (.cells #[.int .i64 f, .slice none 0 0] 44) := ⟨_, rfl⟩
  have X : Hid (CpR w f a n c ls 0 (.slice none 0 0) [] W) := by
    rw [hW]
    refine ⟨by rw [List.take_zero]; exact IzG.nil _ _, ?_, ?_, ((Boxed.new w _ _).more _).more _, (((Below.refl _ _).alloc (Nat.le_refl _) _).alloc (by simp) _).alloc (by simp; omega) _⟩
    · have := Boxed.new ((w.alloc (.cells #[.int .i64 f, .slice a n c] 44)).alloc (.cells #[.int .i64 0, .slice none 0 0] 44)) #[.int .i64 f, .slice none 0 0] 44
      simpa using this
    · have := (Boxed.new (w.alloc (.cells #[.int .i64 f, .slice a n c] 44)) #[.int .i64 0, .slice none 0 0] 44).more (.cells #[.int .i64 f, .slice none 0 0] 44)
      simpa using this
  have HW : Hid (W = _) := hW
  clear hW
  go_enter Tryz.func75, Tryz.ntmps75
  go_wp2
  rw [← HW.out]
  go_loopw [4] (fun i wr => ∃ k : Nat, k ≤ n ∧ i = .int .i64 k ∧ Hid (∃ v vs, CpR w f a n c ls k v vs wr)) (fun i _ => n - (intOf i).toNat)
  case atStart => exact ⟨0, Nat.zero_le _, rfl, _, _, X.out⟩
  case round =>
    obtain ⟨k, hk, rfl, HE⟩ := hrel
    obtain ⟨v, vs, H1⟩ : ∃ v vs, Hid (CpR w f a n c ls k v vs wr) := HE.out
    clear X HE
    have c1 : wr.cell? ⟨w.heap.size, 1, none⟩ = some (.slice a n c) := H1.out.box.cell 1 rfl
    by_cases hlt : k < n
    · have hkl : k < ls.length := by rw [Hn.out]; exact hlt
      obtain ⟨b, off, ak, ck, ha, hb, hc, hr, hcap, hnil⟩ := (h.out.below H1.out.bel) k hkl
      subst ha
      have hm := Hin.out k hkl
      have d1 : wr.cell? ⟨w.heap.size + 1 + 1, 1, none⟩ = some v := H1.out.out.cell 1 rfl
      have z1 := H1.out.out.ice 1
      have Hr : Hid (ItsAt wr ak (izAt ls k)) := hr
      have Add : Hid (∀ u v' wd wx, Below wr.heap.size wr wd → ItRow wr.heap.size wd u (izAt ls k) → wx.ownsRow (w.heap.size + 3) 111 1 v' (k + 1) (vs ++ [u]) → (∀ y, v.ownBlock ≠ some y → y < wd.heap.size → wx.heap[y]? = wd.heap[y]?) → Below (w.heap.size + 3) wd wx → CpR w f (some ⟨b, off, none⟩) n c ls (k + 1) v' (vs ++ [u]) (wx.setCell ⟨w.heap.size + 1 + 1, 1, none⟩ v')) := fun u v' wd wx q1 q2 q3 q4 q5 => H1.out.add hkl q1 q2 q3 q4 q5
      have Out : Hid (wr.ownsRow (w.heap.size + 3) 111 1 v k vs ∧ w.heap.size + 3 ≤ wr.heap.size) := ⟨by have := H1.out.g.outer; rw [List.length_take, Nat.min_eq_left (by omega)] at this; exact this, H1.out.out.under⟩
      generalize izAt ls k = l at hc Hr hm Add hr hcap
      obtain ⟨m, hml⟩ : ∃ m, l.length = m := ⟨_, rfl⟩
      rw [hml] at hc hm hcap
      have Hml : Hid (l.length = m) := hml
      have l2 : w.heap.size + 1 + 1 < wr.heap.size := H1.out.out.under
      have l0 : w.heap.size < wr.heap.size := by omega
      clear hr hml
      go_wp2_with fail
      go_region_law (first | (refine it_step_app rfl (.tmp 17) (.tmp 22) rfl wr.heap.size (.slice (some ⟨wr.heap.size, 0, none⟩) 0 0) [] ak m ck l Hml.out rfl rfl (it_built _ _ (Nat.le_refl _)) (Hr.out.alloc _) hnil (by rw [Hml.out]; simp; omega) (by simp) ?_; intro u w2 q1 q2 q3 q4; have q5 : ItRow wr.heap.size w2 u l := (by simpa using q1); obtain ⟨ux, uc, eu⟩ := q5.shape; rw [Hml.out] at eu; subst eu; have U : Hid (ItRow wr.heap.size w2 (.slice ux m uc) l ∧ Below wr.heap.size wr w2) := ⟨q5, ((Below.refl _ wr).drew.alloc (Nat.le_refl _) _).trans q2⟩; have hs2 : w.heap.size + 3 ≤ w2.heap.size := Nat.le_trans Out.out.2 U.out.2.size; have l3 : w.heap.size + 1 + 1 < w2.heap.size := (by omega); have O2 : Hid (w2.ownsRow (w.heap.size + 3) 111 1 v k vs) := rows_carry Out.out.1 (fun y _ hy => U.out.2.block y hy); have d2 : w2.cell? ⟨w.heap.size + 1 + 1, 1, none⟩ = some v := ((H1.out.out.below (by omega) U.out.2).cell 1 rfl); have z2 := ((H1.out.out.below l2 U.out.2).ice 1); clear q1 q2 q3 q4 q5) | (refine iz_step_one rfl (.tmp 16) (.tmp 24) rfl (w.heap.size + 3) v k vs (.slice ux m uc) rfl rfl rfl O2.out rfl rfl (by omega) hs2 ?_; intro v' w3 q1 q2 q3; obtain ⟨vx, vc, ev⟩ := rows_shape q1; subst ev; have R3 : Hid (CpR w f (some ⟨b, off, none⟩) n c ls (k + 1) (.slice vx (k + 1) vc) (vs ++ [.slice ux m uc]) (w3.setCell ⟨w.heap.size + 1 + 1, 1, none⟩ (.slice vx (k + 1) vc))) := Add.out (.slice ux m uc) _ w2 w3 U.out.2 U.out.1 q1 q3 q2; have d3 : ∃ y, w3.cell? ⟨w.heap.size + 1 + 1, 1, none⟩ = some y := ⟨v, by rw [q2.cell (p := ⟨w.heap.size + 1 + 1, 1, none⟩) (by simp)]; exact d2⟩; obtain ⟨y3, d3⟩ := d3; have z3 : w3.frozen? ⟨w.heap.size + 1 + 1, 1, none⟩ = false := (by rw [ice_kept (q2.block (w.heap.size + 1 + 1) (by omega))]; exact z2); clear q1 q2 q3))
      all_goals (
        go_wp2
        go_roundw
        case rel => exact ⟨k + 1, by omega, by go_num, _, _, R3.out⟩
        case measure => simp [intOf]; omega)
    · obtain rfl : k = n := by omega
      have e : ls.take k = ls := List.take_of_length_le (by rw [Hn.out]; exact Nat.le_refl _)
      have HG : Hid (IzG (w.heap.size + 3) v vs ls wr) := by have := H1.out.g; rw [e] at this; exact this
      obtain ⟨vx, vc, ev⟩ := rows_shape H1.out.g.outer
      clear e
      subst ev
      go_wp2_with (first | (refine wpList_load_row rfl 44 (.tmp 3) rfl (w.heap.size + 1 + 1) rfl _ _ _ _ H1.out.out Tryz.underlying44 rfl (by kernel_rfl) ?_) | (refine wpList_store_row rfl 44 (.tmp 2) (.tmp 27) rfl (w.heap.size + 1) _ rfl rfl _ _ H1.out.res (by kernel_rfl) rfl (by simp [Value.oneCell']) ?_))
      refine bodyPost_ret (results_cell_row Tryz.results75 _ _ (w.heap.size + 1) _ _ _ _ rfl (setRow_heap _ (w.heap.size + 1) _ _ _ _ H1.out.res) Tryz.underlying44 rfl (by kernel_rfl)) rfl ⟨⟨_, vs, rfl, HG.out.other fun y hy _ => setRow_other _ _ _ _ (by omega)⟩, below_setRow H1.out.bel (by omega) _⟩
end Go.Proofs.YtgebghkcikmfaaaGreatDoor
