/-
  The model's drawing of rows. By the verifier.
-/
import Derived.Test.YtleokmnhhhhcjaaRwDr
import Derived.Test.YtleokmnhhhhcjaaStepRow
import Derived.Test.YtleokmnhhhhcjaaRegList
import Derived.Test.YtleokmnhhhhcjaaItWhere
import Derived.BigQuiet
import Derived.Deep.DeepCutAuto
import Derived.Deep.RegionLaw
namespace Go.Proofs.Ytleokmnhhhhcjaa
open Go.RowKit

theorem sum_set {xs : List Nat} {j : Nat} (hj : j < xs.length) (v : Nat) : (xs.set j v).sum + xs[j] = xs.sum + v := by
  induction xs generalizing j with
  | nil => simp at hj
  | cons x xs ih =>
    cases j with
    | zero => simp; omega
    | succ j =>
      have := ih (j := j) (by simpa using hj)
      simp at this ⊢
      omega
theorem izSum_all (ls : List (List It)) : izSum ls ls.length = (ls.map List.length).sum := by unfold izSum; rw [List.take_length]
theorem izSum_set {ls : List (List It)} {j : Nat} (hj : j < ls.length) (x : It) : izSum (ls.set j (izAt ls j ++ [x])) (ls.set j (izAt ls j ++ [x])).length = izSum ls ls.length + 1 := by
  rw [izSum_all, izSum_all, List.map_set]
  have := sum_set (xs := ls.map List.length) (j := j) (by simpa using hj) (izAt ls j ++ [x]).length
  rw [List.getElem_map, List.length_append, List.length_singleton, izAt_lt hj] at this
  rw [izAt_lt hj, List.length_append, List.length_singleton]
  omega
theorem izSum_made (n : Nat) : izSum (List.replicate n ([] : List It)) (List.replicate n ([] : List It)).length = 0 := by
  rw [izSum_all, List.map_replicate]
  simp
theorem rowsMake (n : Nat) (hn : n ≤ 1000) (wx : World) : (Instr.makeSlice 24 (.int .i64 (n : Int)) (.int .i64 (n : Int))).run Try.prog wx = .ok (.slice (some ⟨wx.heap.size, 0, none⟩) n n) (wx.alloc (.cells (madeCells #[.slice none 0 0] (n * 1)) 41)) := by
  obtain ⟨i0, hi, hz0, hz1, hz2⟩ := info_parts izInfo
  have := run_make (P := Try.prog) wx 24 41 i0 (.slice none 0 0) Try.underlying24 hi hz0 .i64 .i64 n n (by omega) (by omega) (by rw [hz2]; omega) (by omega)
  rw [this, hz1]; simp [Value.cells]

set_option maxHeartbeats 12800000 in
set_option maxRecDepth 100000 in
theorem drawRows {W : World} {bc : Nat} {a : Option Addr} {len cap : Nat} (hc : Hid (Code W a len)) (w : World) (cur : Hid (Cur W bc a len cap w)) :
    Calls Try.prog 20 #[.pointer (some ⟨bc, 0, none⟩)] w fun e w' => (∃ v r, e = .returned v ∧ RwIn w.heap.size w'.heap.size w' v r ∧ r.big ≤ 100) ∧ Cur W bc a len cap w' ∧ Keep bc w w' := by
  have hbc := cur.out.lt
  go_enter Try.func20, Try.ntmps20
  go_wp2_with fail
  refine (drawBelow hc 9 (by omega) _ (cur.out.alloc _)).mono ?_
  rintro e w1 ⟨⟨x, rfl, x0, x1⟩, c1, k1⟩
  have H1 : Hid (Cur W bc a len cap w1 ∧ Keep bc (w.alloc (.cells #[.int .i64 0, .slice none 0 0] 26)) w1) := ⟨c1, k1⟩
  clear c1 k1
  go_wp2_with fail
  refine (drawBelow hc 4 (by omega) _ H1.out.1).mono ?_
  rintro e w2 ⟨⟨y, rfl, y0, y1⟩, c2, k2⟩
  obtain ⟨j, rfl⟩ := Int.eq_ofNat_of_zero_le y0
  have hmk : ∀ wx, (Instr.makeSlice 24 (.int .i64 (1 + (j : Int))) (.int .i64 (1 + (j : Int)))).run Try.prog wx = .ok (.slice (some ⟨wx.heap.size, 0, none⟩) (1 + j) (1 + j)) (wx.alloc (.cells (madeCells #[.slice none 0 0] (1 + j)) 41)) := fun wx => by
    have := rowsMake (1 + j) (by omega) wx
    rw [Nat.mul_one] at this
    rw [show (1 + (j : Int)) = ((1 + j : Nat) : Int) by simp]
    exact this
  have hs2 : w.heap.size < w2.heap.size := by have := H1.out.2.size; have := k2.size; simp at *; omega
  have kk : Keep bc (w.alloc (.cells #[.int .i64 0, .slice none 0 0] 26)) w2 := H1.out.2.trans k2
  obtain ⟨wm, hwm⟩ : ∃ wm, wm = w2.alloc (.cells (madeCells #[.slice none 0 0] (1 + j)) 41) := ⟨_, rfl⟩
  have H3 : Hid (∀ k : Int, DrW W bc a len cap w (w2.heap.size + 1) k (1 + j) (some ⟨w2.heap.size, 0, none⟩) (1 + j) (List.replicate (1 + j) (.slice none 0 0)) (List.replicate (1 + j) []) (wm.alloc (.cells #[.int .i64 k, .slice (some ⟨w2.heap.size, 0, none⟩) (1 + j) (1 + j)] 26))) := by
    intro k
    have hg := izG_made w2 (1 + j) (by omega) (w.heap.size + 1) (by omega)
    rw [Nat.mul_one, ← hwm] at hg
    have hsz : wm.heap.size = w2.heap.size + 1 := by rw [hwm]; simp
    refine ⟨?_, ?_, ?_, by rw [← hsz]; exact Boxed.new _ _ _, hg.below ((Below.refl _ _).alloc (Nat.le_refl _) _), by simp, by omega, hbc⟩
    · rw [hwm]; exact (c2.alloc _).alloc _
    · rw [hwm]; exact (((((Keep.refl _ w).alloc _).trans kk).alloc _).alloc _)
    · rw [hwm]; exact ((((Boxed.new w #[.int .i64 0, .slice none 0 0] 26).keep (by omega) kk).more _).more _)
  have HM : Hid (wm = _) := hwm
  clear c2 k2 kk H1 hwm
  go_wp2_with fail
  rw [← HM.out]
  have H4 := H3.out (1 + x)
  generalize wm.alloc (.cells #[.int .i64 (1 + x), .slice (some ⟨w2.heap.size, 0, none⟩) (1 + j) (1 + j)] 26) = w3 at H4 ⊢
  have hj4 : j < 4 := by omega
  obtain ⟨n, hn⟩ : ∃ n, n = 1 + j := ⟨_, rfl⟩
  have hn0 : 1 ≤ n := by omega
  have hn1 : n ≤ 4 := by omega
  rw [← hn] at H4 ⊢
  generalize w2.heap.size + 1 = B at H4 ⊢
  generalize w2.heap.size = g at H4 ⊢
  generalize 1 + x = f at H4 ⊢
  have H5 : Hid (∃ vs ls, DrW W bc a len cap w B f n (some ⟨g, 0, none⟩) n vs ls w3 ∧ izSum ls ls.length = 0) := ⟨_, _, H4, izSum_made n⟩
  clear H4 H3 HM hmk hn hj4
  obtain ⟨vs0, ls0, H6⟩ : ∃ vs ls, Hid (DrW W bc a len cap w B f n (some ⟨g, 0, none⟩) n vs ls w3 ∧ izSum ls ls.length = 0) := H5.out
  clear H5
  refine (drawBelow hc 9 (by omega) _ H6.out.1.cur).mono ?_
  rintro e w4 ⟨⟨q, rfl, q0, q1⟩, c4, k4⟩
  obtain ⟨k, rfl⟩ := Int.eq_ofNat_of_zero_le q0
  have H7 : Hid (∃ vs ls, DrW W bc a len cap w B f n (some ⟨g, 0, none⟩) n vs ls w4 ∧ izSum ls ls.length + k ≤ 9) := ⟨_, _, H6.out.1.draw c4 k4, by have := H6.out.2; omega⟩
  clear c4 k4 H6 q0
  go_wp2_with fail
  go_loopw [4, 5, 6] (fun s _ _ wr => ∃ k : Nat, k ≤ 9 ∧ s = .int .i64 k ∧ Hid (∃ vs ls, DrW W bc a len cap w B f n (some ⟨g, 0, none⟩) n vs ls wr ∧ izSum ls ls.length + k ≤ 9)) (fun s _ _ _ => (intOf s).toNat)
  case atStart => exact ⟨k, by omega, rfl, H7.out⟩
  case round =>
    obtain ⟨k', hk9, rfl, HE⟩ := hrel
    obtain ⟨vs, ls, HR⟩ : ∃ vs ls, Hid (DrW W bc a len cap w B f n (some ⟨g, 0, none⟩) n vs ls wr ∧ izSum ls ls.length + k' ≤ 9) := HE.out
    clear HE H7
    obtain ⟨k, rfl⟩ : ∃ k, k = k' := ⟨_, rfl⟩
    by_cases hk : k = 0
    · subst hk
      go_wp2_with fail
      refine (drawOnce hc 14 (by omega) _ HR.out.1.cur).mono ?_
      rintro e w9 ⟨⟨bo, rfl⟩, c9, k9⟩
      have X9 : Hid (DrW W bc a len cap w B f n (some ⟨g, 0, none⟩) n vs ls w9 ∧ (izSum ls ls.length ≤ 10 ∧ n ≤ 17)) := ⟨HR.out.1.draw c9 k9, by have := HR.out.2; omega, by omega⟩
      clear c9 k9 HR
      cases bo
      · go_wp2_with (first | (refine wpList_load_row rfl 26 (.tmp 3) rfl B rfl _ _ _ _ X9.out.1.out Try.underlying26 rfl (by kernel_rfl) ?_) | (refine wpList_store_row rfl 26 (.tmp 2) (.tmp 90) rfl w.heap.size _ rfl rfl _ _ X9.out.1.res (by kernel_rfl) rfl (by simp [Value.oneCell']) ?_))
        exact bodyPost_ret (results_cell_row Try.results20 _ _ w.heap.size _ _ _ _ rfl (setRow_heap _ w.heap.size _ _ _ _ X9.out.1.res) Try.underlying26 rfl (by kernel_rfl)) rfl ⟨⟨_, _, rfl, X9.out.1.done.1, by unfold Rw.big; have := X9.out.1.hn; have := X9.out.2; simp only; omega⟩, X9.out.1.done.2⟩
      go_wp2_with fail
      refine (drawBelow hc 3 (by omega) _ X9.out.1.cur).mono ?_
      rintro e wa ⟨⟨q, rfl, qq0, qq1⟩, ca, ka⟩
      have XA : Hid (DrW W bc a len cap w B f n (some ⟨g, 0, none⟩) n vs ls wa ∧ (izSum ls ls.length ≤ 10 ∧ n ≤ 17)) := ⟨X9.out.1.draw ca ka, X9.out.2⟩
      clear ca ka X9
      have hq : q = 0 ∨ q = 1 ∨ q = 2 := by omega
      clear qq0 qq1
      rcases hq with rfl | rfl | rfl
      · go_wp2_with fail
        refine (drawBelow hc 4 (by omega) _ (XA.out.1.cur.alloc _)).mono ?_
        rintro e wt ⟨⟨y8, rfl, yy0, yy1⟩, ct, kt⟩
        obtain ⟨jt, rfl⟩ := Int.eq_ofNat_of_zero_le yy0
        have hj := tab [0, 1, 200, 201] _ _ rfl XA.out.1.cur.ne kt jt (by simp; omega)
        have HT : Hid (DrW W bc a len cap w B f n (some ⟨g, 0, none⟩) n vs ls wt ∧ (izSum ls ls.length ≤ 10 ∧ n ≤ 17)) := ⟨(XA.out.1.below ((Below.refl _ _).alloc (Nat.le_refl _) _)).draw ct kt, XA.out.2⟩
        clear ct kt XA
        generalize ([0, 1, 200, 201] : List Int)[jt]?.getD 0 = z at hj
        have c1 : wt.cell? ⟨B, 0, none⟩ = some (.int .i64 f) := HT.out.1.out.cell 0 rfl
        have i1 := HT.out.1.out.ice 0
        go_upto_region 17 with fail
        clear c1 i1 hj
        have d1 := HT.out.1.most (z := z)
        generalize wt.setCell ⟨B, 0, none⟩ (.int .i64 z) = wu at d1 ⊢
        have HF : Hid (DrW W bc a len cap w B z n (some ⟨g, 0, none⟩) n vs ls wu ∧ (izSum ls ls.length ≤ 10 ∧ n ≤ 17)) := ⟨d1, HT.out.2⟩
        clear d1 HT
        go_wp2_with (first | (refine wpList_load_row rfl 26 (.tmp 3) rfl B rfl _ _ _ _ HF.out.1.out Try.underlying26 rfl (by kernel_rfl) ?_) | (refine wpList_store_row rfl 26 (.tmp 2) (.tmp 90) rfl w.heap.size _ rfl rfl _ _ HF.out.1.res (by kernel_rfl) rfl (by simp [Value.oneCell']) ?_))
        exact bodyPost_ret (results_cell_row Try.results20 _ _ w.heap.size _ _ _ _ rfl (setRow_heap _ w.heap.size _ _ _ _ HF.out.1.res) Try.underlying26 rfl (by kernel_rfl)) rfl ⟨⟨_, _, rfl, HF.out.1.done.1, by unfold Rw.big; have := HF.out.1.hn; have := HF.out.2; simp only; omega⟩, HF.out.1.done.2⟩
      · have hl0 : 0 < ls.length := by rw [XA.out.1.hn]; omega
        obtain ⟨ux, uc, eu⟩ := (XA.out.1.g.row 0 hl0).shape
        have Prep : Hid (∀ w8, DrW W bc a len cap w B f n (some ⟨g, 0, none⟩) n vs ls w8 → ItRow (w.heap.size + 1) w8 (izV vs 0) (izAt ls 0) ∧ w8.cell? ⟨g, 0, none⟩ = some (izV vs 0) ∧ w8.frozen? ⟨g, 0, none⟩ = false ∧ w8.cell? ⟨B, 1, none⟩ = some (.slice (some ⟨g, 0, none⟩) n n) ∧ g < w8.heap.size ∧ B < w8.heap.size ∧ w.heap.size + 1 ≤ w8.heap.size ∧ ∀ i u w2, ItRow (w.heap.size + 1) w2 u (izAt ls 0 ++ [i]) → Below (w.heap.size + 1) w8 w2 → (∀ k, (izV vs 0).ownBlock ≠ some k → k < w8.heap.size → w2.heap[k]? = w8.heap[k]?) → (∀ k, u.ownBlock = some k → (izV vs 0).ownBlock = some k ∨ w8.heap.size ≤ k) → (∃ vs' ls', DrW W bc a len cap w B f n (some ⟨g, 0, none⟩) n vs' ls' (w2.setCell ⟨g, 0, none⟩ u) ∧ (izSum ls' ls'.length ≤ 11 ∧ n ≤ 17)) ∧ w2.heap[g]? = w8.heap[g]? ∧ w2.heap[B]? = w8.heap[B]?) := fun w8 h8 => by
          have hout : w8.ownsRow (w.heap.size + 1) 41 1 (.slice (some ⟨g, 0, none⟩) n n) n vs := by
            have h1 := h8.g.outer
            rw [h8.hn] at h1
            exact h1
          have hgl := (World.ownsRow.lt h8.g.outer g rfl).2
          have hrow := h8.g.row 0 hl0
          have hBl := h8.out.under
          have hlt := h8.lt
          refine ⟨hrow, ?_, hout.frozenAt 0, h8.out.cell 1 rfl, hgl, hBl, by omega, fun i u w2 q1 q2 q3 q4 => ⟨⟨_, _, h8.set hl0 q1 q2 q3 q4, by rw [izSum_set hl0]; have := XA.out.2; omega, XA.out.2.2⟩, q3 g (fun e => rows_unlike h8.g.outer hrow izTypes g rfl e) hgl, q3 B (h8.apart.2 0 hl0) hBl⟩⟩
          have hl := h8.g.len
          rw [hout.cellAt 0 (by omega)]
          unfold izV
          rw [List.getElem?_eq_getElem (by omega)]
          rfl
        have hl9 : (izAt ls 0).length ≤ 1048576 := by
          have h1 := izSum_one hl0
          have h2 := XA.out.2.1
          omega
        rw [eu] at Prep
        generalize izAt ls 0 = l at Prep hl9
        obtain ⟨m, hml⟩ : ∃ m, l.length = m := ⟨_, rfl⟩
        rw [hml] at Prep hl9
        have Hml : Hid (l.length = m) := hml
        have DrA : Hid (DrW W bc a len cap w B f n (some ⟨g, 0, none⟩) n vs ls wa) := XA.out.1
        clear eu hml hl0 XA
        have hn1 : (0 : Int) < (n : Int) := by omega
        have hn2 : 0 < n := by omega
        have Rd : ∀ (L : Nat → Bool) (y : Value) (x : World), (fun (L : Nat → Bool) (y : Value) (x : World) => (L 11 = true → ∃ vs' ls', DrW W bc a len cap w B f n (some ⟨g, 0, none⟩) n vs' ls' x ∧ (izSum ls' ls'.length ≤ 11 ∧ n ≤ 17)) ∧ (L 9 = true → L 11 = false → ∃ i x0, DrW W bc a len cap w B f n (some ⟨g, 0, none⟩) n vs ls x0 ∧ ItRow (w.heap.size + 1) x y (l ++ [i]) ∧ Below (w.heap.size + 1) x0 x ∧ (∀ k, (Value.slice ux m uc).ownBlock ≠ some k → k < x0.heap.size → x.heap[k]? = x0.heap[k]?) ∧ (∀ k, y.ownBlock = some k → (Value.slice ux m uc).ownBlock = some k ∨ x0.heap.size ≤ k)) ∧ (L 9 = false → DrW W bc a len cap w B f n (some ⟨g, 0, none⟩) n vs ls x)) L y x → L 11 = false → x.cell? ⟨B, 1, none⟩ = some (.slice (some ⟨g, 0, none⟩) n n) := by
          intro L y x hI h11
          cases h9 : L 9 with
          | false => exact (Prep.out _ (hI.2.2 h9)).2.2.2.1
          | true =>
            obtain ⟨i, x0, h0, h1, h2, h3, h4⟩ := hI.2.1 h9 h11
            have q := Prep.out _ h0
            have q2 := (q.2.2.2.2.2.2.2 i y x h1 h2 h3 h4).2.2
            rw [cell_kept q2]
            exact q.2.2.2.1
        go_wp2_with fail
        refine region_lists (G := Value) (by kernel_rfl) (by kernel_rfl) (by kernel_rfl) (fun j => if j = 8 then 9 else 99) (fun (L : Nat → Bool) (y : Value) (x : World) => (L 11 = true → ∃ vs' ls', DrW W bc a len cap w B f n (some ⟨g, 0, none⟩) n vs' ls' x ∧ (izSum ls' ls'.length ≤ 11 ∧ n ≤ 17)) ∧ (L 9 = true → L 11 = false → ∃ i x0, DrW W bc a len cap w B f n (some ⟨g, 0, none⟩) n vs ls x0 ∧ ItRow (w.heap.size + 1) x y (l ++ [i]) ∧ Below (w.heap.size + 1) x0 x ∧ (∀ k, (Value.slice ux m uc).ownBlock ≠ some k → k < x0.heap.size → x.heap[k]? = x0.heap[k]?) ∧ (∀ k, y.ownBlock = some k → (Value.slice ux m uc).ownBlock = some k ∨ x0.heap.size ≤ k)) ∧ (L 9 = false → DrW W bc a len cap w B f n (some ⟨g, 0, none⟩) n vs ls x)) (fun i y x y' x' => (i ≠ 7 → i ≠ 9 → i ≠ 11 → Below x.heap.size x x') ∧ (i ≠ 9 → y' = y)) (fun i y x v => ([fun _ _ v => v = .pointer (some ⟨B, 1, none⟩), fun _ _ v => v = .slice (some ⟨g, 0, none⟩) n n, fun _ _ v => v = .pointer (some ⟨B, 1, none⟩), fun _ _ v => v = .slice (some ⟨g, 0, none⟩) n n, fun _ _ v => v = .pointer (some ⟨g, 0, none⟩), fun _ _ v => v = .slice ux m uc, fun _ _ v => v = .pointer (some ⟨bc, 0, none⟩), fun _ _ v => ∃ i : It, v = i.val, fun _ x v => ∃ (n8 : Nat) (i : It), v = .slice (some ⟨n8, 0, none⟩) 1 1 ∧ Boxed x n8 #[.int .i64 i.id, .int .i64 i.size, .int .i64 i.tm] 28, fun y _ v => v = y ∧ ∃ uy ud, y = .slice uy (m + 1) ud, fun _ _ v => v = .pointer (some ⟨g, 0, none⟩), fun _ _ _ => True] : List (Value → World → Value → Prop)).getD i (fun _ _ _ => True) y x v) ?hR undef ?h0 ?step ?last
        case hR =>
          intro i j y y' x x' v hi hj hne hu h1 h2 hp hr
          have hj' : j < 12 := hj
          have hcases : j = 0 ∨ j = 1 ∨ j = 2 ∨ j = 3 ∨ j = 4 ∨ j = 5 ∨ j = 6 ∨ j = 7 ∨ j = 8 ∨ j = 9 ∨ j = 10 ∨ j = 11 := by omega
          rcases hcases with rfl | rfl | rfl | rfl | rfl | rfl | rfl | rfl | rfl | rfl | rfl | rfl
          · exact hp
          · exact hp
          · exact hp
          · exact hp
          · exact hp
          · exact hp
          · exact hp
          · exact hp
          · obtain ⟨n8, i8, e, hb8⟩ := hp
            have n7 : i ≠ 7 := by rintro rfl; exact absurd (Eq.trans (by kernel_rfl) h1 : true = false) (by decide)
            have n9 : i ≠ 9 := fun e => hu e.symm
            have n11 : i ≠ 11 := by rintro rfl; exact absurd (Eq.trans (by kernel_rfl) h2 : true = false) (by decide)
            exact ⟨n8, i8, e, hb8.below hb8.under (hr.1 n7 n9 n11)⟩
          · have e := hr.2 (fun e => hne e)
            show v = y' ∧ _
            rw [e]
            exact hp
          · exact hp
          · exact hp
        case h0 => exact ⟨(fun h => by cases h), (fun h => by cases h), fun _ => DrA.out.below (Below.refl _ _).drew⟩
        case step =>
          intro i o hi ho L a' y x hLi hwt hre hkp hI hp
          have s0 : a'.tmps.getD 0 undef = .pointer (some ⟨bc, 0, none⟩) := hkp.slot 0 (by kernel_rfl)
          have s3 : a'.tmps[3]?.getD undef = .pointer (some ⟨B, 0, none⟩) := by have h2 : a'.tmps.getD 3 undef = .pointer (some ⟨B, 0, none⟩) := hkp.slot 3 (by kernel_rfl); simpa using h2
          have hi' : i < 12 := hi
          have hcases : i = 0 ∨ i = 1 ∨ i = 2 ∨ i = 3 ∨ i = 4 ∨ i = 5 ∨ i = 6 ∨ i = 7 ∨ i = 8 ∨ i = 9 ∨ i = 10 ∨ i = 11 := by omega
          rcases hcases with rfl | rfl | rfl | rfl | rfl | rfl | rfl | rfl | rfl | rfl | rfl | rfl
          · cases ho
            refine ⟨wanted_none rfl, Oper.wp_mono (K := fun a'' w'' => a'' = a'.put (some 70) (.pointer (some ⟨B, 1, none⟩)) ∧ w'' = x) ?_ ?_⟩
            · rintro _ _ ⟨rfl, rfl⟩
              exact ⟨_, y, rfl, ⟨fun _ _ _ => Below.refl _ _, fun _ => rfl⟩, hI, fun u hu => hu (fun h => by cases h)⟩
            · unfold Oper.wp
              simp [go_sem, s3]
          · cases ho
            have q0 : a'.tmps[70]?.getD undef = .pointer (some ⟨B, 1, none⟩) := by have h := hp 0 (of_decide_eq_true (by kernel_rfl)) (.inr (by decide)); have h2 : a'.tmps.getD 70 undef = .pointer (some ⟨B, 1, none⟩) := h; simpa using h2
            have hrd : x.cell? ⟨B, 1, none⟩ = some (.slice (some ⟨g, 0, none⟩) n n) := Rd L y x hI (hre 11 (by kernel_rfl))
            refine ⟨wanted_none rfl, Oper.wp_mono (K := fun a'' w'' => a'' = a'.put (some 71) (.slice (some ⟨g, 0, none⟩) n n) ∧ w'' = x) ?_ ?_⟩
            · rintro _ _ ⟨rfl, rfl⟩
              exact ⟨_, y, rfl, ⟨fun _ _ _ => Below.refl _ _, fun _ => rfl⟩, hI, fun u hu => hu (fun h => by cases h)⟩
            · unfold Oper.wp
              simp [go_sem, q0, hrd]
          · cases ho
            refine ⟨wanted_none rfl, Oper.wp_mono (K := fun a'' w'' => a'' = a'.put (some 72) (.pointer (some ⟨B, 1, none⟩)) ∧ w'' = x) ?_ ?_⟩
            · rintro _ _ ⟨rfl, rfl⟩
              exact ⟨_, y, rfl, ⟨fun _ _ _ => Below.refl _ _, fun _ => rfl⟩, hI, fun u hu => hu (fun h => by cases h)⟩
            · unfold Oper.wp
              simp [go_sem, s3]
          · cases ho
            have q0 : a'.tmps[72]?.getD undef = .pointer (some ⟨B, 1, none⟩) := by have h := hp 2 (of_decide_eq_true (by kernel_rfl)) (.inr (by decide)); have h2 : a'.tmps.getD 72 undef = .pointer (some ⟨B, 1, none⟩) := h; simpa using h2
            have hrd : x.cell? ⟨B, 1, none⟩ = some (.slice (some ⟨g, 0, none⟩) n n) := Rd L y x hI (hre 11 (by kernel_rfl))
            refine ⟨wanted_none rfl, Oper.wp_mono (K := fun a'' w'' => a'' = a'.put (some 73) (.slice (some ⟨g, 0, none⟩) n n) ∧ w'' = x) ?_ ?_⟩
            · rintro _ _ ⟨rfl, rfl⟩
              exact ⟨_, y, rfl, ⟨fun _ _ _ => Below.refl _ _, fun _ => rfl⟩, hI, fun u hu => hu (fun h => by cases h)⟩
            · unfold Oper.wp
              simp [go_sem, q0, hrd]
          · cases ho
            have q0 : a'.tmps[73]?.getD undef = .slice (some ⟨g, 0, none⟩) n n := by have h := hp 3 (of_decide_eq_true (by kernel_rfl)) (.inr (by decide)); have h2 : a'.tmps.getD 73 undef = .slice (some ⟨g, 0, none⟩) n n := h; simpa using h2
            refine ⟨wanted_none rfl, Oper.wp_mono (K := fun a'' w'' => a'' = a'.put (some 74) (.pointer (some ⟨g, 0, none⟩)) ∧ w'' = x) ?_ ?_⟩
            · rintro _ _ ⟨rfl, rfl⟩
              exact ⟨_, y, rfl, ⟨fun _ _ _ => Below.refl _ _, fun _ => rfl⟩, hI, fun u hu => hu (fun h => by cases h)⟩
            · unfold Oper.wp
              simp [go_sem, q0, hn2]
          · cases ho
            have q0 : a'.tmps[74]?.getD undef = .pointer (some ⟨g, 0, none⟩) := by have h := hp 4 (of_decide_eq_true (by kernel_rfl)) (.inr (by decide)); have h2 : a'.tmps.getD 74 undef = .pointer (some ⟨g, 0, none⟩) := h; simpa using h2
            have hc5 : x.cell? ⟨g, 0, none⟩ = some (.slice ux m uc) := (Prep.out _ (hI.2.2 (hre 9 (by kernel_rfl)))).2.1
            refine ⟨wanted_none rfl, Oper.wp_mono (K := fun a'' w'' => a'' = a'.put (some 75) (.slice ux m uc) ∧ w'' = x) ?_ ?_⟩
            · rintro _ _ ⟨rfl, rfl⟩
              exact ⟨_, y, rfl, ⟨fun _ _ _ => Below.refl _ _, fun _ => rfl⟩, hI, fun u hu => hu (fun h => by cases h)⟩
            · unfold Oper.wp
              simp [go_sem, q0, hc5]
          · cases ho
            exact ⟨wanted_none rfl, op_move 0 rfl ⟨_, y, rfl, ⟨fun _ _ _ => Below.refl _ _, fun _ => rfl⟩, hI, fun u hu => (hu (fun h => by cases h)).trans s0⟩⟩
          · cases ho
            have q0 : a'.tmps[76]?.getD undef = .pointer (some ⟨bc, 0, none⟩) := by have h := hp 6 (of_decide_eq_true (by kernel_rfl)) (.inr (by decide)); have h2 : a'.tmps.getD 76 undef = .pointer (some ⟨bc, 0, none⟩) := h; simpa using h2
            have hD := hI.2.2 (hre 9 (by kernel_rfl))
            have n9 := hre 9 (by kernel_rfl)
            have n11 := hre 11 (by kernel_rfl)
            refine ⟨wanted_none rfl, op_callB (by simp [execOp, resolve, Deferred.ofValue, invoke, Act.eval, q0]) (drawItem hc x hD.cur) ?_⟩
            rintro e z ⟨⟨v, rfl, i, rfl⟩, ci, ki⟩
            exact ⟨_, rfl, _, y, rfl, ⟨fun h => absurd rfl h, fun _ => rfl⟩, ⟨fun h => absurd (h.symm.trans n11) (by decide), fun h => absurd (h.symm.trans n9) (by decide), fun _ => hD.draw ci ki⟩, fun u hu => ⟨i, hu (fun h => by cases h)⟩⟩
          · cases ho
            obtain ⟨it, e7⟩ := hp 7 (of_decide_eq_true (by kernel_rfl)) (.inr (by decide))
            obtain ⟨i0, i1, i2⟩ := it
            have q0 : a'.tmps[77]?.getD undef = .agg #[.int .i64 i0, .int .i64 i1, .int .i64 i2] := by have h2 : a'.tmps.getD 77 undef = .agg #[.int .i64 i0, .int .i64 i1, .int .i64 i2] := e7; simpa using h2
            have hD := hI.2.2 (hre 9 (by kernel_rfl))
            have n9 := hre 9 (by kernel_rfl)
            have n11 := hre 11 (by kernel_rfl)
            refine ⟨wanted_none rfl, Oper.wp_mono (K := fun a'' w'' => a'' = a'.put (some 78) (.slice (some ⟨x.heap.size, 0, none⟩) 1 1) ∧ w'' = x.alloc (.cells #[.int .i64 i0, .int .i64 i1, .int .i64 i2] 28)) ?_ ?_⟩
            · rintro _ _ ⟨rfl, rfl⟩
              exact ⟨_, y, rfl, ⟨fun _ _ _ => (Below.refl _ _).alloc (Nat.le_refl _) _, fun _ => rfl⟩, ⟨fun h => absurd (h.symm.trans n11) (by decide), fun h => absurd (h.symm.trans n9) (by decide), fun _ => hD.below ((Below.refl _ _).alloc (Nat.le_refl _) _)⟩, fun u hu => ⟨x.heap.size, ⟨i0, i1, i2⟩, hu (fun h => by cases h), Boxed.new _ _ _⟩⟩
            · unfold Oper.wp
              simp [go_sem, q0]
          · cases ho
            have e5 : a'.tmps.getD 75 undef = .slice ux m uc := hp 5 (of_decide_eq_true (by kernel_rfl)) (.inr (by decide))
            obtain ⟨n8, it, e8, hb8⟩ := hp 8 (of_decide_eq_true (by kernel_rfl)) (.inl rfl)
            have e8 : a'.tmps.getD 78 undef = .slice (some ⟨n8, 0, none⟩) 1 1 := e8
            have hD := hI.2.2 hLi
            have n11 := hre 11 (by kernel_rfl)
            have q := Prep.out _ hD
            refine ⟨wanted_none rfl, it_op_where (.tmp 75) (.tmp 78) rfl (w.heap.size + 1) (.slice ux m uc) l it (by simpa [Act.eval] using e5) q.1 (by simpa [Act.eval] using e8) hb8 (by rw [Hml.out]; exact hl9) q.2.2.2.2.2.2.1 ?_⟩
            intro v' z q1 q2 q3 q4
            obtain ⟨uy, ud, eu⟩ := q1.shape
            rw [List.length_append, Hml.out] at eu
            exact ⟨_, v', rfl, ⟨fun _ h => absurd rfl h, fun h => absurd rfl h⟩, ⟨fun h => absurd (h.symm.trans n11) (by decide), fun _ _ => ⟨it, x, hD, q1, q2, q3, q4⟩, fun h => by cases h⟩, fun u hu => ⟨hu (fun h => by cases h), uy, ud, eu⟩⟩
          · cases ho
            have q0 : a'.tmps[71]?.getD undef = .slice (some ⟨g, 0, none⟩) n n := by have h := hp 1 (of_decide_eq_true (by kernel_rfl)) (.inr (by decide)); have h2 : a'.tmps.getD 71 undef = .slice (some ⟨g, 0, none⟩) n n := h; simpa using h2
            refine ⟨wanted_none rfl, Oper.wp_mono (K := fun a'' w'' => a'' = a'.put (some 80) (.pointer (some ⟨g, 0, none⟩)) ∧ w'' = x) ?_ ?_⟩
            · rintro _ _ ⟨rfl, rfl⟩
              exact ⟨_, y, rfl, ⟨fun _ _ _ => Below.refl _ _, fun _ => rfl⟩, hI, fun u hu => hu (fun h => by cases h)⟩
            · unfold Oper.wp
              simp [go_sem, q0, hn2]
          · cases ho
            obtain ⟨e9, uy, ud, ey⟩ := hp 9 (of_decide_eq_true (by kernel_rfl)) (.inr (by decide))
            have e9 : a'.tmps.getD 79 undef = y := e9
            subst ey
            have q9 : a'.tmps[79]?.getD undef = .slice uy (m + 1) ud := by simpa using e9
            have q0 : a'.tmps[80]?.getD undef = .pointer (some ⟨g, 0, none⟩) := by have h := hp 10 (of_decide_eq_true (by kernel_rfl)) (.inr (by decide)); have h2 : a'.tmps.getD 80 undef = .pointer (some ⟨g, 0, none⟩) := h; simpa using h2
            have h9 : L 9 = true := hwt 9 (of_decide_eq_true (by kernel_rfl))
            obtain ⟨it, x0, h0, h1, h2, h3, h4⟩ := hI.2.1 h9 hLi
            have qq := Prep.out _ h0
            have RS := qq.2.2.2.2.2.2.2 it _ x h1 h2 h3 h4
            have f1 : x.cell? ⟨g, 0, none⟩ = some (.slice ux m uc) := by rw [cell_kept RS.2.1]; exact qq.2.1
            have f3 : x.frozen? ⟨g, 0, none⟩ = false := by rw [ice_kept RS.2.1]; exact qq.2.2.1
            refine ⟨wanted_none rfl, Oper.wp_mono (K := fun a'' w'' => a'' = a' ∧ w'' = x.setCell ⟨g, 0, none⟩ (.slice uy (m + 1) ud)) ?_ ?_⟩
            · rintro _ _ ⟨rfl, rfl⟩
              exact ⟨undef, _, rfl, ⟨fun _ _ h => absurd rfl h, fun _ => rfl⟩, ⟨fun _ => RS.1, (fun _ h => by cases h), fun h => absurd (h9.symm.trans h) (by decide)⟩, fun u _ => trivial⟩
            · unfold Oper.wp
              simp [go_sem, q9, q0, f1, f3]
        case last =>
        intro L a' y x hall hkp hI hp
        obtain ⟨vs2, ls2, hR⟩ := hI.1 (hall 11 (by decide))
        have ha := hkp.pick [true, true, true, true, true, true, true, true, true, true, true, true, true, true, true, true, true, true, true, true, true, true, true, true, true, true, true, true, true, true, true, true, true, true, true, true, true, true, true, true, true, true, true, true, true, true, true, true, true, true, true, true, true, true, true, true, true, true, true, true, true, true, true, true, true, true, true, true, true, true, false, false, false, false, false, false, false, false, false, false, false, true, true, true, true, true, true, true, true, true, true] (by kernel_rfl)
        simp only [pickS] at ha
        clear hp hkp hI hall
        generalize a'.tmps.getD 70 undef = y70 at ha
        generalize a'.tmps.getD 71 undef = y71 at ha
        generalize a'.tmps.getD 72 undef = y72 at ha
        generalize a'.tmps.getD 73 undef = y73 at ha
        generalize a'.tmps.getD 74 undef = y74 at ha
        generalize a'.tmps.getD 75 undef = y75 at ha
        generalize a'.tmps.getD 76 undef = y76 at ha
        generalize a'.tmps.getD 77 undef = y77 at ha
        generalize a'.tmps.getD 78 undef = y78 at ha
        generalize a'.tmps.getD 79 undef = y79 at ha
        generalize a'.tmps.getD 80 undef = y80 at ha
        rw [ha]
        clear ha
        have HF : Hid (DrW W bc a len cap w B f n (some ⟨g, 0, none⟩) n vs2 ls2 x ∧ (izSum ls2 ls2.length ≤ 11 ∧ n ≤ 17)) := hR
        clear hR Rd Prep DrA
        go_wp2_with (first | (refine wpList_load_row rfl 26 (.tmp 3) rfl B rfl _ _ _ _ HF.out.1.out Try.underlying26 rfl (by kernel_rfl) ?_) | (refine wpList_store_row rfl 26 (.tmp 2) (.tmp 90) rfl w.heap.size _ rfl rfl _ _ HF.out.1.res (by kernel_rfl) rfl (by simp [Value.oneCell']) ?_))
        exact bodyPost_ret (results_cell_row Try.results20 _ _ w.heap.size _ _ _ _ rfl (setRow_heap _ w.heap.size _ _ _ _ HF.out.1.res) Try.underlying26 rfl (by kernel_rfl)) rfl ⟨⟨_, _, rfl, HF.out.1.done.1, by unfold Rw.big; have := HF.out.1.hn; have := HF.out.2; simp only; omega⟩, HF.out.1.done.2⟩
      · go_wp2_with fail
        refine (drawBelow hc 3 (by omega) _ (XA.out.1.cur.alloc _)).mono ?_
        rintro e wt ⟨⟨y8, rfl, yy0, yy1⟩, ct, kt⟩
        obtain ⟨jt, rfl⟩ := Int.eq_ofNat_of_zero_le yy0
        have hj := tab [0, 16, 17] _ _ rfl XA.out.1.cur.ne kt jt (by simp; omega)
        have hz := tab_in [0, 16, 17] 0 17 (by decide) jt (by simp; omega)
        have HT : Hid (DrW W bc a len cap w B f n (some ⟨g, 0, none⟩) n vs ls wt ∧ (izSum ls ls.length ≤ 10 ∧ n ≤ 17)) := ⟨(XA.out.1.below ((Below.refl _ _).alloc (Nat.le_refl _) _)).draw ct kt, XA.out.2⟩
        clear ct kt XA
        generalize ([0, 16, 17] : List Int)[jt]?.getD 0 = z at hj hz
        obtain ⟨nz, rfl⟩ := Int.eq_ofNat_of_zero_le hz.1
        have hnz : nz ≤ 17 := by omega
        have hmk := rowsMake nz (by omega)
        rw [Nat.mul_one] at hmk
        have c1 : wt.cell? ⟨B, 1, none⟩ = some (.slice (some ⟨g, 0, none⟩) n n) := HT.out.1.out.cell 1 rfl
        have i1 := HT.out.1.out.ice 1
        have hBt : B < wt.heap.size := HT.out.1.out.under
        go_upto_region 17 with fail
        clear c1 i1 hj hmk
        have d1 := HT.out.1.lists (wd := wt.alloc (.cells (madeCells #[.slice none 0 0] nz) 41)) (g' := wt.heap.size) (n' := nz) (vc' := nz) ((Below.refl _ _).alloc (Nat.le_refl _) _) (by have := izG_made wt nz (by omega) wt.heap.size (Nat.le_refl _); rw [Nat.mul_one] at this; exact this) (by simp)
        have ew : (wt.alloc (.cells (madeCells #[.slice none 0 0] nz) 41)).setCell ⟨B, 1, none⟩ (.slice (some ⟨wt.heap.size, 0, none⟩) nz nz) = (wt.setCell ⟨B, 1, none⟩ (.slice (some ⟨wt.heap.size, 0, none⟩) nz nz)).alloc (.cells (madeCells #[.slice none 0 0] nz) 41) := by first | exact World.setCell_alloc_past _ _ _ _ _ hBt | exact World.setCell_alloc_past _ _ _ _ hBt | simp [go_sem, hBt]
        rw [ew] at d1
        clear ew
        generalize (wt.setCell ⟨B, 1, none⟩ (.slice (some ⟨wt.heap.size, 0, none⟩) nz nz)).alloc (.cells (madeCells #[.slice none 0 0] nz) 41) = wu at d1 ⊢
        generalize wt.heap.size = g2 at d1 ⊢
        have HF : Hid (DrW W bc a len cap w B f nz (some ⟨g2, 0, none⟩) nz (List.replicate nz (.slice none 0 0)) (List.replicate nz []) wu ∧ (izSum (List.replicate nz ([] : List It)) (List.replicate nz ([] : List It)).length ≤ 10 ∧ nz ≤ 17)) := ⟨d1, by rw [izSum_made]; omega, hnz⟩
        clear d1 HT
        go_wp2_with (first | (refine wpList_load_row rfl 26 (.tmp 3) rfl B rfl _ _ _ _ HF.out.1.out Try.underlying26 rfl (by kernel_rfl) ?_) | (refine wpList_store_row rfl 26 (.tmp 2) (.tmp 90) rfl w.heap.size _ rfl rfl _ _ HF.out.1.res (by kernel_rfl) rfl (by simp [Value.oneCell']) ?_))
        exact bodyPost_ret (results_cell_row Try.results20 _ _ w.heap.size _ _ _ _ rfl (setRow_heap _ w.heap.size _ _ _ _ HF.out.1.res) Try.underlying26 rfl (by kernel_rfl)) rfl ⟨⟨_, _, rfl, HF.out.1.done.1, by unfold Rw.big; have := HF.out.1.hn; have := HF.out.2; simp only; omega⟩, HF.out.1.done.2⟩
    · have hkp : (0 : Int) < (k : Int) := by omega
      go_wp2_with fail
      refine (drawItem hc _ HR.out.1.cur).mono ?_
      rintro e w5 ⟨⟨v, rfl, i, rfl⟩, c5, k5⟩
      have X5 : Hid (DrW W bc a len cap w B f n (some ⟨g, 0, none⟩) n vs ls w5 ∧ izSum ls ls.length + k ≤ 9) := ⟨HR.out.1.draw c5 k5, HR.out.2⟩
      clear c5 k5 HR
      obtain ⟨i0, i1, i2⟩ := i
      have hnl := X5.out.1.hn
      have hB : (⟨f, ls⟩ : Rw).big ≤ 1048576 := by
        unfold Rw.big
        have := X5.out.2
        simp only
        omega
      have A3 := fun w => (specItem ⟨i0, i1, i2⟩ w).mono (R' := fun e w' => e = .returned (.bool (It.ok ⟨i0, i1, i2⟩)) ∧ Below w.heap.size w w') fun _ _ h => ⟨h.1, by rw [h.2]; exact (Below.refl _ _).alloc (Nat.le_refl _) _⟩
      have A4 := fun w h => specHasR ⟨f, ls⟩ (some ⟨g, 0, none⟩) n i0 w hB h
      have A5 := fun w h => specCountL ⟨f, ls⟩ (some ⟨g, 0, none⟩) n w hB h
      simp only [Rw.val, It.val, hnl] at A3 A4 A5 ⊢
      generalize It.ok ⟨i0, i1, i2⟩ = iok at A3
      generalize Rw.has ⟨f, ls⟩ i0 = has at A4
      generalize (izSum ls n : Int) = cnt at A5
      have A3' : Hid _ := A3
      have A4' : Hid _ := A4
      have A5' : Hid _ := A5
      have Hnl : Hid (ls.length = n) := hnl
      clear A3 A4 A5 hB hnl
      go_upto_region 6 with fail
      have X6 : Hid (DrW W bc a len cap w B f n (some ⟨g, 0, none⟩) n vs ls (w5.alloc (.cells #[.int .i64 i0, .int .i64 i1, .int .i64 i2] 28)) ∧ Boxed (w5.alloc (.cells #[.int .i64 i0, .int .i64 i1, .int .i64 i2] 28)) w5.heap.size #[.int .i64 i0, .int .i64 i1, .int .i64 i2] 28 ∧ B < w5.heap.size) := ⟨X5.out.1.below ((Below.refl _ _).alloc (Nat.le_refl _) _), Boxed.new _ _ _, X5.out.1.out.under⟩
      have HS : Hid (izSum ls ls.length + k ≤ 9) := X5.out.2
      clear X5
      generalize w5.alloc (.cells #[.int .i64 i0, .int .i64 i1, .int .i64 i2] 28) = w6 at X6 ⊢
      generalize w5.heap.size = D at X6 ⊢
      go_cut [38] (fun s wc => Hid (∃ b, s = .bool b ∧ DrW W bc a len cap w B f n (some ⟨g, 0, none⟩) n vs ls wc ∧ Boxed wc D #[.int .i64 i0, .int .i64 i1, .int .i64 i2] 28))
      case first =>
        have Go : Hid (∀ wq, Below w6.heap.size w6 wq → DrW W bc a len cap w B f n (some ⟨g, 0, none⟩) n vs ls wq ∧ Boxed wq D #[.int .i64 i0, .int .i64 i1, .int .i64 i2] 28) := fun wq q => ⟨X6.out.1.below q, X6.out.2.1.below X6.out.2.1.under q⟩
        haveI : Nonempty (BelW w6.heap.size w6) := ⟨⟨w6, Below.refl _ _⟩⟩
        have c0 : ∀ p : BelW w6.heap.size w6, p.w'.cell? ⟨B, 0, none⟩ = some (.int .i64 f) := fun p => (Go.out _ p.h).1.out.cell 0 rfl
        have c1 : ∀ p : BelW w6.heap.size w6, p.w'.cell? ⟨B, 1, none⟩ = some (.slice (some ⟨g, 0, none⟩) n n) := fun p => (Go.out _ p.h).1.out.cell 1 rfl
        have d0 : ∀ p : BelW w6.heap.size w6, p.w'.cell? ⟨D, 0, none⟩ = some (.int .i64 i0) := fun p => (Go.out _ p.h).2.cell 0 rfl
        have d1 : ∀ p : BelW w6.heap.size w6, p.w'.cell? ⟨D, 1, none⟩ = some (.int .i64 i1) := fun p => (Go.out _ p.h).2.cell 1 rfl
        have d2 : ∀ p : BelW w6.heap.size w6, p.w'.cell? ⟨D, 2, none⟩ = some (.int .i64 i2) := fun p => (Go.out _ p.h).2.cell 2 rfl
        have At : Hid (∀ p : BelW w6.heap.size w6, IzAt p.w' (some ⟨g, 0, none⟩) ls) := fun p => (Go.out _ p.h).1.at'
        clear X6
        cases iok
        · go_wp2_with fail
          refine region_below w6.heap.size (by kernel_rfl) (by kernel_rfl) ?_
          repeat (go_big_quiet_step ((first | (go_at_call 33; refine quiet_below (Nat.le_refl _) (A3'.out _)) | (go_at_call 34; refine quiet_below (Nat.le_refl _) (A4'.out _ (At.out _))) | (go_at_call 35; refine quiet_below (Nat.le_refl _) (A5'.out _ (At.out _))))))
          refine wpQuiet_nil ?_
          intro wq hx
          have GQ : Hid (DrW W bc a len cap w B f n (some ⟨g, 0, none⟩) n vs ls wq ∧ Boxed wq D #[.int .i64 i0, .int .i64 i1, .int .i64 i2] 28) := Go.out _ (BelW.out hx)
          clear hx
          go_wp2_with fail
          go_meet
          exact ⟨_, rfl, GQ.out⟩
        cases has
        case true =>
          go_wp2_with fail
          refine region_below w6.heap.size (by kernel_rfl) (by kernel_rfl) ?_
          repeat (go_big_quiet_step ((first | (go_at_call 33; refine quiet_below (Nat.le_refl _) (A3'.out _)) | (go_at_call 34; refine quiet_below (Nat.le_refl _) (A4'.out _ (At.out _))) | (go_at_call 35; refine quiet_below (Nat.le_refl _) (A5'.out _ (At.out _))))))
          refine wpQuiet_nil ?_
          intro wq hx
          have GQ : Hid (DrW W bc a len cap w B f n (some ⟨g, 0, none⟩) n vs ls wq ∧ Boxed wq D #[.int .i64 i0, .int .i64 i1, .int .i64 i2] 28) := Go.out _ (BelW.out hx)
          clear hx
          go_wp2_with fail
          go_meet
          exact ⟨_, rfl, GQ.out⟩
        by_cases h2 : cnt < f
        · have h2' : decide (cnt < f) = true := decide_eq_true h2
          go_wp2_with fail
          refine region_below w6.heap.size (by kernel_rfl) (by kernel_rfl) ?_
          repeat (go_big_quiet_step ((first | (go_at_call 33; refine quiet_below (Nat.le_refl _) (A3'.out _)) | (go_at_call 34; refine quiet_below (Nat.le_refl _) (A4'.out _ (At.out _))) | (go_at_call 35; refine quiet_below (Nat.le_refl _) (A5'.out _ (At.out _))))))
          refine wpQuiet_nil ?_
          intro wq hx
          have GQ : Hid (DrW W bc a len cap w B f n (some ⟨g, 0, none⟩) n vs ls wq ∧ Boxed wq D #[.int .i64 i0, .int .i64 i1, .int .i64 i2] 28) := Go.out _ (BelW.out hx)
          clear hx
          go_wp2_with fail
          go_meet
          exact ⟨_, rfl, GQ.out⟩
        · have h2' : decide (cnt < f) = false := decide_eq_false h2
          go_wp2_with fail
          refine region_below w6.heap.size (by kernel_rfl) (by kernel_rfl) ?_
          repeat (go_big_quiet_step ((first | (go_at_call 33; refine quiet_below (Nat.le_refl _) (A3'.out _)) | (go_at_call 34; refine quiet_below (Nat.le_refl _) (A4'.out _ (At.out _))) | (go_at_call 35; refine quiet_below (Nat.le_refl _) (A5'.out _ (At.out _))))))
          refine wpQuiet_nil ?_
          intro wq hx
          have GQ : Hid (DrW W bc a len cap w B f n (some ⟨g, 0, none⟩) n vs ls wq ∧ Boxed wq D #[.int .i64 i0, .int .i64 i1, .int .i64 i2] 28) := Go.out _ (BelW.out hx)
          clear hx
          go_wp2_with fail
          go_meet
          exact ⟨_, rfl, GQ.out⟩
      case rest =>
      obtain ⟨bb, rfl, hP⟩ := hcut.out
      have X7 : Hid (DrW W bc a len cap w B f n (some ⟨g, 0, none⟩) n vs ls wc ∧ Boxed wc D #[.int .i64 i0, .int .i64 i1, .int .i64 i2] 28 ∧ B < D) := ⟨hP.1, hP.2, X6.out.2.2⟩
      clear hcut hP X6 A3' A4' A5'
      cases bb
      · go_wp2
        go_roundw
        case rel => exact ⟨k - 1, by omega, by go_num, vs, ls, X7.out.1, by have := HS.out; omega⟩
        case measure => simp [intOf]; omega
      have cc1 : wc.cell? ⟨B, 1, none⟩ = some (.slice (some ⟨g, 0, none⟩) n n) := X7.out.1.out.cell 1 rfl
      have hni : (0 : Int) < (n : Int) := by omega
      go_wp2_with fail
      refine (drawBelow hc (n : Int) hni _ X7.out.1.cur).mono ?_
      rintro e w8 ⟨⟨jj, rfl, jj0, jj1⟩, c8, k8⟩
      obtain ⟨jx, rfl⟩ := Int.eq_ofNat_of_zero_le jj0
      have hjx : jx < n := by omega
      have X8 : Hid (DrW W bc a len cap w B f n (some ⟨g, 0, none⟩) n vs ls w8 ∧ Boxed w8 D #[.int .i64 i0, .int .i64 i1, .int .i64 i2] 28 ∧ B < D) := ⟨X7.out.1.draw c8 k8, X7.out.2.1.keep (by have := X7.out.1.lt; have := X7.out.1.bl; have := X7.out.2.2; omega) k8, X7.out.2.2⟩
      clear c8 k8 X7 cc1
      have hjl : jx < ls.length := by rw [Hnl.out]; exact hjx
      obtain ⟨ux, uc, eu⟩ := (X8.out.1.g.row jx hjl).shape
      have hrow := X8.out.1.g.row jx hjl
      have hgl : g < w8.heap.size := (World.ownsRow.lt X8.out.1.g.outer g rfl).2
      have hBl : B < w8.heap.size := X8.out.1.out.under
      have hDl : D < w8.heap.size := X8.out.2.1.under
      have hout : w8.ownsRow (w.heap.size + 1) 41 1 (.slice (some ⟨g, 0, none⟩) n n) n vs := by
        have h1 := X8.out.1.g.outer
        rw [Hnl.out] at h1
        exact h1
      have hcell : w8.cell? ⟨g, jx, none⟩ = some (izV vs jx) := by
        have hl := X8.out.1.g.len
        have := Hnl.out
        rw [hout.cellAt jx (by omega)]
        unfold izV
        rw [List.getElem?_eq_getElem (by omega)]
        rfl
      have hice := hout.frozenAt jx
      have hlen := izSum_one hjl
      have Set : Hid (∀ u w2, ItRow (w.heap.size + 1) w2 u (izAt ls jx ++ [⟨i0, i1, i2⟩]) → Below (w.heap.size + 1) w8 w2 → (∀ k, (izV vs jx).ownBlock ≠ some k → k < w8.heap.size → w2.heap[k]? = w8.heap[k]?) → (∀ k, u.ownBlock = some k → (izV vs jx).ownBlock = some k ∨ w8.heap.size ≤ k) → (∃ vs' ls', DrW W bc a len cap w B f n (some ⟨g, 0, none⟩) n vs' ls' (w2.setCell ⟨g, jx, none⟩ u) ∧ izSum ls' ls'.length + (k - 1) ≤ 9) ∧ w2.heap[g]? = w8.heap[g]? ∧ w2.heap[B]? = w8.heap[B]?) := fun u w2 q1 q2 q3 q4 =>
        ⟨⟨_, _, X8.out.1.set hjl q1 q2 q3 q4, by rw [izSum_set hjl]; have := HS.out; omega⟩, q3 g (fun e => rows_unlike X8.out.1.g.outer hrow izTypes g rfl e) hgl, q3 B (X8.out.1.apart.2 jx hjl) hBl⟩
      have HS2 := HS.out
      have hl9 : (izAt ls jx).length ≤ 1048576 := by omega
      have o1 : w8.cell? ⟨B, 1, none⟩ = some (.slice (some ⟨g, 0, none⟩) n n) := X8.out.1.out.cell 1 rfl
      have e0 : w8.cell? ⟨D, 0, none⟩ = some (.int .i64 i0) := X8.out.2.1.cell 0 rfl
      have e1 : w8.cell? ⟨D, 1, none⟩ = some (.int .i64 i1) := X8.out.2.1.cell 1 rfl
      have e2 : w8.cell? ⟨D, 2, none⟩ = some (.int .i64 i2) := X8.out.2.1.cell 2 rfl
      have hGs : w.heap.size + 1 ≤ w8.heap.size := by have := X8.out.1.lt; omega
      have HGs : Hid (w.heap.size + 1 ≤ w8.heap.size) := hGs
      have Hrow : Hid (ItRow (w.heap.size + 1) w8 (izV vs jx) (izAt ls jx)) := hrow
      rw [eu] at hcell Hrow Set
      generalize izAt ls jx = l at hcell Hrow Set hl9
      obtain ⟨m, hml⟩ : ∃ m, l.length = m := ⟨_, rfl⟩
      rw [hml] at hcell Hrow Set hl9
      have Hml : Hid (l.length = m) := hml
      have Hice : Hid _ := hice
      clear hrow eu hml hout hlen HS2 hGs hice HS
      have hj0 : ¬ (jx : Int) < 0 := by omega
      go_wp2_with fail
      have hice : w8.frozen? ⟨g, jx, none⟩ = false := Hice.out
      go_region_law (refine it_step_one (w := w8.drew) rfl (.tmp 51) (.tmp 53) rfl (w.heap.size + 1) (.slice ux m uc) l ⟨i0, i1, i2⟩ rfl rfl Hrow.out rfl rfl (by rw [Hml.out]; exact hl9) HGs.out ?_; intro u wn q1 q2 q3 q4; obtain ⟨uy, ud, eu⟩ := q1.shape; rw [List.length_append, Hml.out] at eu; subst eu; have RS := Set.out _ wn q1 ((Below.refl _ w8).drew.trans q2) q3 q4; have R : Hid _ := RS.1; have f1 : wn.cell? ⟨g, jx, none⟩ = some (.slice ux m uc) := (by rw [cell_kept RS.2.1]; exact hcell); have f2 : wn.cell? ⟨B, 1, none⟩ = some (.slice (some ⟨g, 0, none⟩) n n) := (by rw [cell_kept RS.2.2]; exact o1); have f3 : wn.frozen? ⟨g, jx, none⟩ = false := (by rw [ice_kept RS.2.1]; exact hice); clear RS q1 q2 q3 q4)
      all_goals (
        go_wp2
        go_roundw
        case rel => exact ⟨k - 1, by omega, by go_num, R.out⟩
        case measure => simp [intOf]; omega)
end Go.Proofs.Ytleokmnhhhhcjaa
