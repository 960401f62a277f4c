/-
  The model's drawing of any frame. By the verifier.
-/
import Derived.Test.YtdifegaokdoleaaDrawLit
namespace Go.Proofs.Ytdifegaokdoleaa
open Go.RowKit

/-- The cells of a frame. -/
def frCs (f : Fr) (a : Option Addr) (c : Nat) : Array Value := #[.int .i64 f.1, .int .i64 f.frm, .slice a f.tags.length c, .int .i64 f.src, .int .i64 f.dst, .int .i64 f.proto, .int .i64 f.sport, .int .i64 f.dport, .int .i64 f.mark, .int .i64 f.sum, .string f.body]
/-- The call's own memory: the frame that is drawn, the answer's variable, the cursor, the tags. -/
structure DrA (W : World) (bc : Nat) (ac : Option Addr) (len cap : Nat) (w : World) (B : Nat) (cs : Array Value) (sl : Value) (T : List Int) (wr : World) : Prop where
  fr : Boxed wr B cs 27
  res : Boxed wr w.heap.size zeroFr 27
  cur : Cur W bc ac len cap wr
  kp : Keep bc w wr
  row : IRow (w.heap.size + 1) wr sl T
  lt : w.heap.size < B
  bl : bc < w.heap.size
theorem DrA.draw {W : World} {bc : Nat} {ac : Option Addr} {len cap : Nat} {w : World} {B : Nat} {cs : Array Value} {sl : Value} {T : List Int} {wr wd : World} (h : DrA W bc ac len cap w B cs sl T wr) (c : Cur W bc ac len cap wd) (k : Keep bc wr wd) : DrA W bc ac len cap w B cs sl T wd := by
  have h1 := h.lt
  have h2 := h.bl
  exact ⟨h.fr.keep (by omega) k, h.res.keep (by omega) k, c, h.kp.trans k, h.row.carry fun i hi hl => k.block i (by omega) hl, h1, h2⟩
theorem irow_cell {base B j : Nat} {w : World} {v u : Value} {xs : List Int} {cs : Array Value} (h : IRow base w v xs) (x : Boxed w B cs 27) : IRow base (w.setCell ⟨B, j, none⟩ u) v xs := by
  refine ⟨h.1, h.2.imp id ?_⟩
  rintro ⟨g0, cap, cur, h1, h2, h3, h4⟩
  have hne : g0 ≠ B := by
    rintro rfl
    unfold Boxed at x
    rw [x] at h3
    injection h3 with h3
    injection h3 with _ h3 _
    exact absurd h3 (by decide)
  exact ⟨g0, cap, cur, h1, h2, by rw [Below.heap_setCell _ _ _ _ hne]; exact h3, h4⟩
theorem DrA.put {W : World} {bc : Nat} {ac : Option Addr} {len cap : Nat} {w : World} {B : Nat} {cs : Array Value} {sl : Value} {T : List Int} {wr : World} (h : DrA W bc ac len cap w B cs sl T wr) (j : Nat) (v : Value) : DrA W bc ac len cap w B (cs.setIfInBounds j v) sl T (wr.setCell ⟨B, j, none⟩ v) := by
  have h1 := h.lt
  have h2 := h.bl
  have h3 := h.cur.bel.size
  have h4 := h.cur.lo
  have o : ∀ k, k ≠ B → (wr.setCell ⟨B, j, none⟩ v).heap[k]? = wr.heap[k]? := fun k hk => Below.heap_setCell _ _ _ _ hk
  refine ⟨h.fr.put j v, h.res.far (by omega) j v, h.cur.other (by omega) o ((Below.refl _ _).setCell (p := ⟨B, j, none⟩) (by show W.heap.size ≤ B; omega) _), ⟨by have := h.kp.size; simp only [World.setCell, Array.size_modify]; exact this, fun k g1 g2 => (o k (by omega)).trans (h.kp.block k g1 g2)⟩, irow_cell h.row h.fr, h1, h2⟩
theorem DrA.more {W : World} {bc : Nat} {ac : Option Addr} {len cap : Nat} {w : World} {B : Nat} {cs : Array Value} {sl : Value} {T : List Int} {wr : World} (h : DrA W bc ac len cap w B cs sl T wr) (o : Obj) : DrA W bc ac len cap w B cs sl T (wr.alloc o) := h.draw (h.cur.alloc _) ((Keep.refl _ _).alloc _)
theorem irow_apart {base B : Nat} {w : World} {v : Value} {xs : List Int} {cs : Array Value} (h : IRow base w v xs) (x : Boxed w B cs 27) : v.ownBlock ≠ some B := by
  rcases h.2 with ⟨rfl, _⟩ | ⟨g0, cap, cur, rfl, h2, h3, _⟩
  · simp [Value.ownBlock]
  · intro e
    have e1 : g0 = B := by simpa [Value.ownBlock] using e
    subst e1
    unfold Boxed at x
    rw [x] at h3
    injection h3 with h3
    injection h3 with _ h3 _
    exact absurd h3 (by decide)
theorem DrA.grow {W : World} {bc : Nat} {ac : Option Addr} {len cap : Nat} {w : World} {B : Nat} {cs : Array Value} {sl sl' : Value} {T T' : List Int} {wr wd : World} (h : DrA W bc ac len cap w B cs sl T wr) (g : Below (w.heap.size + 1) wr wd) (o : ∀ k, sl.ownBlock ≠ some k → k < wr.heap.size → wd.heap[k]? = wr.heap[k]?) (r : IRow (w.heap.size + 1) wd sl' T') : DrA W bc ac len cap w B cs sl' T' wd := by
  have h1 := h.lt
  have h2 := h.bl
  refine ⟨?_, h.res.below (by omega) g, h.cur.below (by omega) g, ⟨Nat.le_trans h.kp.size g.size, fun k q1 q2 => (g.block k (by omega)).trans (h.kp.block k q1 q2)⟩, r, h1, h2⟩
  show wd.heap[B]? = _
  rw [o B (irow_apart h.row h.fr) h.fr.under]
  exact h.fr
/-- One number more, as a step of a region that draws: only its own block turns. -/
theorem step_iapp2 {ops : Array Oper} {o : Oper} {a : Act} {w wx : World} {K : Act → World → Prop} {Q : Exit → Act → World → Prop} {E : Prop} (hgd : o.guard = none) (s x : Operand)
    (ho : o.op = .call { callee := .builtin .append, args := #[s, x], argTypes := #[25, 25] })
    (base : Nat) (v : Value) (xs : List Int) (y : Int) (hwx : wx = w.alloc (.cells #[.int .i64 y] 2)) (hs : a.eval s = v) (hrow : IRow base w v xs) {n : Nat} (hx : a.eval x = .slice (some ⟨n, 0, none⟩) 1 1) (hn : n = w.heap.size)
    (hlen : xs.length ≤ 1000000) (hb : base ≤ w.heap.size)
    (h : ∀ v' w', IRow base w' v' (xs ++ [y]) → Below base w w' → (∀ k, v.ownBlock ≠ some k → k < w.heap.size → w'.heap[k]? = w.heap[k]?) → K (a.put o.dst v') w') :
    if Region.wanted o (yielded ops a.tmps) = true then Oper.wp Try.prog o a wx K Q else E := by
  subst hwx
  subst hn
  have hw : Region.wanted o (yielded ops a.tmps) = true := by simp [Region.wanted, hgd]
  rw [if_pos hw]
  obtain ⟨i0, hi, hz0, hz1, hz2⟩ := info_parts info2'
  obtain ⟨v', w', hrun, h1, h2, _⟩ := run_append_own (P := Try.prog) (w.alloc (.cells #[.int .i64 y] 2)) base 25 o.type 2 i0 (.int .i64 0) 1 8 Try.underlying25 hi hz0 hz1 hz2 rfl (by decide) v _ _ (World.ownsRow.alloc hrow _) ⟨w.heap.size, 0, none⟩ 1 1 [.int .i64 y] rfl
    (by intro j u hj
        match j, hj with
        | 0, hj => simp at hj; subst hj; simp [Addr.add]) (by intro u hu; simp at hu; subst hu; rfl) (by unfold maxLen; omega) (by omega) (by simp; omega)
  unfold Oper.wp
  simp [execOp, ho, resolve, invoke, builtin, hs, hx, hrun, Result.andThen]
  refine h v' w' ?_ ?_ ?_
  · unfold IRow
    rw [List.length_append, List.map_append]
    exact h1
  · exact ((Below.refl base w).alloc hb _).grown h2 (by simp; omega) (fun k hk => IRow.block hrow k hk)
  · intro k hk hl
    rw [h2.block k (by simp; omega) (fun e => hk e.symm), Below.heap_alloc _ _ _ hl]
theorem DrA.done {W : World} {bc : Nat} {ac : Option Addr} {len cap : Nat} {w : World} {B : Nat} {f : Fr} {sa : Option Addr} {sc : Nat} {wr : World}
    (h : DrA W bc ac len cap w B (frCs f sa sc) (.slice sa f.tags.length sc) f.tags wr) (hT : f.tags.length ≤ 3) (hb : f.body.size ≤ 1503) {t : Act} (h2 : t.tmps.getD 2 undef = .pointer (some ⟨w.heap.size, 0, none⟩)) (hd : t.defers = []) :
    bodyPost Try.prog Try.f31 (fun e w' => (∃ (f : Fr) (a : Option Addr) (c : Nat), e = .returned (f.val a c) ∧ f.tags.length ≤ 3 ∧ f.body.size ≤ 1503 ∧ IRow w.heap.size w' (.slice a f.tags.length c) f.tags) ∧ Cur W bc ac len cap w' ∧ Keep bc w w') .ret t (wr.setRow w.heap.size (frCs f sa sc)) := by
  have g1 := h.lt
  have g2 := h.bl
  have g3 := h.cur.lo
  have o : ∀ k, k ≠ w.heap.size → (wr.setRow w.heap.size (frCs f sa sc)).heap[k]? = wr.heap[k]? := fun k hk => setRow_other _ _ _ _ hk
  refine bodyPost_ret (results_cell_row Try.results31 _ _ w.heap.size _ _ _ _ h2 (setRow_heap wr w.heap.size _ _ _ _ h.res) Try.underlying27 rfl (by kernel_rfl)) hd ⟨⟨f, sa, sc, rfl, hT, hb, (irow_other h.row h.res _).mono (by omega)⟩, h.cur.other (by omega) o (below_setRow (Below.refl _ _) (by omega) _), ?_⟩
  exact ⟨by rw [size_setRow]; exact h.kp.size, fun k q1 q2 => (o k (by omega)).trans (h.kp.block k q1 q2)⟩

set_option maxHeartbeats 6400000 in
set_option maxRecDepth 100000 in
theorem drawAny {W : World} {bc : Nat} {ac : Option Addr} {len cap : Nat} (hc : Hid (Code W ac len)) (w : World) (cur : Hid (Cur W bc ac len cap w)) :
    Calls Try.prog 31 #[.pointer (some ⟨bc, 0, none⟩)] w fun e w' => (∃ (f : Fr) (a : Option Addr) (c : Nat), e = .returned (f.val a c) ∧ f.tags.length ≤ 3 ∧ f.body.size ≤ 1503 ∧ IRow w.heap.size w' (.slice a f.tags.length c) f.tags) ∧ Cur W bc ac len cap w' ∧ Keep bc w w' := by
  have hbc := cur.out.lt
  go_enter Try.func31, Try.ntmps31
  go_wp2_with fail
  refine (drawLit hc _ (cur.out.alloc (.cells zeroFr 27))).mono ?_
  rintro e w2 ⟨⟨f, sa, sc, rfl, -, hT, hB, hrow⟩, c2, k2⟩
  have hs2 : w.heap.size < w2.heap.size := by have := k2.size; simp at this; omega
  have hrow' : IRow (w.heap.size + 1) w2 (.slice sa f.tags.length sc) f.tags := hrow.mono (by simp)
  have H2 : Hid (DrA W bc ac len cap w w2.heap.size (frCs f sa sc) (.slice sa f.tags.length sc) f.tags (w2.alloc (.cells (frCs f sa sc) 27))) := by
    refine ⟨Boxed.new _ _ _, ((Boxed.new w zeroFr 27).keep (by omega) k2).more _, c2.alloc _, (((Keep.refl _ w).alloc _).trans k2).alloc _, World.ownsRow.alloc hrow' _, hs2, hbc⟩
  clear c2 k2 hrow hrow'
  obtain ⟨r0, r1, T, r3, r4, r5, r6, r7, r8, sm, bd⟩ := f
  simp only [Fr.val, frCs] at hT hB H2 ⊢
  go_wp2_with fail
  generalize w2.alloc (.cells #[.int .i64 r0, .int .i64 r1, .slice sa T.length sc, .int .i64 r3, .int .i64 r4, .int .i64 r5, .int .i64 r6, .int .i64 r7, .int .i64 r8, .int .i64 sm, .string bd] 27) = w3 at H2 ⊢
  generalize w2.heap.size = B at H2 hs2 ⊢
  refine (drawOnce hc 8 (by omega) _ H2.out.cur).mono ?_
  rintro e w4 ⟨⟨bo, rfl⟩, c4, k4⟩
  have H4 : Hid (DrA W bc ac len cap w B #[.int .i64 r0, .int .i64 r1, .slice sa T.length sc, .int .i64 r3, .int .i64 r4, .int .i64 r5, .int .i64 r6, .int .i64 r7, .int .i64 r8, .int .i64 sm, .string bd] (.slice sa T.length sc) T w4) := H2.out.draw c4 k4
  clear c4 k4 H2
  cases bo
  · skip
    go_wp2_with (first | (refine wpList_load_row rfl 27 (.tmp 3) rfl B rfl _ _ _ _ H4.out.fr Try.underlying27 rfl (by kernel_rfl) ?_) | (refine wpList_store_row rfl 27 (.tmp 2) (.tmp 62) rfl w.heap.size _ rfl rfl _ _ H4.out.res (by kernel_rfl) rfl (frameOne _ _ _ _ _ _ _ _ _ _ _ _ _) ?_))
    exact DrA.done (f := ⟨r0, r1, T, r3, r4, r5, r6, r7, r8, sm, bd⟩) H4.out (by show T.length ≤ 3; omega) hB rfl rfl
  · go_wp2_with fail
    refine (drawBelow hc 6 (by omega) _ H4.out.cur).mono ?_
    rintro e w5 ⟨⟨q, rfl, q0, q1⟩, c5, k5⟩
    have H5 : Hid (DrA W bc ac len cap w B #[.int .i64 r0, .int .i64 r1, .slice sa T.length sc, .int .i64 r3, .int .i64 r4, .int .i64 r5, .int .i64 r6, .int .i64 r7, .int .i64 r8, .int .i64 sm, .string bd] (.slice sa T.length sc) T w5) := H4.out.draw c5 k5
    clear c5 k5 H4
    have hq : q = 0 ∨ q = 1 ∨ q = 2 ∨ q = 3 ∨ q = 4 ∨ q = 5 := by omega
    clear q0 q1
    rcases hq with rfl | rfl | rfl | rfl | rfl | rfl
    · go_wp2_with fail
      refine (drawBelow hc 3 (by omega) _ (H5.out.cur.alloc _)).mono ?_
      rintro e wt ⟨⟨y, rfl, yy0, yy1⟩, ct, kt⟩
      obtain ⟨jt, rfl⟩ := Int.eq_ofNat_of_zero_le yy0
      have hj := tab [-1, 65535, 65536] _ _ rfl H5.out.cur.ne kt jt (by simp; omega)
      have HT : Hid (DrA W bc ac len cap w B #[.int .i64 r0, .int .i64 r1, .slice sa T.length sc, .int .i64 r3, .int .i64 r4, .int .i64 r5, .int .i64 r6, .int .i64 r7, .int .i64 r8, .int .i64 sm, .string bd] (.slice sa T.length sc) T wt) := H5.out.draw ct (((Keep.refl _ w5).alloc _).trans kt)
      clear ct kt H5
      generalize ([-1, 65535, 65536] : List Int)[jt]?.getD 0 = z at hj
      have cj : wt.cell? ⟨B, 0, none⟩ = some _ := HT.out.fr.cell 0 rfl
      have ij := HT.out.fr.ice 0
      go_upto_region 16 with fail
      clear cj ij hj
      have d1 := HT.out.put 0 (.int .i64 z)
      generalize wt.setCell ⟨B, 0, none⟩ (.int .i64 z) = wu at d1 ⊢
      have H8 : Hid (DrA W bc ac len cap w B #[.int .i64 z, .int .i64 r1, .slice sa T.length sc, .int .i64 r3, .int .i64 r4, .int .i64 r5, .int .i64 r6, .int .i64 r7, .int .i64 r8, .int .i64 sm, .string bd] (.slice sa T.length sc) T wu) := d1
      clear d1 HT
      go_wp2_with (first | (refine wpList_load_row rfl 27 (.tmp 3) rfl B rfl _ _ _ _ H8.out.fr Try.underlying27 rfl (by kernel_rfl) ?_) | (refine wpList_store_row rfl 27 (.tmp 2) (.tmp 62) rfl w.heap.size _ rfl rfl _ _ H8.out.res (by kernel_rfl) rfl (frameOne _ _ _ _ _ _ _ _ _ _ _ _ _) ?_))
      exact DrA.done (f := ⟨z, r1, T, r3, r4, r5, r6, r7, r8, sm, bd⟩) H8.out (by show T.length ≤ 3; omega) hB rfl rfl
    · have c2 : w5.cell? ⟨B, 2, none⟩ = some (.slice sa T.length sc) := H5.out.fr.cell 2 rfl
      have l5 : B < w5.heap.size := H5.out.fr.under
      go_wp2_with fail
      have tb : Hid (∀ wx : World, wx.heap.size ≠ bc → ∀ j : Nat, j < 3 → (wx.alloc (.cells #[.int .i64 (-1), .int .i64 4095, .int .i64 4096] 2)).cell? ⟨wx.heap.size, j, none⟩ = some (.int .i64 (([-1, 4095, 4096] : List Int)[j]?.getD 0))) := fun wx hne j hj => tab [-1, 4095, 4096] _ 2 rfl hne (Keep.refl _ _) j (by simpa using hj)
      go_region_law (first | (refine step_call rfl 56 rfl #[.pointer (some ⟨bc, 0, none⟩), .int .i64 3] (by kernel_rfl) (drawBelow hc 3 (by omega) w5.drew H5.out.cur.drew) ?_; rintro e w6 ⟨⟨y, rfl, y0, y1⟩, c6, k6⟩; refine ⟨_, rfl, ?_⟩; obtain ⟨jt, rfl⟩ := Int.eq_ofNat_of_zero_le y0; have H6 : Hid (DrA W bc ac len cap w B #[.int .i64 r0, .int .i64 r1, .slice sa T.length sc, .int .i64 r3, .int .i64 r4, .int .i64 r5, .int .i64 r6, .int .i64 r7, .int .i64 r8, .int .i64 sm, .string bd] (.slice sa T.length sc) T w6) := H5.out.draw c6 ((Keep.refl _ w5).drew.trans k6); have hj := tb.out w6 H6.out.cur.ne jt (by omega); generalize (([-1, 4095, 4096] : List Int)[jt]?.getD 0) = z at hj; have d2 : w6.cell? ⟨B, 2, none⟩ = some (.slice sa T.length sc) := H6.out.fr.cell 2 rfl; have l6 : B < w6.heap.size := H6.out.fr.under; clear c6 k6 c2) | (refine step_call rfl 56 rfl #[.pointer (some ⟨bc, 0, none⟩), .int .i64 3] (by kernel_rfl) (drawBelow hc 3 (by omega) _ (H5.out.cur.drew.alloc _)) ?_; rintro e w7 ⟨⟨y, rfl, y0, y1⟩, c7, k7⟩; refine ⟨_, rfl, ?_⟩; obtain ⟨jt, rfl⟩ := Int.eq_ofNat_of_zero_le y0; have hj : w7.cell? ⟨w5.heap.size, jt, none⟩ = some (.int .i64 (([-1, 4095, 4096] : List Int)[jt]?.getD 0)) := tab [-1, 4095, 4096] _ _ rfl H5.out.cur.drew.ne k7 jt (by simp; omega); have H7 : Hid (DrA W bc ac len cap w B #[.int .i64 r0, .int .i64 r1, .slice sa T.length sc, .int .i64 r3, .int .i64 r4, .int .i64 r5, .int .i64 r6, .int .i64 r7, .int .i64 r8, .int .i64 sm, .string bd] (.slice sa T.length sc) T w7) := H5.out.draw c7 (((Keep.refl _ w5).drew.alloc _).trans k7); generalize (([-1, 4095, 4096] : List Int)[jt]?.getD 0) = z at hj; have d2 : w7.cell? ⟨B, 2, none⟩ = some (.slice sa T.length sc) := H7.out.fr.cell 2 rfl; have l7 : B < w7.heap.size := H7.out.fr.under; clear c7 k7 c2) | (refine step_iapp2 rfl (.tmp 21) (.tmp 27) rfl (w.heap.size + 1) _ T z (w := w7) ?_ rfl H7.out.row rfl rfl ?_ ?_ ?_; rfl; omega; exact Nat.le_trans H7.out.lt (Nat.le_of_lt l7); intro v' w8 rr8 b8 o8; generalize hT8 : T ++ [z] = T8 at rr8; have hl8 : T8.length ≤ 3 := (by rw [← hT8]; simp; omega); obtain ⟨sa', sc', rfl⟩ := rr8.shape; have H8 : Hid (DrA W bc ac len cap w B #[.int .i64 r0, .int .i64 r1, .slice sa T.length sc, .int .i64 r3, .int .i64 r4, .int .i64 r5, .int .i64 r6, .int .i64 r7, .int .i64 r8, .int .i64 sm, .string bd] (.slice sa' T8.length sc') T8 w8) := H7.out.grow b8 o8 rr8; have e2 : w8.cell? ⟨B, 2, none⟩ = some (.slice sa T.length sc) := H8.out.fr.cell 2 rfl; have g2 := H8.out.fr.ice 2; clear rr8 b8 o8 hT8) | (refine step_iapp2 rfl (.tmp 21) (.tmp 27) rfl (w.heap.size + 1) _ T z (w := w6.alloc (.cells #[.int .i64 (-1), .int .i64 4095, .int .i64 4096] 2)) ?_ rfl (H6.out.more _).row rfl (by simp) ?_ ?_ ?_; rfl; omega; exact Nat.le_trans (H6.out.more (.cells #[.int .i64 (-1), .int .i64 4095, .int .i64 4096] 2)).lt (Nat.le_of_lt (H6.out.more _).fr.under); intro v' w8 rr8 b8 o8; generalize hT8 : T ++ [z] = T8 at rr8; have hl8 : T8.length ≤ 3 := (by rw [← hT8]; simp; omega); obtain ⟨sa', sc', rfl⟩ := rr8.shape; have H8 : Hid (DrA W bc ac len cap w B #[.int .i64 r0, .int .i64 r1, .slice sa T.length sc, .int .i64 r3, .int .i64 r4, .int .i64 r5, .int .i64 r6, .int .i64 r7, .int .i64 r8, .int .i64 sm, .string bd] (.slice sa' T8.length sc') T8 w8) := (H6.out.more _).grow b8 o8 rr8; have e2 : w8.cell? ⟨B, 2, none⟩ = some (.slice sa T.length sc) := H8.out.fr.cell 2 rfl; have g2 := H8.out.fr.ice 2; clear rr8 b8 o8 hT8))
      all_goals
        clear e2 g2
        have d1 := H8.out.put 2 (.slice sa' T8.length sc')
        generalize w8.setCell ⟨B, 2, none⟩ (.slice sa' T8.length sc') = wu at d1 ⊢
        have H9 : Hid (DrA W bc ac len cap w B #[.int .i64 r0, .int .i64 r1, .slice sa' T8.length sc', .int .i64 r3, .int .i64 r4, .int .i64 r5, .int .i64 r6, .int .i64 r7, .int .i64 r8, .int .i64 sm, .string bd] (.slice sa' T8.length sc') T8 wu) := d1
        clear d1 H8
        go_wp2_with (first | (refine wpList_load_row rfl 27 (.tmp 3) rfl B rfl _ _ _ _ H9.out.fr Try.underlying27 rfl (by kernel_rfl) ?_) | (refine wpList_store_row rfl 27 (.tmp 2) (.tmp 62) rfl w.heap.size _ rfl rfl _ _ H9.out.res (by kernel_rfl) rfl (frameOne _ _ _ _ _ _ _ _ _ _ _ _ _) ?_))
        exact DrA.done (f := ⟨r0, r1, T8, r3, r4, r5, r6, r7, r8, sm, bd⟩) H9.out (by show T8.length ≤ 3; omega) hB rfl rfl
    · go_wp2_with fail
      refine (drawBelow hc 3 (by omega) _ (H5.out.cur.alloc _)).mono ?_
      rintro e wt ⟨⟨y, rfl, yy0, yy1⟩, ct, kt⟩
      obtain ⟨jt, rfl⟩ := Int.eq_ofNat_of_zero_le yy0
      have hj := tab [-1, 4294967295, 4294967296] _ _ rfl H5.out.cur.ne kt jt (by simp; omega)
      have HT : Hid (DrA W bc ac len cap w B #[.int .i64 r0, .int .i64 r1, .slice sa T.length sc, .int .i64 r3, .int .i64 r4, .int .i64 r5, .int .i64 r6, .int .i64 r7, .int .i64 r8, .int .i64 sm, .string bd] (.slice sa T.length sc) T wt) := H5.out.draw ct (((Keep.refl _ w5).alloc _).trans kt)
      clear ct kt H5
      generalize ([-1, 4294967295, 4294967296] : List Int)[jt]?.getD 0 = z at hj
      have cj : wt.cell? ⟨B, 3, none⟩ = some _ := HT.out.fr.cell 3 rfl
      have ij := HT.out.fr.ice 3
      go_upto_region 16 with fail
      clear cj ij hj
      have d1 := HT.out.put 3 (.int .i64 z)
      generalize wt.setCell ⟨B, 3, none⟩ (.int .i64 z) = wu at d1 ⊢
      have H8 : Hid (DrA W bc ac len cap w B #[.int .i64 r0, .int .i64 r1, .slice sa T.length sc, .int .i64 z, .int .i64 r4, .int .i64 r5, .int .i64 r6, .int .i64 r7, .int .i64 r8, .int .i64 sm, .string bd] (.slice sa T.length sc) T wu) := d1
      clear d1 HT
      go_wp2_with (first | (refine wpList_load_row rfl 27 (.tmp 3) rfl B rfl _ _ _ _ H8.out.fr Try.underlying27 rfl (by kernel_rfl) ?_) | (refine wpList_store_row rfl 27 (.tmp 2) (.tmp 62) rfl w.heap.size _ rfl rfl _ _ H8.out.res (by kernel_rfl) rfl (frameOne _ _ _ _ _ _ _ _ _ _ _ _ _) ?_))
      exact DrA.done (f := ⟨r0, r1, T, z, r4, r5, r6, r7, r8, sm, bd⟩) H8.out (by show T.length ≤ 3; omega) hB rfl rfl
    · go_wp2_with fail
      refine (drawBelow hc 3 (by omega) _ (H5.out.cur.alloc _)).mono ?_
      rintro e wt ⟨⟨y, rfl, yy0, yy1⟩, ct, kt⟩
      obtain ⟨jt, rfl⟩ := Int.eq_ofNat_of_zero_le yy0
      have hj := tab [-1, 3, 4] _ _ rfl H5.out.cur.ne kt jt (by simp; omega)
      have HT : Hid (DrA W bc ac len cap w B #[.int .i64 r0, .int .i64 r1, .slice sa T.length sc, .int .i64 r3, .int .i64 r4, .int .i64 r5, .int .i64 r6, .int .i64 r7, .int .i64 r8, .int .i64 sm, .string bd] (.slice sa T.length sc) T wt) := H5.out.draw ct (((Keep.refl _ w5).alloc _).trans kt)
      clear ct kt H5
      generalize ([-1, 3, 4] : List Int)[jt]?.getD 0 = z at hj
      have cj : wt.cell? ⟨B, 8, none⟩ = some _ := HT.out.fr.cell 8 rfl
      have ij := HT.out.fr.ice 8
      go_upto_region 16 with fail
      clear cj ij hj
      have d1 := HT.out.put 8 (.int .i64 z)
      generalize wt.setCell ⟨B, 8, none⟩ (.int .i64 z) = wu at d1 ⊢
      have H8 : Hid (DrA W bc ac len cap w B #[.int .i64 r0, .int .i64 r1, .slice sa T.length sc, .int .i64 r3, .int .i64 r4, .int .i64 r5, .int .i64 r6, .int .i64 r7, .int .i64 z, .int .i64 sm, .string bd] (.slice sa T.length sc) T wu) := d1
      clear d1 HT
      go_wp2_with (first | (refine wpList_load_row rfl 27 (.tmp 3) rfl B rfl _ _ _ _ H8.out.fr Try.underlying27 rfl (by kernel_rfl) ?_) | (refine wpList_store_row rfl 27 (.tmp 2) (.tmp 62) rfl w.heap.size _ rfl rfl _ _ H8.out.res (by kernel_rfl) rfl (frameOne _ _ _ _ _ _ _ _ _ _ _ _ _) ?_))
      exact DrA.done (f := ⟨r0, r1, T, r3, r4, r5, r6, r7, z, sm, bd⟩) H8.out (by show T.length ≤ 3; omega) hB rfl rfl
    · go_wp2_with fail
      refine (drawBelow hc 3 (by omega) _ (H5.out.cur.alloc _)).mono ?_
      rintro e wt ⟨⟨y, rfl, yy0, yy1⟩, ct, kt⟩
      obtain ⟨jt, rfl⟩ := Int.eq_ofNat_of_zero_le yy0
      have hj := tab [-1, 255, 256] _ _ rfl H5.out.cur.ne kt jt (by simp; omega)
      have HT : Hid (DrA W bc ac len cap w B #[.int .i64 r0, .int .i64 r1, .slice sa T.length sc, .int .i64 r3, .int .i64 r4, .int .i64 r5, .int .i64 r6, .int .i64 r7, .int .i64 r8, .int .i64 sm, .string bd] (.slice sa T.length sc) T wt) := H5.out.draw ct (((Keep.refl _ w5).alloc _).trans kt)
      clear ct kt H5
      generalize ([-1, 255, 256] : List Int)[jt]?.getD 0 = z at hj
      have cj : wt.cell? ⟨B, 5, none⟩ = some _ := HT.out.fr.cell 5 rfl
      have ij := HT.out.fr.ice 5
      go_upto_region 16 with fail
      clear cj ij hj
      have d1 := HT.out.put 5 (.int .i64 z)
      generalize wt.setCell ⟨B, 5, none⟩ (.int .i64 z) = wu at d1 ⊢
      have H8 : Hid (DrA W bc ac len cap w B #[.int .i64 r0, .int .i64 r1, .slice sa T.length sc, .int .i64 r3, .int .i64 r4, .int .i64 z, .int .i64 r6, .int .i64 r7, .int .i64 r8, .int .i64 sm, .string bd] (.slice sa T.length sc) T wu) := d1
      clear d1 HT
      go_wp2_with (first | (refine wpList_load_row rfl 27 (.tmp 3) rfl B rfl _ _ _ _ H8.out.fr Try.underlying27 rfl (by kernel_rfl) ?_) | (refine wpList_store_row rfl 27 (.tmp 2) (.tmp 62) rfl w.heap.size _ rfl rfl _ _ H8.out.res (by kernel_rfl) rfl (frameOne _ _ _ _ _ _ _ _ _ _ _ _ _) ?_))
      exact DrA.done (f := ⟨r0, r1, T, r3, r4, z, r6, r7, r8, sm, bd⟩) H8.out (by show T.length ≤ 3; omega) hB rfl rfl
    · go_wp2_with fail
      refine (drawBelow hc 3 (by omega) _ (H5.out.cur.alloc _)).mono ?_
      rintro e wt ⟨⟨y, rfl, yy0, yy1⟩, ct, kt⟩
      obtain ⟨jt, rfl⟩ := Int.eq_ofNat_of_zero_le yy0
      have hj := tab [-1, 65535, 65536] _ _ rfl H5.out.cur.ne kt jt (by simp; omega)
      have HT : Hid (DrA W bc ac len cap w B #[.int .i64 r0, .int .i64 r1, .slice sa T.length sc, .int .i64 r3, .int .i64 r4, .int .i64 r5, .int .i64 r6, .int .i64 r7, .int .i64 r8, .int .i64 sm, .string bd] (.slice sa T.length sc) T wt) := H5.out.draw ct (((Keep.refl _ w5).alloc _).trans kt)
      clear ct kt H5
      generalize ([-1, 65535, 65536] : List Int)[jt]?.getD 0 = z at hj
      have cj : wt.cell? ⟨B, 9, none⟩ = some _ := HT.out.fr.cell 9 rfl
      have ij := HT.out.fr.ice 9
      go_upto_region 16 with fail
      clear cj ij hj
      have d1 := HT.out.put 9 (.int .i64 z)
      generalize wt.setCell ⟨B, 9, none⟩ (.int .i64 z) = wu at d1 ⊢
      have H8 : Hid (DrA W bc ac len cap w B #[.int .i64 r0, .int .i64 r1, .slice sa T.length sc, .int .i64 r3, .int .i64 r4, .int .i64 r5, .int .i64 r6, .int .i64 r7, .int .i64 r8, .int .i64 z, .string bd] (.slice sa T.length sc) T wu) := d1
      clear d1 HT
      go_wp2_with (first | (refine wpList_load_row rfl 27 (.tmp 3) rfl B rfl _ _ _ _ H8.out.fr Try.underlying27 rfl (by kernel_rfl) ?_) | (refine wpList_store_row rfl 27 (.tmp 2) (.tmp 62) rfl w.heap.size _ rfl rfl _ _ H8.out.res (by kernel_rfl) rfl (frameOne _ _ _ _ _ _ _ _ _ _ _ _ _) ?_))
      exact DrA.done (f := ⟨r0, r1, T, r3, r4, r5, r6, r7, r8, z, bd⟩) H8.out (by show T.length ≤ 3; omega) hB rfl rfl
end Go.Proofs.Ytdifegaokdoleaa
