/-
  The model's bending of a text: some bytes put, taken, or turned, as the code draws them. By the verifier.
-/
import Derived.Test.YtddjflaceokoaaaDoorFrConv
import Derived.Test.YtddjflaceokoaaaDoorDrawCur
import Derived.Lib.ConvBytes
import Derived.Lib.SmallJoins
import Derived.Deep.RegionLaw
namespace Go.Proofs.YtddjflaceokoaaaDoor
open Go.RowKit

/-- A list of bytes that may be read and written, in a block of its own from base on. -/
structure Bs (base : Nat) (w : World) (g : Nat) (xs : List Int) : Prop where
  lo : base ≤ g
  lt : g < w.heap.size
  cell : ∀ j, j < xs.length → w.cell? ⟨g, j, none⟩ = some (.int .u8 (xs.getD j 0))
  ice : ∀ j, j < xs.length → w.frozen? ⟨g, j, none⟩ = false
theorem Bs.same {base : Nat} {w w' : World} {g : Nat} {xs : List Int} (h : Bs base w g xs) (hl : w.heap.size ≤ w'.heap.size) (e : w'.heap[g]? = w.heap[g]?) : Bs base w' g xs :=
  ⟨h.lo, Nat.lt_of_lt_of_le h.lt hl, fun j hj => (World.cell?_of_block (w := w) e).trans (h.cell j hj), fun j hj => (World.frozen?_of_block (w := w) e).trans (h.ice j hj)⟩
theorem Bs.take {base : Nat} {w : World} {g : Nat} {xs : List Int} (h : Bs base w g xs) (k : Nat) (hk : k ≤ xs.length) : Bs base w g (xs.take k) := by
  have hl : (xs.take k).length = k := by rw [List.length_take]; omega
  refine ⟨h.lo, h.lt, fun j hj => ?_, fun j hj => h.ice j (by omega)⟩
  rw [h.cell j (by omega)]
  congr 2
  simp only [List.getD, List.getElem?_take]
  rw [if_pos (by omega)]
theorem Bs.put {base : Nat} {w : World} {g : Nat} {xs : List Int} (h : Bs base w g xs) (k : Nat) (y : Int) (hk : k < xs.length) : Bs base (w.setCell ⟨g, k, none⟩ (.int .u8 y)) g (xs.set k y) := by
  have hl : (xs.set k y).length = xs.length := by simp
  refine ⟨h.lo, by simpa [World.setCell] using h.lt, fun j hj => ?_, fun j hj => ?_⟩
  · rw [hl] at hj
    by_cases e : j = k
    · subst e
      rw [World.cell?_setCell_same _ _ _ (h.cell j hj)]
      simp [List.getD, hk]
    · rw [World.cell?_setCell_other _ _ _ _ (by simp), h.cell j hj]
      congr 2
      simp only [List.getD, List.getElem?_set]
      rw [if_neg (fun e2 => e e2.symm)]
  · rw [hl] at hj
    rw [World.frozen?_setCell]
    exact h.ice j hj
theorem Row.bs {base : Nat} {w : World} {xs : List Int} {g cap : Nat} (h : Row base w (.slice (some ⟨g, 0, none⟩) xs.length cap) xs) : Bs base w g xs := by
  have q := World.ownsRow.lt h g rfl
  refine ⟨q.1, q.2, fun j hj => ?_, fun j _ => World.ownsRow.frozenAt h j⟩
  rw [World.ownsRow.cellAt h j (by omega)]
  simp [List.getD, hj]

/-- Bytes behind a list of the call's own, as a step of a region that draws. -/
theorem step_appB {ops : Array Oper} {o : Oper} {a : Act} {w : World} {K : Act → World → Prop} {Q : Exit → Act → World → Prop} {E : Prop} (hgd : o.guard = none) (s x : Operand)
    (ho : o.op = .call { callee := .builtin .append, args := #[s, x], argTypes := #[22, 22] })
    (base : Nat) (v : Value) (xs ys : List Int) (ad : Addr) (m c : Nat) (hs : a.eval s = v) (hrow : Row base w v xs) (hv : v ≠ .slice none 0 0) (hx : a.eval x = .slice (some ad) m c) (hm : ys.length = m)
    (hys : ∀ j, j < ys.length → w.cell? (ad.add j) = some (.int .u8 (ys.getD j 0)))
    (hlen : xs.length + ys.length ≤ 1000000) (hb : base ≤ w.heap.size)
    (h : ∀ g' c' w', Row base w' (.slice (some ⟨g', 0, none⟩) (xs ++ ys).length c') (xs ++ ys) → Below base w w' → K (a.put o.dst (.slice (some ⟨g', 0, none⟩) (xs ++ ys).length c')) w') :
    if Region.wanted o (yielded ops a.tmps) = true then Oper.wp Tryd.prog o a w K Q else E := by
  have hw : Region.wanted o (yielded ops a.tmps) = true := by simp [Region.wanted, hgd]
  rw [if_pos hw]
  subst hm
  obtain ⟨i0, hi, hz0, hz1, hz2⟩ := info_parts info5
  obtain ⟨v', w', hrun, h1, h2, h3⟩ := run_append_own (P := Tryd.prog) w base 22 o.type 5 i0 (.int .u8 0) 1 1 Tryd.underlying22 hi hz0 hz1 hz2 rfl (by decide) v _ _ hrow ad ys.length c (ys.map (Value.int .u8)) (by simp)
    (by
      intro j u hu
      have hj : j < ys.length := by
        apply Classical.byContradiction
        intro hn
        simp [List.getElem?_eq_none (show ys.length ≤ j by omega)] at hu
      rw [hys j hj]
      simp [List.getElem?_eq_getElem hj] at hu
      subst hu
      simp [List.getD, hj])
    (by intro u hu; simp only [List.mem_map] at hu; obtain ⟨y, _, rfl⟩ := hu; rfl) (by unfold maxLen; omega) (by omega) hb
  have hr := row_more rfl h1
  have hf : ∃ g' c', v' = .slice (some ⟨g', 0, none⟩) (xs ++ ys).length c' := by
    rcases hr.2 with ⟨e, _⟩ | ⟨g', c', cur, e, _⟩
    · exact absurd (h3.1 e).1 hv
    · exact ⟨g', c', e⟩
  obtain ⟨g', c', e⟩ := hf
  have hk := h g' c' w' (e ▸ hr) ((Below.refl base w).grown h2 hb (fun k hk => Row.block hrow k hk))
  rw [← e] at hk
  unfold Oper.wp
  simp [execOp, ho, resolve, invoke, builtin, hs, hx, hrun, Result.andThen]
  exact hk

theorem Bs.from {base : Nat} {w : World} {g : Nat} {xs : List Int} (h : Bs base w g xs) (k : Nat) : ∀ j, j < (xs.drop k).length → w.cell? ((⟨g, k, none⟩ : Addr).add j) = some (.int .u8 ((xs.drop k).getD j 0)) := by
  intro j hj
  rw [List.length_drop] at hj
  have := h.cell (k + j) (by omega)
  have e : (xs.drop k).getD j 0 = xs.getD (k + j) 0 := by simp [List.getD]
  rw [e, ← this]
  by_cases h0 : j = 0
  · subst h0; simp [Addr.add]
  · simp [Addr.add, h0]
theorem Bs.at0 {base : Nat} {w : World} {g : Nat} {xs : List Int} (h : Bs base w g xs) : ∀ j, j < xs.length → w.cell? ((⟨g, 0, none⟩ : Addr).add j) = some (.int .u8 (xs.getD j 0)) := by
  have := h.from 0
  simpa using this
theorem Row.cap {base : Nat} {w : World} {xs : List Int} {g c : Nat} (h : Row base w (.slice (some ⟨g, 0, none⟩) xs.length c) xs) : xs.length ≤ c := by
  rcases h.2 with ⟨e, _⟩ | ⟨g', c', cur, e, _, _, h4, _⟩
  · cases e
  · cases e; exact h4
/-- What lies while a text is bent. -/
structure Bd (W : World) (bc : Nat) (ac : Option Addr) (len cap : Nat) (w : World) (g : Nat) (xs : List Int) (wr : World) : Prop where
  bs : Bs w.heap.size wr g xs
  cur : Cur W bc ac len cap wr
  kp : Keep bc w wr
  bl : bc < w.heap.size
theorem Bd.draw {W : World} {bc : Nat} {ac : Option Addr} {len cap : Nat} {w : World} {g : Nat} {xs : List Int} {wr wd : World} (h : Bd W bc ac len cap w g xs wr) (c : Cur W bc ac len cap wd) (k : Keep bc wr wd) : Bd W bc ac len cap w g xs wd := by
  have h1 := h.bl
  have h2 := h.bs.lo
  exact ⟨h.bs.same k.size (k.block g (by omega) h.bs.lt), c, h.kp.trans k, h.bl⟩

theorem Bd.other {W : World} {bc : Nat} {ac : Option Addr} {len cap : Nat} {w : World} {g : Nat} {xs ys : List Int} {wr wd : World} {g5 c5 : Nat} (h : Bd W bc ac len cap w g xs wr) (r : Row wr.heap.size wd (.slice (some ⟨g5, 0, none⟩) ys.length c5) ys) (b : Below wr.heap.size wr wd) : Bd W bc ac len cap w g5 ys wd := by
  have h1 := h.kp.size
  refine ⟨(r.mono h1).bs, h.cur.below h.cur.lt b, h.kp.trans ⟨b.size, fun k _ hk => b.block k hk⟩, h.bl⟩

theorem Row.held {bc base : Nat} {w w' : World} {v : Value} {xs : List Int} (h : Row base w v xs) (hb : bc < base) (k : Keep bc w w') : Row base w' v xs := by
  refine ⟨h.1, h.2.imp id ?_⟩
  rintro ⟨g0, c0, cur, h1, h2, h3, h4⟩
  exact ⟨g0, c0, cur, h1, h2, by rw [k.block g0 (by omega) (Array.getElem?_eq_some_iff.1 h3).1]; exact h3, h4⟩
theorem Bd.fin {W : World} {bc : Nat} {ac : Option Addr} {len cap : Nat} {w : World} {g : Nat} {xs ys : List Int} {wr wd : World} {base g5 c5 : Nat} (h : Bd W bc ac len cap w g xs wr) (hb : w.heap.size ≤ base) (r : Row base wd (.slice (some ⟨g5, 0, none⟩) ys.length c5) ys) (b : Below base wr wd) : Bd W bc ac len cap w g5 ys wd := by
  have h1 := h.bl
  have h2 := h.kp.size
  have h3 := b.size
  exact ⟨(r.mono hb).bs, h.cur.below (by omega) b, ⟨by omega, fun k h4 h5 => (b.block k (by omega)).trans (h.kp.block k h4 h5)⟩, h1⟩
theorem one_at (w : World) (y : Int) : ∀ j, j < [y].length → (w.alloc (.cells #[.int .u8 y] 5)).cell? ((⟨w.heap.size, 0, none⟩ : Addr).add j) = some (.int .u8 ([y].getD j 0)) := by
  intro j hj
  obtain rfl : j = 0 := by simp at hj; omega
  simp [Addr.add, World.cell?, World.alloc, -World.alloc_eq]

set_option maxHeartbeats 6400000 in
set_option maxRecDepth 100000 in
theorem drawBend {W : World} {bc : Nat} {ac : Option Addr} {len cap : Nat} (hc : Hid (Code W ac len)) (s signs : ByteArray) (hs : s.size ≤ 4000) (hg : signs.size = 5) (w : World) (cur : Hid (Cur W bc ac len cap w)) :
    Calls Tryd.prog 26 #[.pointer (some ⟨bc, 0, none⟩), .string s, .string signs] w fun e w' => (∃ t : ByteArray, e = .returned (.string t) ∧ t.size ≤ s.size + 2) ∧ Cur W bc ac len cap w' ∧ Keep bc w w' := by
  have hbc := cur.out.lt
  have k0 := Lib.run_convert_string_bytes (P := Tryd.prog) w 9 22 5 s Tryd.underlying9 Tryd.underlying22 Tryd.underlying5
  have hcap : s.size ≤ grownCap w s.size 0 5 := grownCap_ge w s.size 0 5
  have hl0 : (bytesB s).length = s.size := by simp [bytesB]
  have D0 : Hid (Bd W bc ac len cap w w.heap.size (bytesB s) (Lib.bytesWorld w 5 s)) := by
    have b := Joins.below_bytesWorld w.heap.size w 5 s (Nat.le_refl _)
    refine ⟨⟨Nat.le_refl _, by rw [Lib.bytesWorld_size]; omega, fun j hj => ?_, fun j hj => ?_⟩, cur.out.below hbc b, ⟨b.size, fun k _ hk => b.block k hk⟩, hbc⟩
    · rw [hl0] at hj
      rw [Lib.bytesWorld_cell w 5 s j hj]
      simp [bytesB, List.getD, hj]
    · rw [hl0] at hj
      have hsz : s.size ≤ (Lib.bytesCells w 5 s).size := by
        unfold Lib.bytesCells
        rw [Array.size_append, Array.size_map]
        exact Nat.le_add_right _ _
      unfold World.frozen?
      rw [Lib.bytesWorld_at_new]
      simp
      omega
  generalize Lib.bytesWorld w 5 s = w1 at k0 D0
  generalize grownCap w s.size 0 5 = c1 at k0 hcap
  go_enter Tryd.func26, Tryd.ntmps26
  go_wp2_with fail
  clear k0
  refine (drawBelow hc 3 (by omega) _ D0.out.cur).mono ?_
  rintro e w2 ⟨⟨q, rfl, q0, q1⟩, c2, k2⟩
  have D2 : Hid (Bd W bc ac len cap w w.heap.size (bytesB s) w2) := D0.out.draw c2 k2
  clear c2 k2 D0
  go_wp2_with fail
  have hst : Hid (∀ xs : List Int, (strB xs).size = xs.length) := fun xs => strB_size xs
  rw [← hl0] at hcap ⊢
  generalize bytesB s = xs0 at D2 hcap hl0 ⊢
  go_loopw [7, 8, 9] (fun b n _ wr => ∃ (g cb : Nat) (xs : List Int) (z : Int), b = .slice (some ⟨g, 0, none⟩) xs.length cb ∧ n = .int .i64 z ∧ 0 ≤ z ∧ z ≤ 2 ∧ xs.length + z ≤ s.size + 2 ∧ xs.length ≤ cb ∧ Hid (Bd W bc ac len cap w g xs wr)) (fun _ n _ _ => (intOf n).toNat)
  case atStart => exact ⟨w.heap.size, c1, xs0, q, rfl, rfl, q0, by omega, by omega, hcap, D2⟩
  case round =>
    clear D2 hcap hl0
    obtain ⟨g, cb, xs, z, rfl, rfl, z0, z1, hlen, hcb, D⟩ := hrel
    have Hb : Hid (∀ wx, Bd W bc ac len cap w g xs wx → (convert 22 9 (.slice (some ⟨g, 0, none⟩) xs.length cb)).run Tryd.prog wx = .ok (.string (strB xs)) wx) := by
      show ∀ wx, _ → _
      intro wx h
      have hl := run_loadCells_list (P := Tryd.prog) wx ⟨g, 0, none⟩ (xs.map (Value.int .u8)) (by
        intro j u hu
        have hj : j < xs.length := by
          apply Classical.byContradiction
          intro hn
          simp [List.getElem?_eq_none (show xs.length ≤ j by omega)] at hu
        have := h.bs.cell j hj
        simp [List.getElem?_eq_getElem hj] at hu
        subst hu
        by_cases hj0 : j = 0
        · subst hj0; simpa [Addr.add, List.getD, hj] using this
        · simpa [Addr.add, hj0, List.getD, hj] using this)
      rw [List.length_map] at hl
      rw [run_convert_bytes_string wx 22 9 5 _ _ _ Tryd.underlying22 Tryd.underlying5 Tryd.underlying9, run_bytesToString wx ⟨g, 0, none⟩ xs.length cb xs hl, foldl_strB]
    obtain ⟨n, hn⟩ : ∃ n, xs.length = n := ⟨_, rfl⟩
    have Hn : Hid (xs.length = n) := hn
    rw [hn] at hlen hcb Hb ⊢
    clear hn
    have done : (¬ 0 < z ∨ ¬ 0 < n) → True := fun _ => trivial
    clear done
    by_cases hz : 0 < z
    · by_cases hn0 : 0 < n
      · have hn1 : (0 : Int) < (n : Int) := by omega
        go_wp2_with fail
        refine (drawBelow hc n hn1 _ D.out.cur).mono ?_
        rintro e wa ⟨⟨kk, rfl, k0, k1⟩, ca, ka⟩
        have Da : Hid (Bd W bc ac len cap w g xs wa) := D.out.draw ca ka
        clear ca ka D Hb
        obtain ⟨k, rfl⟩ := Int.eq_ofNat_of_zero_le k0
        go_wp2_with fail
        refine (drawBelow hc 4 (by omega) _ Da.out.cur).mono ?_
        rintro e wb ⟨⟨y, rfl, y0, y1⟩, cb', kb⟩
        have Db : Hid (Bd W bc ac len cap w g xs wb) := Da.out.draw cb' kb
        clear cb' kb Da
        rcases (show y = 0 ∨ y = 1 ∨ y = 2 ∨ y = 3 by omega) with rfl | rfl | rfl | rfl
        · go_wp2_with fail
          refine (drawBelow hc 5 (by omega) _ Db.out.cur).mono ?_
          rintro e wd ⟨⟨u, rfl, u0, u1⟩, cd, kd⟩
          have Dd : Hid (Bd W bc ac len cap w g xs wd) := Db.out.draw cd kd
          clear cd kd Db
          have DD : Hid (∀ y : Int, Bd W bc ac len cap w g (xs.set k y) (wd.setCell ⟨g, k, none⟩ (.int .u8 y))) := by
            show ∀ y : Int, _
            intro y
            have e1 := Dd.out.bs.lo
            have e2 := Dd.out.bl
            have e3 := Dd.out.cur.lo
            have hb : Below W.heap.size wd (wd.setCell ⟨g, k, none⟩ (.int .u8 y)) := (Below.refl _ wd).setCell (by show W.heap.size ≤ g; omega) _
            refine ⟨Dd.out.bs.put k y (by rw [Hn.out]; omega), Dd.out.cur.other (B := g) (by omega) (fun j hj => Below.heap_setCell _ _ _ _ hj) hb, ⟨by have := Dd.out.kp.size; simpa [World.setCell] using this, fun j h1 h2 => (Below.heap_setCell _ _ _ _ (by show j ≠ g; omega)).trans (Dd.out.kp.block j h1 h2)⟩, e2⟩
          have c0 := Dd.out.bs.cell k (by rw [Hn.out]; omega)
          have f0 := Dd.out.bs.ice k (by rw [Hn.out]; omega)
          have u2 : u < (signs.size : Int) := by omega
          have hkn : (k : Int) < (n : Int) := k1
          go_wp2
          go_roundw
          case rel => exact ⟨g, cb, xs.set k _, z - 1, by rw [List.length_set, Hn.out], by go_num, by omega, by omega, by rw [List.length_set, Hn.out]; omega, by rw [List.length_set, Hn.out]; exact hcb, DD.out _⟩
          case measure => simp [intOf]; omega
        · have DD : Hid (Bd W bc ac len cap w g (xs.take k) wb) := ⟨Db.out.bs.take k (by rw [Hn.out]; omega), Db.out.cur, Db.out.kp, Db.out.bl⟩
          have hl : (xs.take k).length = k := by rw [List.length_take, Hn.out]; omega
          have Hl : Hid _ := hl
          clear hl Db
          have hk1 : (k : Int) ≤ cb := by omega
          go_wp2
          go_roundw
          case rel => exact ⟨g, cb, xs.take k, z - 1, by rw [Hl.out], by go_num, by omega, by omega, by rw [Hl.out]; omega, by rw [Hl.out]; omega, DD⟩
          case measure => simp [intOf]; omega
        · have hk1 : (k : Int) ≤ cb := by omega
          have hk2 : (k : Int) + 1 ≤ n := by omega
          have hk3 : (k : Int) + 1 ≤ cb := by omega
          have hk4 : IntKind.i64.wrap ((k : Int) + 1) = (k : Int) + 1 := by rw [IntKind.wrap_i64]; omega
          have hk5 : 0 ≤ (k : Int) + 1 := by omega
          have hlk : (xs.take k).length = k := by rw [List.length_take, Hn.out]; omega
          have HR : Hid (Row wb.heap.size (wb.alloc (.cells #[] 5)).drew (.slice (some ⟨wb.heap.size, 0, none⟩) 0 0) []) := World.ownsRow.drew (World.ownsRow_lit (size := 1) wb #[] 0 (Nat.le_refl _) (by unfold maxLen; omega) rfl)
          have HB : Hid (Bs w.heap.size (wb.alloc (.cells #[] 5)).drew g xs) := Db.out.bs.same (by simp) (Below.heap_alloc _ _ _ Db.out.bs.lt)
          have HC : Hid (∀ j, j < (xs.take k).length → (wb.alloc (.cells #[] 5)).drew.cell? ((⟨g, 0, none⟩ : Addr).add j) = some (.int .u8 ((xs.take k).getD j 0))) := (HB.out.take k (by rw [Hn.out]; omega)).at0
          have Hlk : Hid _ := hlk
          have hld : (xs.drop (k + 1)).length = n - (k + 1) := by rw [List.length_drop, Hn.out]
          have Hld : Hid _ := hld
          have hll : (xs.take k ++ xs.drop (k + 1)).length = k + (n - (k + 1)) := by rw [List.length_append, hlk, hld]
          have Hll : Hid _ := hll
          have HD : Hid (∀ g5 c5 w5, Row wb.heap.size w5 (.slice (some ⟨g5, 0, none⟩) (xs.take k ++ xs.drop (k + 1)).length c5) (xs.take k ++ xs.drop (k + 1)) → Below wb.heap.size wb w5 → Bd W bc ac len cap w g5 (xs.take k ++ xs.drop (k + 1)) w5) := fun g5 c5 w5 r b => Db.out.other r b
          have Hcc : Hid (∀ g5 c5 w5, Row wb.heap.size w5 (.slice (some ⟨g5, 0, none⟩) (xs.take k ++ xs.drop (k + 1)).length c5) (xs.take k ++ xs.drop (k + 1)) → (xs.take k ++ xs.drop (k + 1)).length ≤ c5) := fun g5 c5 w5 r => r.cap
          clear hlk hld hll
          by_cases hcc : cb = k + 1
          · have hct : (cb = k + 1) = True := by simp [hcc]
            have Hnk : Hid (n = k + 1) := by show n = k + 1; omega
            clear hcc
            go_wp2_with fail
            go_region_law (first | (refine step_appB rfl (.tmp 47) (.tmp 50) rfl wb.heap.size (.slice (some ⟨wb.heap.size, 0, none⟩) 0 0) [] (xs.take k) ⟨g, 0, none⟩ k cb rfl HR.out (by simp) rfl Hlk.out HC.out (by rw [Hlk.out]; simp; omega) (by simp) ?_; intro g5 c5 w5 r5 b5; have R5 : Hid (Row wb.heap.size w5 (.slice (some ⟨g5, 0, none⟩) k c5) (xs.take k) ∧ Below wb.heap.size wb w5) := ⟨by have q := r5; simp only [List.nil_append] at q; rw [Hlk.out] at q; exact q, ((Below.refl _ wb).alloc (Nat.le_refl _) _).drew.trans b5⟩; clear r5 b5; simp only [List.nil_append, Hlk.out]) | (refine step_appB rfl (.tmp 51) (.tmp 55) rfl wb.heap.size (.slice (some ⟨g5, 0, none⟩) k c5) (xs.take k) (xs.drop (k + 1)) ⟨g, 0, none⟩ (n - (k + 1)) (cb - (k + 1)) rfl R5.out.1 (by simp) rfl Hld.out (by intro j hj; rw [Hld.out] at hj; have := Hnk.out; omega) (by rw [Hlk.out, Hld.out]; omega) R5.out.2.size ?_; intro g6 c6 w6 r6 b6; have R6 : Hid (Bd W bc ac len cap w g6 (xs.take k ++ xs.drop (k + 1)) w6 ∧ (xs.take k ++ xs.drop (k + 1)).length ≤ c6) := ⟨HD.out _ _ _ r6 (R5.out.2.trans b6), Hcc.out _ _ _ r6⟩; clear r6 b6 R5; rw [Hll.out]))
            clear HR HB HC Db
            go_wp2
            go_roundw
            case rel => exact ⟨g6, c6, xs.take k ++ xs.drop (k + 1), z - 1, by rw [Hll.out], by go_num, by omega, by omega, by rw [Hll.out]; omega, R6.out.2, R6.out.1⟩
            case measure => simp [intOf]; omega
          · go_wp2_with fail
            go_region_law (first | (refine step_appB rfl (.tmp 47) (.tmp 50) rfl wb.heap.size (.slice (some ⟨wb.heap.size, 0, none⟩) 0 0) [] (xs.take k) ⟨g, 0, none⟩ k cb rfl HR.out (by simp) rfl Hlk.out HC.out (by rw [Hlk.out]; simp; omega) (by simp) ?_; intro g5 c5 w5 r5 b5; have R5 : Hid (Row wb.heap.size w5 (.slice (some ⟨g5, 0, none⟩) k c5) (xs.take k) ∧ Below wb.heap.size wb w5) := ⟨by have q := r5; simp only [List.nil_append] at q; rw [Hlk.out] at q; exact q, ((Below.refl _ wb).alloc (Nat.le_refl _) _).drew.trans b5⟩; clear r5 b5; simp only [List.nil_append, Hlk.out]) | (refine step_appB rfl (.tmp 51) (.tmp 55) rfl wb.heap.size (.slice (some ⟨g5, 0, none⟩) k c5) (xs.take k) (xs.drop (k + 1)) ⟨g, k + 1, none⟩ (n - (k + 1)) (cb - (k + 1)) rfl R5.out.1 (by simp) rfl Hld.out ((Db.out.bs.same R5.out.2.size (R5.out.2.block g Db.out.bs.lt)).from (k + 1)) (by rw [Hlk.out, Hld.out]; omega) R5.out.2.size ?_; intro g6 c6 w6 r6 b6; have R6 : Hid (Bd W bc ac len cap w g6 (xs.take k ++ xs.drop (k + 1)) w6 ∧ (xs.take k ++ xs.drop (k + 1)).length ≤ c6) := ⟨HD.out _ _ _ r6 (R5.out.2.trans b6), Hcc.out _ _ _ r6⟩; clear r6 b6 R5; rw [Hll.out]))
            clear HR HB HC Db
            go_wp2
            go_roundw
            case rel => exact ⟨g6, c6, xs.take k ++ xs.drop (k + 1), z - 1, by rw [Hll.out], by go_num, by omega, by omega, by rw [Hll.out]; omega, R6.out.2, R6.out.1⟩
            case measure => simp [intOf]; omega
        · have hk1 : (k : Int) ≤ cb := by omega
          have hk2 : (k : Int) ≤ n := by omega
          have hck : ¬ cb = k := by omega
          have hlk : (xs.take k).length = k := by rw [List.length_take, Hn.out]; omega
          have Hlk : Hid _ := hlk
          have hld : (xs.drop k).length = n - k := by rw [List.length_drop, Hn.out]
          have Hld : Hid _ := hld
          have Hll : Hid (∀ y : Int, (xs.take k ++ [y] ++ xs.drop k).length = k + 1 + (n - k)) := fun y => by rw [List.length_append, List.length_append, hlk, hld]; rfl
          have Hl1 : Hid (∀ y : Int, (xs.take k ++ [y]).length = k + 1) := fun y => by rw [List.length_append, hlk]; rfl
          have Hcc : Hid (∀ (zs : List Int) b g5 c5 w5, Row b w5 (.slice (some ⟨g5, 0, none⟩) zs.length c5) zs → zs.length ≤ c5) := fun zs b g5 c5 w5 r => r.cap
          have Hsz : Hid (w.heap.size ≤ wb.heap.size ∧ bc < wb.heap.size ∧ g < wb.heap.size) := ⟨Db.out.kp.size, Db.out.cur.lt, Db.out.bs.lt⟩
          have HR : Hid (∀ wz : World, wb.heap.size ≤ wz.heap.size → Row wb.heap.size (wz.alloc (.cells #[] 5)) (.slice (some ⟨wz.heap.size, 0, none⟩) 0 0) []) := fun wz hz => World.ownsRow_lit (size := 1) wz #[] 0 hz (by unfold maxLen; omega) rfl
          have HT : Hid (∀ wz : World, Bd W bc ac len cap w g xs wz → ∀ j, j < (xs.take k).length → wz.cell? ((⟨g, 0, none⟩ : Addr).add j) = some (.int .u8 ((xs.take k).getD j 0))) := fun wz h => (h.bs.take k (by rw [Hn.out]; omega)).at0
          have HM : Hid (∀ v (w5 w6 : World), Row wb.heap.size w5 v (xs.take k) → Keep bc w5 w6 → Row wb.heap.size w6 v (xs.take k)) := fun v w5 w6 r kk => r.held Hsz.out.2.1 kk
          have HE : Hid (∀ w5 w6 : World, Bd W bc ac len cap w g xs w5 → Below wb.heap.size w5 w6 → Bd W bc ac len cap w g xs w6) := fun w5 w6 h b => by
            have e1 := Hsz.out
            exact ⟨h.bs.same b.size (b.block g e1.2.2), h.cur.below e1.2.1 b, ⟨by have := h.kp.size; have := b.size; omega, fun j h4 h5 => (b.block j (by omega)).trans (h.kp.block j h4 h5)⟩, h.bl⟩
          have HA : Hid (Bd W bc ac len cap w g xs (wb.alloc (.cells #[] 5)).drew) := HE.out _ _ Db.out (((Below.refl _ wb).alloc (Nat.le_refl _) _).drew)
          have HF : Hid (∀ (w7 w8 : World) (zs : List Int) (g8 c8 : Nat), Bd W bc ac len cap w g xs w7 → Row wb.heap.size w8 (.slice (some ⟨g8, 0, none⟩) zs.length c8) zs → Below wb.heap.size w7 w8 → Bd W bc ac len cap w g8 zs w8) := fun w7 w8 zs g8 c8 h r b => h.fin Hsz.out.1 r b
          have HG : Hid (∀ w7 : World, Bd W bc ac len cap w g xs w7 → ∀ j, j < (xs.drop k).length → w7.cell? ((⟨g, k, none⟩ : Addr).add j) = some (.int .u8 ((xs.drop k).getD j 0))) := fun w7 h => h.bs.from k
          clear hlk hld
          go_wp2_with fail
          go_region_law (first | (refine step_call rfl 25 rfl #[.pointer (some ⟨bc, 0, none⟩), .int .i64 5] (by kernel_rfl) (drawBelow hc 5 (by omega) w5 RA.out.1.cur) ?_; rintro e wX ⟨⟨u, rfl, u0, u1⟩, cX, kX⟩; refine ⟨_, rfl, ?_⟩; have HX : Hid (Bd W bc ac len cap w g xs wX ∧ Row wb.heap.size wX (.slice (some ⟨g5, 0, none⟩) k c5) (xs.take k) ∧ wb.heap.size ≤ wX.heap.size) := ⟨RA.out.1.draw cX kX, HM.out _ _ _ RA.out.2.1 kX, Nat.le_trans RA.out.2.2 kX.size⟩; have u2 : u < (signs.size : Int) := (by omega); clear cX kX RA) | (refine step_appB rfl (.tmp 59) (.tmp 62) rfl wb.heap.size (.slice (some ⟨wb.heap.size, 0, none⟩) 0 0) [] (xs.take k) ⟨g, 0, none⟩ k cb rfl (HR.out wb (Nat.le_refl _)).drew (by simp) rfl Hlk.out (HT.out _ HA.out) (by rw [Hlk.out]; simp; omega) (by simp) ?_; intro g5 c5 w5 r5 b5; have RA : Hid (Bd W bc ac len cap w g xs w5 ∧ Row wb.heap.size w5 (.slice (some ⟨g5, 0, none⟩) k c5) (xs.take k) ∧ wb.heap.size ≤ w5.heap.size) := ⟨HE.out _ _ HA.out b5, by have q := r5; simp only [List.nil_append] at q; rw [Hlk.out] at q; exact q, Nat.le_trans (by simp) b5.size⟩; clear r5 b5; simp only [List.nil_append, Hlk.out]) | (refine step_appB rfl (.tmp 63) (.tmp 70) rfl wb.heap.size (.slice (some ⟨g5, 0, none⟩) k c5) (xs.take k) [_] ⟨wX.heap.size, 0, none⟩ 1 1 rfl (HX.out.2.1.alloc _) (by simp) rfl rfl (one_at wX _) (by rw [Hlk.out]; simp; omega) (Nat.le_trans HX.out.2.2 (by simp)) ?_; intro g7 c7 w7 r7 b7; have H7 : Hid (Bd W bc ac len cap w g xs w7 ∧ Row wb.heap.size w7 (.slice (some ⟨g7, 0, none⟩) (k + 1) c7) (xs.take k ++ [_]) ∧ wb.heap.size ≤ w7.heap.size) := ⟨HE.out _ _ HX.out.1 (((Below.refl _ wX).alloc HX.out.2.2 _).trans b7), by have q := r7; rw [Hl1.out] at q; exact q, Nat.le_trans HX.out.2.2 (Nat.le_trans (by simp) b7.size)⟩; clear r7 b7 HX; rw [Hl1.out]) | (refine step_appB rfl (.tmp 71) (.tmp 74) rfl wb.heap.size (.slice (some ⟨g7, 0, none⟩) (k + 1) c7) _ (xs.drop k) ⟨g, k, none⟩ (n - k) (cb - k) rfl H7.out.2.1 (by simp) rfl Hld.out (HG.out _ H7.out.1) (by rw [Hl1.out, Hld.out]; omega) H7.out.2.2 ?_; intro g8 c8 w8 r8 b8; have H8 : Hid (∃ y : Int, Bd W bc ac len cap w g8 (xs.take k ++ [y] ++ xs.drop k) w8 ∧ (xs.take k ++ [y] ++ xs.drop k).length ≤ c8) := ⟨_, HF.out _ _ _ _ _ H7.out.1 r8 b8, Hcc.out _ _ _ _ _ r8⟩; clear r8 b8 H7; rw [Hll.out]))
          all_goals (clear HR HT HA HM HE HF HG Db; obtain ⟨y, h81, h82⟩ := H8.out; have H9 : Hid (Bd W bc ac len cap w g8 (xs.take k ++ [y] ++ xs.drop k) w8) := h81; clear H8 h81; rw [Hll.out] at h82; go_wp2; go_roundw)
          all_goals first | exact ⟨g8, c8, xs.take k ++ [y] ++ xs.drop k, z - 1, by rw [Hll.out], by go_num, by omega, by omega, by rw [Hll.out]; omega, by rw [Hll.out]; exact h82, H9⟩ | (simp [intOf]; omega)
      · have hn1 : ¬ (0 : Int) < (n : Int) := by omega
        have k0 := Hb.out _ D.out
        go_wp2
        go_ret
        exact ⟨⟨_, rfl, by rw [hst.out, Hn.out]; omega⟩, D.out.cur, D.out.kp⟩
    · have k0 := Hb.out _ D.out
      go_wp2
      go_ret
      exact ⟨⟨_, rfl, by rw [hst.out, Hn.out]; omega⟩, D.out.cur, D.out.kp⟩
end Go.Proofs.YtddjflaceokoaaaDoor
