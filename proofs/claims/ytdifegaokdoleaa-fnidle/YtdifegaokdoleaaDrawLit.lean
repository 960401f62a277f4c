/-
  The model's drawing of frames: the literal at its head. By the verifier.
-/
import Derived.Test.YtdifegaokdoleaaRegInv
import Derived.Test.YtdifegaokdoleaaM6DrawKeep
import Derived.Test.YtdifegaokdoleaaM0DrawFrom
import Derived.Test.YtdifegaokdoleaaM3FrRow
import Derived.Test.YtdifegaokdoleaaM4SumL3
import Derived.Deep.RegionLaw
import Derived.Deep.DeepCutAuto
import Derived.Laws.CopyOwn
namespace Go.Proofs.Ytdifegaokdoleaa
open Go.RowKit

theorem op_below {W : World} {bc : Nat} {ac : Option Addr} {len cap : Nat} (hc : Hid (Code W ac len)) {o : Oper} {a : Act} {w : World} {K : Act → World → Prop} {Q : Exit → Act → World → Prop} (t : Tmp) (n : Int) (n0 : 0 < n)
    (ho : o.op = .call { callee := .value (.func 56), args := #[.tmp t, .const (.int .i64 n)], argTypes := #[48, 2] }) (hv : a.tmps.getD t undef = .pointer (some ⟨bc, 0, none⟩)) (cur : Cur W bc ac len cap w)
    (h : ∀ x w', 0 ≤ x → x < n → Cur W bc ac len cap w' → Keep bc w w' → K (a.put o.dst (.int .i64 x)) w') : o.wp Try.prog a w K Q := by
  have hv' : a.tmps[t]?.getD undef = .pointer (some ⟨bc, 0, none⟩) := by simpa using hv
  have hrun : (execOp a.eval o).run Try.prog w = .ok (.enter 56 #[.pointer (some ⟨bc, 0, none⟩), .int .i64 n]) w := by
    simp [execOp, ho, resolve, Deferred.ofValue, invoke, Act.eval, hv']
  unfold Oper.wp
  rw [hrun, Oper.upon_enter]
  refine (drawBelow hc n n0 w cur).mono fun e w' hh => ?_
  obtain ⟨⟨x, rfl, x0, x1⟩, c, k⟩ := hh
  exact h x w' x0 x1 c k

theorem shl29 {x : Int} (x0 : 0 ≤ x) (x1 : x < 8) : 0 ≤ IntKind.i64.wrap (x * 536870912) ∧ IntKind.i64.wrap (x * 536870912) ≤ 4294967295 := by
  rw [IntKind.wrap_i64]
  omega
theorem or_nonneg {x y : Int} (x0 : 0 ≤ x) (x1 : x ≤ 4294967295) (y0 : 0 ≤ y) (y1 : y ≤ 4294967295) : 0 ≤ bits .or .i64 x y := by
  show 0 ≤ IntKind.i64.wrap ((BitVec.ofInt 64 x ||| BitVec.ofInt 64 y).toNat : Nat)
  have h : (BitVec.ofInt 64 x ||| BitVec.ofInt 64 y).toNat < 2 ^ 32 := by
    rw [BitVec.toNat_or, BitVec.toNat_ofInt, BitVec.toNat_ofInt]
    apply Nat.or_lt_two_pow <;> omega
  rw [IntKind.wrap_i64]
  omega
/-- The table of protocols. -/
def protoTab : Array Value := #[.int .i64 6, .int .i64 17, .int .i64 1]
/-- What is known of each operation's value. -/
def litPr (w1 : World) (bc : Nat) : Nat → World → Value → Prop := fun i w v =>
  if i = 1 ∨ i = 3 ∨ i = 5 ∨ i = 8 ∨ i = 11 ∨ i = 15 ∨ i = 19 ∨ i = 21 ∨ i = 23 then ∃ x : Int, v = .int .i64 x ∧ 0 ≤ x ∧ x < (if i = 1 ∨ i = 19 then 65536 else if i = 3 then 9 else if i = 5 ∨ i = 8 then 8 else if i = 15 then 3 else if i = 21 then 200 else 4)
  else if i = 6 ∨ i = 9 then ∃ x : Int, v = .int .i64 x ∧ 0 ≤ x ∧ x ≤ 4294967295
  else if i = 12 then ∃ x : Int, v = .int .i64 x ∧ 0 ≤ x
  else if i = 13 then ∃ B, v = .slice (some ⟨B, 0, none⟩) 3 3 ∧ B ≠ bc ∧ Boxed w B protoTab 2
  else if i = 16 then ∃ B j, v = .pointer (some ⟨B, j, none⟩) ∧ j < 3 ∧ B ≠ bc ∧ Boxed w B protoTab 2
  else if i = 17 then ∃ x : Int, v = .int .i64 x ∧ 0 ≤ x ∧ x ≤ 255
  else if i = 24 then ∃ r0 r1 r3 r4 r5 r6 r7 r8 : Int, v = .agg #[.int .i64 r0, .int .i64 r1, .slice none 0 0, .int .i64 r3, .int .i64 r4, .int .i64 r5, .int .i64 r6, .int .i64 r7, .int .i64 r8, .int .i64 0, .string ⟨#[]⟩] ∧ 0 ≤ r3 ∧ 0 ≤ r4 ∧ (0 ≤ r5 ∧ r5 ≤ 255) ∧ 0 ≤ r6 ∧ 0 ≤ r7 ∧ (0 ≤ r8 ∧ r8 ≤ 3)
  else if i = 25 then ∃ B, v = .pointer (some ⟨B, 0, none⟩) ∧ B ≠ bc ∧ w1.heap.size ≤ B ∧ Boxed w B zeroFr 27
  else v = .pointer (some ⟨bc, 0, none⟩)
theorem litPr_keep {w1 : World} {bc : Nat} (i : Nat) (w w' : World) (v : Value) (h : litPr w1 bc i w v) (k : Keep bc w w') : litPr w1 bc i w' v := by
  unfold litPr at *
  split
  · rename_i h1; rw [if_pos h1] at h; exact h
  rename_i h1; rw [if_neg h1] at h
  split
  · rename_i h2; rw [if_pos h2] at h; exact h
  rename_i h2; rw [if_neg h2] at h
  split
  · rename_i h8; rw [if_pos h8] at h; exact h
  rename_i h8; rw [if_neg h8] at h
  split
  · rename_i h3; rw [if_pos h3] at h; obtain ⟨B, e, hne, hb⟩ := h; exact ⟨B, e, hne, hb.keep hne k⟩
  rename_i h3; rw [if_neg h3] at h
  split
  · rename_i h4; rw [if_pos h4] at h; obtain ⟨B, j, e, hj, hne, hb⟩ := h; exact ⟨B, j, e, hj, hne, hb.keep hne k⟩
  rename_i h4; rw [if_neg h4] at h
  split
  · rename_i h5; rw [if_pos h5] at h; exact h
  rename_i h5; rw [if_neg h5] at h
  split
  · rename_i h6; rw [if_pos h6] at h; exact h
  rename_i h6; rw [if_neg h6] at h
  split
  · rename_i h7; rw [if_pos h7] at h; obtain ⟨B, e, hne, hlo, hb⟩ := h; exact ⟨B, e, hne, hlo, hb.keep hne k⟩
  rename_i h7; rw [if_neg h7] at h
  exact h

/-- Behind the literal. -/
def LitAt (W : World) (bc : Nat) (ac : Option Addr) (len cap : Nat) (w : World) (s3 : Value) (wc : World) : Prop :=
  ∃ (B : Nat) (r0 r1 r3 r4 r5 r6 r7 r8 : Int), s3 = .pointer (some ⟨B, 0, none⟩) ∧ w.heap.size < B ∧ Boxed wc B #[.int .i64 r0, .int .i64 r1, .slice none 0 0, .int .i64 r3, .int .i64 r4, .int .i64 r5, .int .i64 r6, .int .i64 r7, .int .i64 r8, .int .i64 0, .string ⟨#[]⟩] 27 ∧ (0 ≤ r3 ∧ 0 ≤ r4 ∧ (0 ≤ r5 ∧ r5 ≤ 255) ∧ 0 ≤ r6 ∧ 0 ≤ r7 ∧ (0 ≤ r8 ∧ r8 ≤ 3)) ∧ Boxed wc w.heap.size zeroFr 27 ∧ Cur W bc ac len cap wc ∧ Keep bc w wc
/-- The call's own memory: the frame that is drawn, the answer's variable, the cursor, the tags. -/
structure Dr (W : World) (bc : Nat) (ac : Option Addr) (len cap : Nat) (w : World) (B : Nat) (cs : Array Value) (sl : Value) (T : List Int) (wr : World) : Prop where
  fr : Boxed wr B cs 27
  res : Boxed wr w.heap.size zeroFr 27
  cur : Cur W bc ac len cap wr
  kp : Keep bc w wr
  row : IRow (B + 1) wr sl T
theorem Dr.draw {W : World} {bc : Nat} {ac : Option Addr} {len cap : Nat} {w : World} {B : Nat} {cs : Array Value} {sl : Value} {T : List Int} {wr wd : World} (h : Dr W bc ac len cap w B cs sl T wr) (hb : bc < w.heap.size) (hB : w.heap.size < B) (c : Cur W bc ac len cap wd) (k : Keep bc wr wd) : Dr W bc ac len cap w B cs sl T wd :=
  ⟨h.fr.keep (by omega) k, h.res.keep (by omega) k, c, h.kp.trans k, h.row.carry fun i hi hl => k.block i (by omega) hl⟩
theorem Dr.put {W : World} {bc : Nat} {ac : Option Addr} {len cap : Nat} {w : World} {B : Nat} {cs : Array Value} {sl : Value} {T : List Int} {wr : World} (h : Dr W bc ac len cap w B cs sl T wr) (hb : bc < w.heap.size) (hB : w.heap.size < B) (hW : W.heap.size ≤ w.heap.size) (j : Nat) (v : Value) : Dr W bc ac len cap w B (cs.setIfInBounds j v) sl T (wr.setCell ⟨B, j, none⟩ v) := by
  have o : ∀ k, k ≠ B → (wr.setCell ⟨B, j, none⟩ v).heap[k]? = wr.heap[k]? := fun k hk => Below.heap_setCell _ _ _ _ hk
  refine ⟨h.fr.put j v, h.res.far (by omega) j v, h.cur.other (by omega) o ((Below.refl _ _).setCell (p := ⟨B, j, none⟩) (by show W.heap.size ≤ B; omega) _), ⟨by have := h.kp.size; simp only [World.setCell, Array.size_modify]; exact this, fun k h1 h2 => (o k (by omega)).trans (h.kp.block k h1 h2)⟩, h.row.carry fun i hi _ => o i (by omega)⟩
theorem Dr.grow {W : World} {bc : Nat} {ac : Option Addr} {len cap : Nat} {w : World} {B : Nat} {cs : Array Value} {sl sl' : Value} {T T' : List Int} {wr wd : World} (h : Dr W bc ac len cap w B cs sl T wr) (hb : bc < w.heap.size) (hB : w.heap.size < B) (g : Below (B + 1) wr wd) (r : IRow (B + 1) wd sl' T') : Dr W bc ac len cap w B cs sl' T' wd :=
  ⟨h.fr.below (by omega) g, h.res.below (by omega) g, h.cur.below (by omega) g, ⟨Nat.le_trans h.kp.size g.size, fun k h1 h2 => (g.block k (by omega)).trans (h.kp.block k h1 h2)⟩, r⟩

/-- Nought bytes. -/
def zeros (n : Nat) : Array Value := ((List.replicate n (0 : Int)).map (Value.int .u8)).toArray
theorem makeBytes (n : Nat) (hn : n ≤ 1503) (wx : World) : (Instr.makeSlice 22 (.int .i64 (n : Int)) (.int .i64 (n : Int))).run Try.prog wx = .ok (.slice (some ⟨wx.heap.size, 0, none⟩) n n) (wx.alloc (.cells (zeros n) 5)) := by
  obtain ⟨i0, hi, hz0, hz1, hz2⟩ := info_parts info5
  have := run_make (P := Try.prog) wx 22 5 i0 (.int .u8 0) Try.underlying22 hi hz0 .i64 .i64 n n (by omega) (by omega) (by rw [hz2]; omega) (by omega)
  rw [this, hz1]
  have e : madeCells #[Value.int .u8 0] n = zeros n := by
    have h := toList_madeCells_one (.int .u8 0) n
    rw [← Array.toArray_toList (xs := madeCells _ _), h]
    simp [zeros]
  rw [← e]
  simp [Value.cells]
theorem makeConv (n : Nat) (hn : n ≤ 1503) (wx : World) : (convert 22 9 (.slice (some ⟨wx.heap.size, 0, none⟩) n n)).run Try.prog (wx.alloc (.cells (zeros n) 5)) = .ok (.string (strB (List.replicate n 0))) (wx.alloc (.cells (zeros n) 5)) := by
  have r : Row wx.heap.size (wx.alloc (.cells (zeros n) 5)) (.slice (some ⟨wx.heap.size, 0, none⟩) (List.replicate n (0 : Int)).length n) (List.replicate n 0) := by
    have := World.ownsRow_lit (size := 1) (e := 5) (base := wx.heap.size) wx (zeros n) n (Nat.le_refl _) (by unfold maxLen; omega) (by simp [zeros])
    unfold Row
    simpa [zeros] using this
  have h := r.conv
  rw [List.length_replicate] at h
  exact h
theorem drEnd {W : World} {bc : Nat} {ac : Option Addr} {len cap : Nat} {w : World} {B : Nat} {r0 r1 r3 r4 r5 r6 r7 r8 sm : Int} {bd : ByteArray} {sa : Option Addr} {sc : Nat} {T : List Int} {wr : World}
    (h : Dr W bc ac len cap w B #[.int .i64 r0, .int .i64 r1, .slice sa T.length sc, .int .i64 r3, .int .i64 r4, .int .i64 r5, .int .i64 r6, .int .i64 r7, .int .i64 r8, .int .i64 sm, .string bd] (.slice sa T.length sc) T wr) (hbc : bc < w.heap.size) (hB : w.heap.size < B) (hW : W.heap.size ≤ w.heap.size)
    (hq : 0 ≤ r3 ∧ 0 ≤ r4 ∧ (0 ≤ r5 ∧ r5 ≤ 255) ∧ 0 ≤ r6 ∧ 0 ≤ r7 ∧ (0 ≤ r8 ∧ r8 ≤ 3)) (hs : 0 ≤ sm) (hT : T.length ≤ 2) (hb : bd.size ≤ 1503) {t : Act} (h2 : t.tmps.getD 2 undef = .pointer (some ⟨w.heap.size, 0, none⟩)) (hd : t.defers = []) :
    bodyPost Try.prog Try.f60 (fun e w' => (∃ (f : Fr) (a : Option Addr) (c : Nat), e = .returned (f.val a c) ∧ f.Shows ∧ f.tags.length ≤ 2 ∧ f.body.size ≤ 1503 ∧ IRow w.heap.size w' (.slice a f.tags.length c) f.tags) ∧ Cur W bc ac len cap w' ∧ Keep bc w w') .ret t (wr.setRow w.heap.size #[.int .i64 r0, .int .i64 r1, .slice sa T.length sc, .int .i64 r3, .int .i64 r4, .int .i64 r5, .int .i64 r6, .int .i64 r7, .int .i64 r8, .int .i64 sm, .string bd]) := by
  have o : ∀ k, k ≠ w.heap.size → (wr.setRow w.heap.size #[.int .i64 r0, .int .i64 r1, .slice sa T.length sc, .int .i64 r3, .int .i64 r4, .int .i64 r5, .int .i64 r6, .int .i64 r7, .int .i64 r8, .int .i64 sm, .string bd]).heap[k]? = wr.heap[k]? := fun k hk => setRow_other _ _ _ _ hk
  refine bodyPost_ret (results_cell_row Try.results60 _ _ w.heap.size _ _ _ _ h2 (setRow_heap wr w.heap.size _ _ _ _ h.res) Try.underlying27 rfl (by kernel_rfl)) hd ⟨⟨⟨r0, r1, T, r3, r4, r5, r6, r7, r8, sm, bd⟩, sa, sc, rfl, ⟨hq.1, hq.2.1, hq.2.2.1, hq.2.2.2.1, hq.2.2.2.2.1, ⟨hq.2.2.2.2.2.1, by show r8 ≤ 255; have := hq.2.2.2.2.2.2; omega⟩, hs, by show bd.size ≤ 100000; omega⟩, hT, hb, (irow_other h.row h.res _).mono (by omega)⟩, h.cur.other (by omega) o (below_setRow (Below.refl _ _) hW _), ?_⟩
  exact ⟨by rw [size_setRow]; exact h.kp.size, fun k h1 h2 => (o k (by omega)).trans (h.kp.block k h1 h2)⟩

set_option maxHeartbeats 12800000 in
set_option maxRecDepth 100000 in
theorem drawLit {W : World} {bc : Nat} {ac : Option Addr} {len cap : Nat} (hc : Hid (Code W ac len)) (w : World) (cur : Hid (Cur W bc ac len cap w)) :
    Calls Try.prog 60 #[.pointer (some ⟨bc, 0, none⟩)] w fun e w' => (∃ (f : Fr) (a : Option Addr) (c : Nat), e = .returned (f.val a c) ∧ f.Shows ∧ f.tags.length ≤ 2 ∧ f.body.size ≤ 1503 ∧ IRow w.heap.size w' (.slice a f.tags.length c) f.tags) ∧ Cur W bc ac len cap w' ∧ Keep bc w w' := by
  go_enter Try.func60, Try.ntmps60
  go_upto_region 1 with fail
  go_cut [3] (fun s3 wc => Hid (LitAt W bc ac len cap w s3 wc))
  case rest =>
    obtain ⟨B, r0, r1, r3, r4, r5, r6, r7, r8, rfl, hB, hfr, hq, hres, hcur, hkp⟩ := hcut.out
    have hbc := cur.out.lt
    have hW := cur.out.bel.size
    have H1 : Hid (Dr W bc ac len cap w B #[.int .i64 r0, .int .i64 r1, .slice none 0 0, .int .i64 r3, .int .i64 r4, .int .i64 r5, .int .i64 r6, .int .i64 r7, .int .i64 r8, .int .i64 0, .string ⟨#[]⟩] (.slice none 0 0) [] wc) := ⟨hfr, hres, hcur, hkp, World.ownsRow_nil _ _ _ _⟩
    have Hq : Hid (0 ≤ r3 ∧ 0 ≤ r4 ∧ (0 ≤ r5 ∧ r5 ≤ 255) ∧ 0 ≤ r6 ∧ 0 ≤ r7 ∧ (0 ≤ r8 ∧ r8 ≤ 3)) := hq
    clear hcut hfr hq hres hcur hkp
    go_wp2_with fail
    refine (drawBelow hc 3 (by omega) _ H1.out.cur).mono ?_
    rintro e w2 ⟨⟨x, rfl, x0, x1⟩, c2, k2⟩
    have H2 : Hid (Dr W bc ac len cap w B #[.int .i64 r0, .int .i64 r1, .slice none 0 0, .int .i64 r3, .int .i64 r4, .int .i64 r5, .int .i64 r6, .int .i64 r7, .int .i64 r8, .int .i64 0, .string ⟨#[]⟩] (.slice none 0 0) [] w2) := H1.out.draw hbc hB c2 k2
    clear c2 k2 H1
    go_wp2_with fail
    go_loopw [4] (fun n wr => ∃ (m : Nat) (sa : Option Addr) (sc : Nat) (T : List Int), n = .int .i64 m ∧ T.length + m ≤ 2 ∧ Hid (Dr W bc ac len cap w B #[.int .i64 r0, .int .i64 r1, .slice sa T.length sc, .int .i64 r3, .int .i64 r4, .int .i64 r5, .int .i64 r6, .int .i64 r7, .int .i64 r8, .int .i64 0, .string ⟨#[]⟩] (.slice sa T.length sc) T wr)) (fun n _ => (intOf n).toNat)
    case atStart =>
      obtain ⟨j, rfl⟩ := Int.eq_ofNat_of_zero_le x0
      exact ⟨j, none, 0, [], rfl, by simp; omega, H2⟩
    case round =>
      clear H2
      obtain ⟨m, sa, sc, T, rfl, hm2, H3⟩ := hrel
      by_cases hm : m = 0
      · subst hm
        go_wp2_with fail
        obtain ⟨wq, rfl⟩ : ∃ wq, wq = wr := ⟨_, rfl⟩
        refine (drawBelow hc 30 (by omega) _ (H3.out.cur.alloc _)).mono ?_
        rintro e w4 ⟨⟨y, rfl, y0, y1⟩, c4, k4⟩
        have ro4 : Row wq.heap.size w4 (.slice (some ⟨wq.heap.size, 0, none⟩) 0 0) [] := (row_lit0 wq.heap.size wq _ rfl (Nat.le_refl _)).keep H3.out.cur.lt k4
        have H4 : Hid (Cur W bc ac len cap w4 ∧ Keep bc wq w4 ∧ Row wq.heap.size w4 (.slice (some ⟨wq.heap.size, 0, none⟩) 0 0) []) := ⟨c4, ((Keep.refl _ wq).alloc _).trans k4, ro4⟩
        clear c4 k4 ro4
        go_wp2_with fail
        go_loopw [5, 6] (fun b n w5 => ∃ (xs : List Int) (m : Nat), n = .int .i64 m ∧ xs.length + m ≤ 29 ∧ (∃ g c, b = .slice (some ⟨g, 0, none⟩) xs.length c) ∧ Hid (Cur W bc ac len cap w5 ∧ Keep bc wq w5 ∧ Row wq.heap.size w5 b xs)) (fun _ n _ => (intOf n).toNat)
        case atStart =>
          obtain ⟨j, rfl⟩ := Int.eq_ofNat_of_zero_le y0
          exact ⟨[], j, rfl, by simp; omega, ⟨_, _, rfl⟩, H4⟩
        case round =>
          clear H4
          obtain ⟨xs, m, rfl, hxm, ⟨g, cp, rfl⟩, H5⟩ := hrel
          by_cases hm : m = 0
          · subst hm
            have H6 : Hid (Dr W bc ac len cap w B #[.int .i64 r0, .int .i64 r1, .slice sa T.length sc, .int .i64 r3, .int .i64 r4, .int .i64 r5, .int .i64 r6, .int .i64 r7, .int .i64 r8, .int .i64 0, .string ⟨#[]⟩] (.slice sa T.length sc) T wr) := H3.out.draw hbc hB H5.out.1 H5.out.2.1
            have k1 := H5.out.2.2.conv
            have k2 := H5.out.2.2.bytes
            have hbs : (strB xs).size ≤ 29 := by rw [strB_size]; omega
            clear H3 H5
            have c10 : wr.cell? ⟨B, 10, none⟩ = some (.string ⟨#[]⟩) := H6.out.fr.cell 10 rfl
            have i10 := H6.out.fr.ice 10
            go_upto_region 12 with fail
            clear c10 i10 k1 k2
            generalize strB xs = bd at hbs ⊢
            have d21 := H6.out.put hbc hB hW 10 (.string bd)
            generalize wr.setCell ⟨B, 10, none⟩ (.string bd) = w21 at d21 ⊢
            have H21 : Hid (Dr W bc ac len cap w B #[.int .i64 r0, .int .i64 r1, .slice sa T.length sc, .int .i64 r3, .int .i64 r4, .int .i64 r5, .int .i64 r6, .int .i64 r7, .int .i64 r8, .int .i64 0, .string bd] (.slice sa T.length sc) T w21) := d21
            clear d21 H6
            have q_sum : (0 : Int) ≤ 0 := Int.le_refl _
            have hs22 : Hid ((⟨r0, r1, T, r3, r4, r5, r6, r7, r8, 0, bd⟩ : Fr)).Shows := ⟨Hq.out.1, Hq.out.2.1, Hq.out.2.2.1, Hq.out.2.2.2.1, Hq.out.2.2.2.2.1, ⟨Hq.out.2.2.2.2.2.1, by have := Hq.out.2.2.2.2.2.2; show r8 ≤ 255; omega⟩, q_sum, by show bd.size ≤ 100000; omega⟩
            have S22 := fun w1 => specL3Sum (⟨r0, r1, T, r3, r4, r5, r6, r7, r8, 0, bd⟩ : Fr) sa sc w1 hs22
            have g22 := ((⟨r0, r1, T, r3, r4, r5, r6, r7, r8, 0, bd⟩ : Fr)).sumOf_in
            generalize ((⟨r0, r1, T, r3, r4, r5, r6, r7, r8, 0, bd⟩ : Fr)).sumOf = s22 at S22 g22
            simp only [Fr.val] at S22
            have S22' : Hid _ := S22
            clear S22 hs22
            go_upto_region 13 with (first | (refine wpList_load_row rfl 27 (.tmp 3) rfl B rfl _ _ _ _ H21.out.fr Try.underlying27 rfl (by kernel_rfl) ?_) | (go_at_call 75; refine (S22'.out _).mono ?_; rintro e w22 ⟨rfl, b22⟩; have H22 : Hid (Dr W bc ac len cap w B #[.int .i64 r0, .int .i64 r1, .slice sa T.length sc, .int .i64 r3, .int .i64 r4, .int .i64 r5, .int .i64 r6, .int .i64 r7, .int .i64 r8, .int .i64 0, .string bd] (.slice sa T.length sc) T w22) := H21.out.draw hbc hB (H21.out.cur.below H21.out.cur.lt b22) ⟨b22.size, fun k _ hk => b22.block k hk⟩; clear b22; have c9 : w22.cell? ⟨B, 9, none⟩ = some (.int .i64 0) := H22.out.fr.cell 9 rfl; have i9 := H22.out.fr.ice 9))
            clear c9 i9
            have d23 := H22.out.put hbc hB hW 9 (.int .i64 s22)
            generalize w22.setCell ⟨B, 9, none⟩ (.int .i64 s22) = w23 at d23 ⊢
            have H23 : Hid (Dr W bc ac len cap w B #[.int .i64 r0, .int .i64 r1, .slice sa T.length sc, .int .i64 r3, .int .i64 r4, .int .i64 r5, .int .i64 r6, .int .i64 r7, .int .i64 r8, .int .i64 s22, .string bd] (.slice sa T.length sc) T w23) := d23
            clear d23 H22
            have q_sum : 0 ≤ s22 := g22.1
            go_wp2_with fail
            refine (drawOnce hc 12 (by omega) _ H23.out.cur).mono ?_
            rintro e w40 ⟨⟨bo, rfl⟩, c40, k40⟩
            have H40 : Hid (Dr W bc ac len cap w B #[.int .i64 r0, .int .i64 r1, .slice sa T.length sc, .int .i64 r3, .int .i64 r4, .int .i64 r5, .int .i64 r6, .int .i64 r7, .int .i64 r8, .int .i64 s22, .string bd] (.slice sa T.length sc) T w40) := H23.out.draw hbc hB c40 k40
            clear c40 k40 H23
            cases bo
            · skip
              go_wp2_with fail
              refine (drawOnce hc 20 (by omega) _ H40.out.cur).mono ?_
              rintro e w60 ⟨⟨bp, rfl⟩, c60, k60⟩
              have H60 : Hid (Dr W bc ac len cap w B #[.int .i64 r0, .int .i64 r1, .slice sa T.length sc, .int .i64 r3, .int .i64 r4, .int .i64 r5, .int .i64 r6, .int .i64 r7, .int .i64 r8, .int .i64 s22, .string bd] (.slice sa T.length sc) T w60) := H40.out.draw hbc hB c60 k60
              clear c60 k60 H40
              cases bp
              · skip
                go_wp2_with (first | (refine wpList_load_row rfl 27 (.tmp 3) rfl B rfl _ _ _ _ H60.out.fr Try.underlying27 rfl (by kernel_rfl) ?_) | (refine wpList_store_row rfl 27 (.tmp 2) (.tmp 80) rfl w.heap.size _ rfl rfl _ _ H60.out.res (by kernel_rfl) rfl (frameOne _ _ _ _ _ _ _ _ _ _ _ _ _) ?_))
                exact drEnd H60.out hbc hB hW Hq.out q_sum (by omega) (by omega) rfl rfl
              · go_wp2_with fail
                refine (drawFrom hc (-1) 3 (by omega) (by omega) (by omega) _ H60.out.cur).mono ?_
                rintro e w61 ⟨⟨z, rfl, z0, z1⟩, c61, k61⟩
                have H61 : Hid (Dr W bc ac len cap w B #[.int .i64 r0, .int .i64 r1, .slice sa T.length sc, .int .i64 r3, .int .i64 r4, .int .i64 r5, .int .i64 r6, .int .i64 r7, .int .i64 r8, .int .i64 s22, .string bd] (.slice sa T.length sc) T w61) := H60.out.draw hbc hB c61 k61
                clear c61 k61 H60
                obtain ⟨nn, hnn⟩ : ∃ nn : Nat, 1500 + z = (nn : Int) := Int.eq_ofNat_of_zero_le (by omega)
                have hn3 : nn ≤ 1503 := by omega
                have hn0 : (0 : Int) ≤ nn := by omega
                have mk := makeBytes nn hn3 w61
                have k1 := makeConv nn hn3 w61
                have H62 : Hid (Dr W bc ac len cap w B #[.int .i64 r0, .int .i64 r1, .slice sa T.length sc, .int .i64 r3, .int .i64 r4, .int .i64 r5, .int .i64 r6, .int .i64 r7, .int .i64 r8, .int .i64 s22, .string bd] (.slice sa T.length sc) T (w61.alloc (.cells (zeros nn) 5))) := H61.out.draw hbc hB (H61.out.cur.alloc _) ((Keep.refl _ w61).alloc _)
                have c10 : (w61.alloc (.cells (zeros nn) 5)).cell? ⟨B, 10, none⟩ = some (.string bd) := H62.out.fr.cell 10 rfl
                have i10 : (w61.alloc (.cells (zeros nn) 5)).frozen? ⟨B, 10, none⟩ = false := H62.out.fr.ice 10
                have hbz : (strB (List.replicate nn 0)).size ≤ 1503 := by rw [strB_size, List.length_replicate]; exact hn3
                go_upto_region 17 with fail
                clear c10 i10 k1 mk
                generalize strB (List.replicate nn 0) = bz at hbz ⊢
                generalize w61.alloc (.cells (zeros nn) 5) = w62 at H62 ⊢
                have d24 := H62.out.put hbc hB hW 10 (.string bz)
                generalize w62.setCell ⟨B, 10, none⟩ (.string bz) = w24 at d24 ⊢
                have H24 : Hid (Dr W bc ac len cap w B #[.int .i64 r0, .int .i64 r1, .slice sa T.length sc, .int .i64 r3, .int .i64 r4, .int .i64 r5, .int .i64 r6, .int .i64 r7, .int .i64 r8, .int .i64 s22, .string bz] (.slice sa T.length sc) T w24) := d24
                clear d24 H62
                have hs25 : Hid ((⟨r0, r1, T, r3, r4, r5, r6, r7, r8, s22, bz⟩ : Fr)).Shows := ⟨Hq.out.1, Hq.out.2.1, Hq.out.2.2.1, Hq.out.2.2.2.1, Hq.out.2.2.2.2.1, ⟨Hq.out.2.2.2.2.2.1, by have := Hq.out.2.2.2.2.2.2; show r8 ≤ 255; omega⟩, q_sum, by show bz.size ≤ 100000; omega⟩
                have S25 := fun w1 => specL3Sum (⟨r0, r1, T, r3, r4, r5, r6, r7, r8, s22, bz⟩ : Fr) sa sc w1 hs25
                have g25 := ((⟨r0, r1, T, r3, r4, r5, r6, r7, r8, s22, bz⟩ : Fr)).sumOf_in
                generalize ((⟨r0, r1, T, r3, r4, r5, r6, r7, r8, s22, bz⟩ : Fr)).sumOf = s25 at S25 g25
                simp only [Fr.val] at S25
                have S25' : Hid _ := S25
                clear S25 hs25
                go_upto_region 18 with (first | (refine wpList_load_row rfl 27 (.tmp 3) rfl B rfl _ _ _ _ H24.out.fr Try.underlying27 rfl (by kernel_rfl) ?_) | (go_at_call 75; refine (S25'.out _).mono ?_; rintro e w25 ⟨rfl, b25⟩; have H25 : Hid (Dr W bc ac len cap w B #[.int .i64 r0, .int .i64 r1, .slice sa T.length sc, .int .i64 r3, .int .i64 r4, .int .i64 r5, .int .i64 r6, .int .i64 r7, .int .i64 r8, .int .i64 s22, .string bz] (.slice sa T.length sc) T w25) := H24.out.draw hbc hB (H24.out.cur.below H24.out.cur.lt b25) ⟨b25.size, fun k _ hk => b25.block k hk⟩; clear b25; have c9 : w25.cell? ⟨B, 9, none⟩ = some (.int .i64 s22) := H25.out.fr.cell 9 rfl; have i9 := H25.out.fr.ice 9))
                clear c9 i9
                have d26 := H25.out.put hbc hB hW 9 (.int .i64 s25)
                generalize w25.setCell ⟨B, 9, none⟩ (.int .i64 s25) = w26 at d26 ⊢
                have H26 : Hid (Dr W bc ac len cap w B #[.int .i64 r0, .int .i64 r1, .slice sa T.length sc, .int .i64 r3, .int .i64 r4, .int .i64 r5, .int .i64 r6, .int .i64 r7, .int .i64 r8, .int .i64 s25, .string bz] (.slice sa T.length sc) T w26) := d26
                clear d26 H25
                have q_sum : 0 ≤ s25 := g25.1
                go_wp2_with (first | (refine wpList_load_row rfl 27 (.tmp 3) rfl B rfl _ _ _ _ H26.out.fr Try.underlying27 rfl (by kernel_rfl) ?_) | (refine wpList_store_row rfl 27 (.tmp 2) (.tmp 80) rfl w.heap.size _ rfl rfl _ _ H26.out.res (by kernel_rfl) rfl (frameOne _ _ _ _ _ _ _ _ _ _ _ _ _) ?_))
                exact drEnd H26.out hbc hB hW Hq.out q_sum (by omega) (by omega) rfl rfl
            · go_wp2_with fail
              refine (drawBelow hc 65536 (by omega) _ H40.out.cur).mono ?_
              rintro e w41 ⟨⟨v, rfl, v0, v1⟩, c41, k41⟩
              have H41 : Hid (Dr W bc ac len cap w B #[.int .i64 r0, .int .i64 r1, .slice sa T.length sc, .int .i64 r3, .int .i64 r4, .int .i64 r5, .int .i64 r6, .int .i64 r7, .int .i64 r8, .int .i64 s22, .string bd] (.slice sa T.length sc) T w41) := H40.out.draw hbc hB c41 k41
              clear c41 k41 H40 q_sum
              have c9 : w41.cell? ⟨B, 9, none⟩ = some (.int .i64 s22) := H41.out.fr.cell 9 rfl
              have i9 := H41.out.fr.ice 9
              go_upto_region 15 with fail
              clear c9 i9
              have d27 := H41.out.put hbc hB hW 9 (.int .i64 v)
              generalize w41.setCell ⟨B, 9, none⟩ (.int .i64 v) = w27 at d27 ⊢
              have H27 : Hid (Dr W bc ac len cap w B #[.int .i64 r0, .int .i64 r1, .slice sa T.length sc, .int .i64 r3, .int .i64 r4, .int .i64 r5, .int .i64 r6, .int .i64 r7, .int .i64 r8, .int .i64 v, .string bd] (.slice sa T.length sc) T w27) := d27
              clear d27 H41
              have q_sum : 0 ≤ v := v0
              go_wp2_with fail
              refine (drawOnce hc 20 (by omega) _ H27.out.cur).mono ?_
              rintro e w60 ⟨⟨bp, rfl⟩, c60, k60⟩
              have H60 : Hid (Dr W bc ac len cap w B #[.int .i64 r0, .int .i64 r1, .slice sa T.length sc, .int .i64 r3, .int .i64 r4, .int .i64 r5, .int .i64 r6, .int .i64 r7, .int .i64 r8, .int .i64 v, .string bd] (.slice sa T.length sc) T w60) := H27.out.draw hbc hB c60 k60
              clear c60 k60 H27
              cases bp
              · skip
                go_wp2_with (first | (refine wpList_load_row rfl 27 (.tmp 3) rfl B rfl _ _ _ _ H60.out.fr Try.underlying27 rfl (by kernel_rfl) ?_) | (refine wpList_store_row rfl 27 (.tmp 2) (.tmp 80) rfl w.heap.size _ rfl rfl _ _ H60.out.res (by kernel_rfl) rfl (frameOne _ _ _ _ _ _ _ _ _ _ _ _ _) ?_))
                exact drEnd H60.out hbc hB hW Hq.out q_sum (by omega) (by omega) rfl rfl
              · go_wp2_with fail
                refine (drawFrom hc (-1) 3 (by omega) (by omega) (by omega) _ H60.out.cur).mono ?_
                rintro e w61 ⟨⟨z, rfl, z0, z1⟩, c61, k61⟩
                have H61 : Hid (Dr W bc ac len cap w B #[.int .i64 r0, .int .i64 r1, .slice sa T.length sc, .int .i64 r3, .int .i64 r4, .int .i64 r5, .int .i64 r6, .int .i64 r7, .int .i64 r8, .int .i64 v, .string bd] (.slice sa T.length sc) T w61) := H60.out.draw hbc hB c61 k61
                clear c61 k61 H60
                obtain ⟨nn, hnn⟩ : ∃ nn : Nat, 1500 + z = (nn : Int) := Int.eq_ofNat_of_zero_le (by omega)
                have hn3 : nn ≤ 1503 := by omega
                have hn0 : (0 : Int) ≤ nn := by omega
                have mk := makeBytes nn hn3 w61
                have k1 := makeConv nn hn3 w61
                have H62 : Hid (Dr W bc ac len cap w B #[.int .i64 r0, .int .i64 r1, .slice sa T.length sc, .int .i64 r3, .int .i64 r4, .int .i64 r5, .int .i64 r6, .int .i64 r7, .int .i64 r8, .int .i64 v, .string bd] (.slice sa T.length sc) T (w61.alloc (.cells (zeros nn) 5))) := H61.out.draw hbc hB (H61.out.cur.alloc _) ((Keep.refl _ w61).alloc _)
                have c10 : (w61.alloc (.cells (zeros nn) 5)).cell? ⟨B, 10, none⟩ = some (.string bd) := H62.out.fr.cell 10 rfl
                have i10 : (w61.alloc (.cells (zeros nn) 5)).frozen? ⟨B, 10, none⟩ = false := H62.out.fr.ice 10
                have hbz : (strB (List.replicate nn 0)).size ≤ 1503 := by rw [strB_size, List.length_replicate]; exact hn3
                go_upto_region 17 with fail
                clear c10 i10 k1 mk
                generalize strB (List.replicate nn 0) = bz at hbz ⊢
                generalize w61.alloc (.cells (zeros nn) 5) = w62 at H62 ⊢
                have d28 := H62.out.put hbc hB hW 10 (.string bz)
                generalize w62.setCell ⟨B, 10, none⟩ (.string bz) = w28 at d28 ⊢
                have H28 : Hid (Dr W bc ac len cap w B #[.int .i64 r0, .int .i64 r1, .slice sa T.length sc, .int .i64 r3, .int .i64 r4, .int .i64 r5, .int .i64 r6, .int .i64 r7, .int .i64 r8, .int .i64 v, .string bz] (.slice sa T.length sc) T w28) := d28
                clear d28 H62
                have hs29 : Hid ((⟨r0, r1, T, r3, r4, r5, r6, r7, r8, v, bz⟩ : Fr)).Shows := ⟨Hq.out.1, Hq.out.2.1, Hq.out.2.2.1, Hq.out.2.2.2.1, Hq.out.2.2.2.2.1, ⟨Hq.out.2.2.2.2.2.1, by have := Hq.out.2.2.2.2.2.2; show r8 ≤ 255; omega⟩, q_sum, by show bz.size ≤ 100000; omega⟩
                have S29 := fun w1 => specL3Sum (⟨r0, r1, T, r3, r4, r5, r6, r7, r8, v, bz⟩ : Fr) sa sc w1 hs29
                have g29 := ((⟨r0, r1, T, r3, r4, r5, r6, r7, r8, v, bz⟩ : Fr)).sumOf_in
                generalize ((⟨r0, r1, T, r3, r4, r5, r6, r7, r8, v, bz⟩ : Fr)).sumOf = s29 at S29 g29
                simp only [Fr.val] at S29
                have S29' : Hid _ := S29
                clear S29 hs29
                go_upto_region 18 with (first | (refine wpList_load_row rfl 27 (.tmp 3) rfl B rfl _ _ _ _ H28.out.fr Try.underlying27 rfl (by kernel_rfl) ?_) | (go_at_call 75; refine (S29'.out _).mono ?_; rintro e w29 ⟨rfl, b29⟩; have H29 : Hid (Dr W bc ac len cap w B #[.int .i64 r0, .int .i64 r1, .slice sa T.length sc, .int .i64 r3, .int .i64 r4, .int .i64 r5, .int .i64 r6, .int .i64 r7, .int .i64 r8, .int .i64 v, .string bz] (.slice sa T.length sc) T w29) := H28.out.draw hbc hB (H28.out.cur.below H28.out.cur.lt b29) ⟨b29.size, fun k _ hk => b29.block k hk⟩; clear b29; have c9 : w29.cell? ⟨B, 9, none⟩ = some (.int .i64 v) := H29.out.fr.cell 9 rfl; have i9 := H29.out.fr.ice 9))
                clear c9 i9
                have d30 := H29.out.put hbc hB hW 9 (.int .i64 s29)
                generalize w29.setCell ⟨B, 9, none⟩ (.int .i64 s29) = w30 at d30 ⊢
                have H30 : Hid (Dr W bc ac len cap w B #[.int .i64 r0, .int .i64 r1, .slice sa T.length sc, .int .i64 r3, .int .i64 r4, .int .i64 r5, .int .i64 r6, .int .i64 r7, .int .i64 r8, .int .i64 s29, .string bz] (.slice sa T.length sc) T w30) := d30
                clear d30 H29
                have q_sum : 0 ≤ s29 := g29.1
                go_wp2_with (first | (refine wpList_load_row rfl 27 (.tmp 3) rfl B rfl _ _ _ _ H30.out.fr Try.underlying27 rfl (by kernel_rfl) ?_) | (refine wpList_store_row rfl 27 (.tmp 2) (.tmp 80) rfl w.heap.size _ rfl rfl _ _ H30.out.res (by kernel_rfl) rfl (frameOne _ _ _ _ _ _ _ _ _ _ _ _ _) ?_))
                exact drEnd H30.out hbc hB hW Hq.out q_sum (by omega) (by omega) rfl rfl
          · have hm1 : (0 : Int) < m := by omega
            go_wp2_with fail
            refine (drawByte hc.out _ H5.out.1).mono ?_
            rintro e w6 ⟨⟨y, rfl, y0, y1⟩, c6, k6⟩
            have H6 : Hid (Cur W bc ac len cap w6 ∧ Keep bc wq w6 ∧ Row wq.heap.size w6 (.slice (some ⟨g, 0, none⟩) xs.length cp) xs) := ⟨c6, H5.out.2.1.trans k6, H5.out.2.2.keep H3.out.cur.lt k6⟩
            clear c6 k6 H5
            have hlt := H3.out.cur.lt
            go_wp2_with (at_builtin; refine row_app1 rfl (.tmp 52) (.tmp 56) rfl wq.heap.size _ xs y rfl H6.out.2.2 rfl ?_ H6.out.2.1.size ?_)
            · omega
            intro v7 w7 ro7 b7
            obtain ⟨g7, cp7, rfl⟩ := ro7.form (by simp)
            have H7 : Hid (Cur W bc ac len cap w7 ∧ Keep bc wq w7 ∧ Row wq.heap.size w7 (.slice (some ⟨g7, 0, none⟩) (xs ++ [y]).length cp7) (xs ++ [y])) := ⟨H6.out.1.below hlt b7, ⟨Nat.le_trans H6.out.2.1.size b7.size, fun k h1 h2 => (b7.block k h2).trans (H6.out.2.1.block k h1 h2)⟩, ro7⟩
            clear ro7 b7 H6
            go_wp2
            go_roundw
            case rel => exact ⟨xs ++ [y], m - 1, by rw [show ((m - 1 : Nat) : Int) = (m : Int) - 1 by omega], by simp; omega, ⟨_, _, rfl⟩, H7⟩
            case measure => simp [intOf]; omega
      · have hm1 : (0 : Int) < m := by omega
        have c2 : wr.cell? ⟨B, 2, none⟩ = some (.slice sa T.length sc) := H3.out.fr.cell 2 rfl
        go_wp2_with fail
        go_region_law (first | (refine step_call rfl 56 rfl #[.pointer (some ⟨bc, 0, none⟩), .int .i64 4096] (by kernel_rfl) (drawBelow hc 4096 (by omega) _ H3.out.cur.drew) ?_; rintro e w4 ⟨⟨y, rfl, y0, y1⟩, c4, k4⟩; refine ⟨_, rfl, ?_⟩; have H4 : Hid (Dr W bc ac len cap w B #[.int .i64 r0, .int .i64 r1, .slice sa T.length sc, .int .i64 r3, .int .i64 r4, .int .i64 r5, .int .i64 r6, .int .i64 r7, .int .i64 r8, .int .i64 0, .string ⟨#[]⟩] (.slice sa T.length sc) T w4) := H3.out.draw hbc hB c4 ((Keep.refl _ wr).drew.trans k4); have d2 : w4.cell? ⟨B, 2, none⟩ = some (.slice sa T.length sc) := H4.out.fr.cell 2 rfl; have l4 : B < w4.heap.size := H4.out.fr.under; clear c4 k4) | (refine step_iapp1 rfl (.tmp 39) (.tmp 42) rfl (B + 1) _ T y (w := w4) ?_ rfl H4.out.row rfl ?_ ?_ ?_; rfl; omega; exact l4; intro v' w5 ro5 b5; obtain ⟨sa', sc', rfl⟩ := ro5.shape; have H5 : Hid (Dr W bc ac len cap w B #[.int .i64 r0, .int .i64 r1, .slice sa T.length sc, .int .i64 r3, .int .i64 r4, .int .i64 r5, .int .i64 r6, .int .i64 r7, .int .i64 r8, .int .i64 0, .string ⟨#[]⟩] (.slice sa' (T ++ [y]).length sc') (T ++ [y]) w5) := H4.out.grow hbc hB b5 ro5; have e2 : w5.cell? ⟨B, 2, none⟩ = some (.slice sa T.length sc) := H5.out.fr.cell 2 rfl; have g2 := H5.out.fr.ice 2; clear ro5 b5))
        all_goals
          have H6 : Hid (Dr W bc ac len cap w B #[.int .i64 r0, .int .i64 r1, .slice sa' (T ++ [y]).length sc', .int .i64 r3, .int .i64 r4, .int .i64 r5, .int .i64 r6, .int .i64 r7, .int .i64 r8, .int .i64 0, .string ⟨#[]⟩] (.slice sa' (T ++ [y]).length sc') (T ++ [y]) (w5.setCell ⟨B, 2, none⟩ (.slice sa' (T ++ [y]).length sc'))) := H5.out.put hbc hB hW 2 (.slice sa' (T ++ [y]).length sc')
          go_wp2
          go_roundw
          case rel => exact ⟨m - 1, sa', sc', T ++ [y], by rw [show ((m - 1 : Nat) : Int) = (m : Int) - 1 by omega], by simp; omega, by simpa only [List.length_append, List.length_cons, List.length_nil] using H6⟩
          case measure => simp [intOf]; omega
  refine region_draws (by kernel_rfl) (by kernel_rfl) (by kernel_rfl) (by kernel_rfl) (fun w' => Cur W bc ac len cap w' ∧ Keep bc (w.alloc (.cells zeroFr 27)) w') (Keep bc) (litPr (w.alloc (.cells zeroFr 27)) bc) litPr_keep ?h0 ?step ?last
  case h0 => exact ⟨(cur.out.alloc _).drew, (Keep.refl _ _).drew⟩
  case step =>
    intro i o hi ho a w2 hk hI hp
    have t0 : a.tmps.getD 0 undef = .pointer (some ⟨bc, 0, none⟩) := hk.slot 0 (by kernel_rfl)
    have hcases : i = 0 ∨ i = 1 ∨ i = 2 ∨ i = 3 ∨ i = 4 ∨ i = 5 ∨ i = 6 ∨ i = 7 ∨ i = 8 ∨ i = 9 ∨ i = 10 ∨ i = 11 ∨ i = 12 ∨ i = 13 ∨ i = 14 ∨ i = 15 ∨ i = 16 ∨ i = 17 ∨ i = 18 ∨ i = 19 ∨ i = 20 ∨ i = 21 ∨ i = 22 ∨ i = 23 ∨ i = 24 ∨ i = 25 := by
      have : i + 1 < 27 := hi
      omega
    rcases hcases with rfl | rfl | rfl | rfl | rfl | rfl | rfl | rfl | rfl | rfl | rfl | rfl | rfl | rfl | rfl | rfl | rfl | rfl | rfl | rfl | rfl | rfl | rfl | rfl | rfl | rfl
    · cases ho
      exact ⟨rfl, op_move 0 rfl ⟨_, rfl, Keep.refl _ _, hI, t0⟩⟩
    · cases ho
      exact ⟨rfl, op_below hc 7 65536 (by omega) rfl (hp ⟨0, .data⟩ 7 (by simp) rfl rfl) hI.1 fun x w' x0 x1 c k => ⟨_, rfl, k, ⟨c, hI.2.trans k⟩, x, rfl, x0, x1⟩⟩
    · cases ho
      exact ⟨rfl, op_move 0 rfl ⟨_, rfl, Keep.refl _ _, hI, t0⟩⟩
    · cases ho
      exact ⟨rfl, op_below hc 9 9 (by omega) rfl (hp ⟨2, .data⟩ 9 (by simp) rfl rfl) hI.1 fun x w' x0 x1 c k => ⟨_, rfl, k, ⟨c, hI.2.trans k⟩, x, rfl, x0, x1⟩⟩
    · cases ho
      exact ⟨rfl, op_move 0 rfl ⟨_, rfl, Keep.refl _ _, hI, t0⟩⟩
    · cases ho
      exact ⟨rfl, op_below hc 11 8 (by omega) rfl (hp ⟨4, .data⟩ 11 (by simp) rfl rfl) hI.1 fun x w' x0 x1 c k => ⟨_, rfl, k, ⟨c, hI.2.trans k⟩, x, rfl, x0, x1⟩⟩
    · cases ho
      obtain ⟨x, hx, x0, x1⟩ := hp ⟨5, .data⟩ 12 (by simp) rfl rfl
      have hx' : a.tmps[12]?.getD undef = .int .i64 x := by simpa using hx
      refine ⟨rfl, ?_⟩
      unfold Oper.wp
      simp [go_sem, hx']
      exact ⟨_, rfl, Keep.refl _ _, hI, _, rfl, shl29 x0 x1⟩
    · cases ho
      exact ⟨rfl, op_move 0 rfl ⟨_, rfl, Keep.refl _ _, hI, t0⟩⟩
    · cases ho
      exact ⟨rfl, op_below hc 14 8 (by omega) rfl (hp ⟨7, .data⟩ 14 (by simp) rfl rfl) hI.1 fun x w' x0 x1 c k => ⟨_, rfl, k, ⟨c, hI.2.trans k⟩, x, rfl, x0, x1⟩⟩
    · cases ho
      obtain ⟨x, hx, x0, x1⟩ := hp ⟨8, .data⟩ 15 (by simp) rfl rfl
      have hx' : a.tmps[15]?.getD undef = .int .i64 x := by simpa using hx
      refine ⟨rfl, ?_⟩
      unfold Oper.wp
      simp [go_sem, hx']
      exact ⟨_, rfl, Keep.refl _ _, hI, _, rfl, shl29 x0 x1⟩
    · cases ho
      exact ⟨rfl, op_move 0 rfl ⟨_, rfl, Keep.refl _ _, hI, t0⟩⟩
    · cases ho
      exact ⟨rfl, op_below hc 17 4 (by omega) rfl (hp ⟨10, .data⟩ 17 (by simp) rfl rfl) hI.1 fun x w' x0 x1 c k => ⟨_, rfl, k, ⟨c, hI.2.trans k⟩, x, rfl, x0, x1⟩⟩
    · cases ho
      obtain ⟨x, hx, x0, x2⟩ := hp ⟨9, .data⟩ 16 (by simp) rfl rfl
      obtain ⟨y, hy, y0, y1⟩ := hp ⟨11, .data⟩ 18 (by simp) rfl rfl
      have hx' : a.tmps[16]?.getD undef = .int .i64 x := by simpa using hx
      have hy' : a.tmps[18]?.getD undef = .int .i64 y := by simpa using hy
      refine ⟨rfl, ?_⟩
      unfold Oper.wp
      simp [go_sem, hx', hy']
      exact ⟨_, rfl, Keep.refl _ _, hI, _, rfl, or_nonneg x0 x2 y0 (by have : y < 4 := y1; omega)⟩
    · cases ho
      refine ⟨rfl, ?_⟩
      unfold Oper.wp
      simp [go_sem]
      exact ⟨_, rfl, (Keep.refl _ _).alloc _, ⟨hI.1.alloc _, hI.2.alloc _⟩, _, rfl, hI.1.ne, Boxed.new w2 protoTab 2⟩
    · cases ho
      exact ⟨rfl, op_move 0 rfl ⟨_, rfl, Keep.refl _ _, hI, t0⟩⟩
    · cases ho
      exact ⟨rfl, op_below hc 21 3 (by omega) rfl (hp ⟨14, .data⟩ 21 (by simp) rfl rfl) hI.1 fun x w' x0 x1 c k => ⟨_, rfl, k, ⟨c, hI.2.trans k⟩, x, rfl, x0, x1⟩⟩
    · cases ho
      obtain ⟨B, hB, hne, hb⟩ := hp ⟨13, .data⟩ 20 (by simp) rfl rfl
      obtain ⟨y, hy, y0, y1⟩ := hp ⟨15, .data⟩ 22 (by simp) rfl rfl
      have hB' : a.tmps[20]?.getD undef = .slice (some ⟨B, 0, none⟩) 3 3 := by simpa using hB
      have hy' : a.tmps[22]?.getD undef = .int .i64 y := by simpa using hy
      have y1' : y < 3 := y1
      refine ⟨rfl, ?_⟩
      unfold Oper.wp
      simp [go_sem, hB', hy', y0, y1']
      exact ⟨_, rfl, Keep.refl _ _, hI, B, y.toNat, rfl, by omega, hne, hb⟩
    · cases ho
      obtain ⟨B, j, hB, hj, hne, hb⟩ := hp ⟨16, .data⟩ 23 (by simp) rfl rfl
      have hB' : a.tmps[23]?.getD undef = .pointer (some ⟨B, j, none⟩) := by simpa using hB
      obtain ⟨z, hz, z0, z1⟩ : ∃ z : Int, w2.cell? ⟨B, j, none⟩ = some (.int .i64 z) ∧ 0 ≤ z ∧ z ≤ 255 := by
        have hj3 : j = 0 ∨ j = 1 ∨ j = 2 := by omega
        rcases hj3 with rfl | rfl | rfl
        · exact ⟨6, hb.cell 0 rfl, by omega, by omega⟩
        · exact ⟨17, hb.cell 1 rfl, by omega, by omega⟩
        · exact ⟨1, hb.cell 2 rfl, by omega, by omega⟩
      refine ⟨rfl, ?_⟩
      unfold Oper.wp
      simp [go_sem, hB', hz]
      exact ⟨_, rfl, Keep.refl _ _, hI, z, rfl, z0, z1⟩
    · cases ho
      exact ⟨rfl, op_move 0 rfl ⟨_, rfl, Keep.refl _ _, hI, t0⟩⟩
    · cases ho
      exact ⟨rfl, op_below hc 25 65536 (by omega) rfl (hp ⟨18, .data⟩ 25 (by simp) rfl rfl) hI.1 fun x w' x0 x1 c k => ⟨_, rfl, k, ⟨c, hI.2.trans k⟩, x, rfl, x0, x1⟩⟩
    · cases ho
      exact ⟨rfl, op_move 0 rfl ⟨_, rfl, Keep.refl _ _, hI, t0⟩⟩
    · cases ho
      exact ⟨rfl, op_below hc 27 200 (by omega) rfl (hp ⟨20, .data⟩ 27 (by simp) rfl rfl) hI.1 fun x w' x0 x1 c k => ⟨_, rfl, k, ⟨c, hI.2.trans k⟩, x, rfl, x0, x1⟩⟩
    · cases ho
      exact ⟨rfl, op_move 0 rfl ⟨_, rfl, Keep.refl _ _, hI, t0⟩⟩
    · cases ho
      exact ⟨rfl, op_below hc 29 4 (by omega) rfl (hp ⟨22, .data⟩ 29 (by simp) rfl rfl) hI.1 fun x w' x0 x1 c k => ⟨_, rfl, k, ⟨c, hI.2.trans k⟩, x, rfl, x0, x1⟩⟩
    · cases ho
      obtain ⟨r0, e0, _⟩ := hp ⟨1, .data⟩ 8 (by simp) rfl rfl
      obtain ⟨r1, e1, _⟩ := hp ⟨3, .data⟩ 10 (by simp) rfl rfl
      obtain ⟨r3, e3, q3⟩ := hp ⟨6, .data⟩ 13 (by simp) rfl rfl
      obtain ⟨r4, e4, q4⟩ := hp ⟨12, .data⟩ 19 (by simp) rfl rfl
      obtain ⟨r5, e5, q5⟩ := hp ⟨17, .data⟩ 24 (by simp) rfl rfl
      obtain ⟨r6, e6, q6⟩ := hp ⟨19, .data⟩ 26 (by simp) rfl rfl
      obtain ⟨r7, e7, q7⟩ := hp ⟨21, .data⟩ 28 (by simp) rfl rfl
      obtain ⟨r8, e8, q8, q9⟩ := hp ⟨23, .data⟩ 30 (by simp) rfl rfl
      have f0 : a.tmps[8]?.getD undef = .int .i64 r0 := by simpa using e0
      have f1 : a.tmps[10]?.getD undef = .int .i64 r1 := by simpa using e1
      have f3 : a.tmps[13]?.getD undef = .int .i64 r3 := by simpa using e3
      have f4 : a.tmps[19]?.getD undef = .int .i64 r4 := by simpa using e4
      have f5 : a.tmps[24]?.getD undef = .int .i64 r5 := by simpa using e5
      have f6 : a.tmps[26]?.getD undef = .int .i64 r6 := by simpa using e6
      have f7 : a.tmps[28]?.getD undef = .int .i64 r7 := by simpa using e7
      have f8 : a.tmps[30]?.getD undef = .int .i64 r8 := by simpa using e8
      refine ⟨rfl, ?_⟩
      unfold Oper.wp
      simp [go_sem, f0, f1, f3, f4, f5, f6, f7, f8]
      exact ⟨_, rfl, Keep.refl _ _, hI, r0, r1, r3, r4, r5, r6, r7, r8, rfl, q3.1, q4, q5, q6.1, q7.1, q8, by have : r8 < 4 := q9; omega⟩
    · cases ho
      refine ⟨rfl, ?_⟩
      unfold Oper.wp
      simp [go_sem]
      exact ⟨_, rfl, (Keep.refl _ _).alloc _, ⟨hI.1.alloc _, hI.2.alloc _⟩, w2.heap.size, rfl, hI.1.ne, hI.2.size, Boxed.new w2 zeroFr 27⟩
  case last =>
    intro o ho a w2 hk hI hp
    cases ho
    obtain ⟨r0, r1, r3, r4, r5, r6, r7, r8, e, q3, q4, q5, q6, q7, q8⟩ := hp 24 31 (by decide) rfl
    obtain ⟨B, eB, hne, hlo, hb⟩ := hp 25 3 (by decide) rfl
    refine ⟨rfl, wp_store_row 27 (.tmp 3) (.tmp 31) rfl B _ eB e _ _ hb (by kernel_rfl) rfl (frameOne _ _ _ _ _ _ _ _ _ _ _ _ _) ?_⟩
    clear hp e
    show Exit.then _ _ .normal a _
    have ha : a = { tmps := #[.pointer (some ⟨bc, 0, none⟩), undef, .pointer (some ⟨w.heap.size, 0, none⟩), a.tmps.getD 3 undef, undef, undef, undef, a.tmps.getD 7 undef, a.tmps.getD 8 undef, a.tmps.getD 9 undef, a.tmps.getD 10 undef, a.tmps.getD 11 undef, a.tmps.getD 12 undef, a.tmps.getD 13 undef, a.tmps.getD 14 undef, a.tmps.getD 15 undef, a.tmps.getD 16 undef, a.tmps.getD 17 undef, a.tmps.getD 18 undef, a.tmps.getD 19 undef, a.tmps.getD 20 undef, a.tmps.getD 21 undef, a.tmps.getD 22 undef, a.tmps.getD 23 undef, a.tmps.getD 24 undef, a.tmps.getD 25 undef, a.tmps.getD 26 undef, a.tmps.getD 27 undef, a.tmps.getD 28 undef, a.tmps.getD 29 undef, a.tmps.getD 30 undef, a.tmps.getD 31 undef, undef, undef, undef, undef, undef, undef, undef, undef, undef, undef, undef, undef, undef, undef, undef, undef, undef, undef, undef, undef, undef, undef, undef, undef, undef, undef, undef, undef, undef, undef, undef, undef, undef, undef, undef, undef, undef, undef, undef, undef, undef, undef, undef, undef, undef, undef, undef, undef, undef], defers := [] } := hk.act.trans (by kernel_rfl)
    rw [eB] at ha
    clear eB hk
    generalize a.tmps.getD 7 undef = u7 at ha
    generalize a.tmps.getD 8 undef = u8 at ha
    generalize a.tmps.getD 9 undef = u9 at ha
    generalize a.tmps.getD 10 undef = u10 at ha
    generalize a.tmps.getD 11 undef = u11 at ha
    generalize a.tmps.getD 12 undef = u12 at ha
    generalize a.tmps.getD 13 undef = u13 at ha
    generalize a.tmps.getD 14 undef = u14 at ha
    generalize a.tmps.getD 15 undef = u15 at ha
    generalize a.tmps.getD 16 undef = u16 at ha
    generalize a.tmps.getD 17 undef = u17 at ha
    generalize a.tmps.getD 18 undef = u18 at ha
    generalize a.tmps.getD 19 undef = u19 at ha
    generalize a.tmps.getD 20 undef = u20 at ha
    generalize a.tmps.getD 21 undef = u21 at ha
    generalize a.tmps.getD 22 undef = u22 at ha
    generalize a.tmps.getD 23 undef = u23 at ha
    generalize a.tmps.getD 24 undef = u24 at ha
    generalize a.tmps.getD 25 undef = u25 at ha
    generalize a.tmps.getD 26 undef = u26 at ha
    generalize a.tmps.getD 27 undef = u27 at ha
    generalize a.tmps.getD 28 undef = u28 at ha
    generalize a.tmps.getD 29 undef = u29 at ha
    generalize a.tmps.getD 30 undef = u30 at ha
    generalize a.tmps.getD 31 undef = u31 at ha
    rw [ha]
    clear ha
    go_wp2_with fail
    go_meet
    have hB : Boxed (w2.setRow B #[.int .i64 r0, .int .i64 r1, .slice none 0 0, .int .i64 r3, .int .i64 r4, .int .i64 r5, .int .i64 r6, .int .i64 r7, .int .i64 r8, .int .i64 0, .string ⟨#[]⟩]) B _ _ := setRow_heap w2 B _ _ _ _ hb
    have hlo' : w.heap.size < B := by simp at hlo; omega
    have ho2 : ∀ k, k ≠ B → (w2.setRow B #[.int .i64 r0, .int .i64 r1, .slice none 0 0, .int .i64 r3, .int .i64 r4, .int .i64 r5, .int .i64 r6, .int .i64 r7, .int .i64 r8, .int .i64 0, .string ⟨#[]⟩]).heap[k]? = w2.heap[k]? := fun k hk => setRow_other _ _ _ _ hk
    refine ⟨B, r0, r1, r3, r4, r5, r6, r7, r8, rfl, hlo', hB, ⟨q3, q4, q5, q6, q7, q8⟩, ?_, hI.1.other hne ho2 (below_setRow (Below.refl _ _) (by have := cur.out.bel.size; omega) _), ?_⟩
    · unfold Boxed
      rw [ho2 _ (by omega), hI.2.block _ (fun e => cur.out.ne e) (by simp)]
      exact Boxed.new w zeroFr 27
    · refine ⟨by have := hI.2.size; simp at this ⊢; omega, fun k h1 h2 => ?_⟩
      rw [ho2 k (by omega), hI.2.block k h1 (by simp; omega)]
      exact Below.heap_alloc _ _ _ h2
end Go.Proofs.Ytdifegaokdoleaa
