/-
  The model's drawing of a rule: the call's own memory. By the verifier, by program.
-/
import Derived.Test.YtdifegaokdoleaaRtDrawR
import Derived.Test.YtdifegaokdoleaaRuPlain
import Derived.Laws.ResultCell
import Derived.Laws.CopyOwn
namespace Go.Proofs.Ytdifegaokdoleaa
open Go.RowKit

/-- A zero rule's cells. -/
def zeroRu : Array Value := #[.int .i64 0, .int .i64 0, .int .i64 0, .int .i64 0, .int .i64 0, .int .i64 0, .int .i64 0, .int .i64 0, .int .i64 0, .int .i64 0]
/-- The call's own memory: the rule that is drawn, the answer's variable, the cursor. -/
structure DrU (W : World) (bc : Nat) (ac : Option Addr) (len cap : Nat) (w : World) (B : Nat) (r : Ru) (wr : World) : Prop where
  rt : Boxed wr B #[.int .i64 r.id, .int .i64 r.prio, .int .i64 r.snet, .int .i64 r.sbits, .int .i64 r.dnet, .int .i64 r.dbits, .int .i64 r.proto, .int .i64 r.low, .int .i64 r.high, .int .i64 r.cls] 32
  res : Boxed wr w.heap.size zeroRu 32
  cur : Cur W bc ac len cap wr
  kp : Keep bc w wr
  lt : w.heap.size < B
  bl : bc < w.heap.size
theorem DrU.draw {W : World} {bc : Nat} {ac : Option Addr} {len cap : Nat} {w : World} {B : Nat} {r : Ru} {wr wd : World} (h : DrU W bc ac len cap w B r wr) (c : Cur W bc ac len cap wd) (k : Keep bc wr wd) : DrU W bc ac len cap w B r wd := by
  have := h.lt
  have := h.bl
  exact ⟨h.rt.keep (by omega) k, h.res.keep (by omega) k, c, h.kp.trans k, h.lt, h.bl⟩
theorem DrU.more {W : World} {bc : Nat} {ac : Option Addr} {len cap : Nat} {w : World} {B : Nat} {r : Ru} {wr : World} (h : DrU W bc ac len cap w B r wr) (o : Obj) : DrU W bc ac len cap w B r (wr.alloc o) :=
  ⟨h.rt.more _, h.res.more _, h.cur.alloc _, h.kp.alloc _, h.lt, h.bl⟩
theorem DrU.drew {W : World} {bc : Nat} {ac : Option Addr} {len cap : Nat} {w : World} {B : Nat} {r : Ru} {wr : World} (h : DrU W bc ac len cap w B r wr) : DrU W bc ac len cap w B r wr.drew :=
  ⟨h.rt, h.res, h.cur.drew, h.kp.drew, h.lt, h.bl⟩
theorem DrU.put {W : World} {bc : Nat} {ac : Option Addr} {len cap : Nat} {w : World} {B : Nat} {r : Ru} {r' : Ru} {wr : World} (h : DrU W bc ac len cap w B r wr) (j : Nat) (v : Value)
    (hr : (#[.int .i64 r.id, .int .i64 r.prio, .int .i64 r.snet, .int .i64 r.sbits, .int .i64 r.dnet, .int .i64 r.dbits, .int .i64 r.proto, .int .i64 r.low, .int .i64 r.high, .int .i64 r.cls] : Array Value).setIfInBounds j v = #[.int .i64 r'.id, .int .i64 r'.prio, .int .i64 r'.snet, .int .i64 r'.sbits, .int .i64 r'.dnet, .int .i64 r'.dbits, .int .i64 r'.proto, .int .i64 r'.low, .int .i64 r'.high, .int .i64 r'.cls]) : DrU W bc ac len cap w B r' (wr.setCell ⟨B, j, none⟩ v) := by
  have h1 := h.lt
  have h2 := h.bl
  have h3 := h.cur.bel.size
  have h4 := h.cur.lo
  have o : ∀ k, k ≠ B → (wr.setCell ⟨B, j, none⟩ v).heap[k]? = wr.heap[k]? := fun k hk => Below.heap_setCell _ _ _ _ hk
  refine ⟨by rw [← hr]; exact h.rt.put j v, h.res.far (by omega) j v, h.cur.other (by omega) o ((Below.refl _ _).setCell (p := ⟨B, j, none⟩) (by show W.heap.size ≤ B; omega) _), ⟨by have := h.kp.size; simp only [World.setCell, Array.size_modify]; exact this, fun k g1 g2 => (o k (by omega)).trans (h.kp.block k g1 g2)⟩, h.lt, h.bl⟩
theorem DrU.done {W : World} {bc : Nat} {ac : Option Addr} {len cap : Nat} {w : World} {B : Nat} {r : Ru} {wr : World} (h : DrU W bc ac len cap w B r wr) {t : Act} (h2 : t.tmps.getD 2 undef = .pointer (some ⟨w.heap.size, 0, none⟩)) (hd : t.defers = []) :
    bodyPost Try.prog Try.f39 (fun e w' => (∃ r : Ru, e = .returned r.val) ∧ Cur W bc ac len cap w' ∧ Keep bc w w') .ret t (wr.setRow w.heap.size #[.int .i64 r.id, .int .i64 r.prio, .int .i64 r.snet, .int .i64 r.sbits, .int .i64 r.dnet, .int .i64 r.dbits, .int .i64 r.proto, .int .i64 r.low, .int .i64 r.high, .int .i64 r.cls]) := by
  have g1 := h.lt
  have g2 := h.bl
  have g3 := h.cur.lo
  have o : ∀ k, k ≠ w.heap.size → (wr.setRow w.heap.size #[.int .i64 r.id, .int .i64 r.prio, .int .i64 r.snet, .int .i64 r.sbits, .int .i64 r.dnet, .int .i64 r.dbits, .int .i64 r.proto, .int .i64 r.low, .int .i64 r.high, .int .i64 r.cls]).heap[k]? = wr.heap[k]? := fun k hk => setRow_other _ _ _ _ hk
  refine bodyPost_ret (results_cell_row Try.results39 _ _ w.heap.size _ _ _ _ h2 (setRow_heap wr w.heap.size _ _ _ _ h.res) Try.underlying32 rfl (by kernel_rfl)) hd ⟨⟨r, rfl⟩, h.cur.other (by omega) o (below_setRow (Below.refl _ _) (by omega) _), ?_⟩
  exact ⟨by rw [size_setRow]; exact h.kp.size, fun k q1 q2 => (o k (by omega)).trans (h.kp.block k q1 q2)⟩
theorem oneU (a b c d e f g h i j : Int) : (#[Value.int .i64 a, .int .i64 b, .int .i64 c, .int .i64 d, .int .i64 e, .int .i64 f, .int .i64 g, .int .i64 h, .int .i64 i, .int .i64 j] : Array Value).all (·.oneCell') = true := by simp [Value.oneCell']
theorem op_belowU {W : World} {bc : Nat} {ac : Option Addr} {len cap : Nat} (hc : Hid (Code W ac len)) {o : Oper} {a : Act} {w : World} {K : Act → World → Prop} {Q : Exit → Act → World → Prop} (t : Tmp) (n : Int) (n0 : 0 < n)
    (ho : o.op = .call { callee := .value (.func 56), args := #[.tmp t, .const (.int .i64 n)], argTypes := #[48, 2] }) (hv : a.tmps.getD t undef = .pointer (some ⟨bc, 0, none⟩)) (cur : Cur W bc ac len cap w)
    (h : ∀ x w', 0 ≤ x → x < n → Cur W bc ac len cap w' → Keep bc w w' → K (a.put o.dst (.int .i64 x)) w') : o.wp Try.prog a w K Q := by
  have hv' : a.tmps[t]?.getD undef = .pointer (some ⟨bc, 0, none⟩) := by simpa using hv
  have hrun : (execOp a.eval o).run Try.prog w = .ok (.enter 56 #[.pointer (some ⟨bc, 0, none⟩), .int .i64 n]) w := by
    simp [execOp, ho, resolve, Deferred.ofValue, invoke, Act.eval, hv']
  unfold Oper.wp
  rw [hrun, Oper.upon_enter]
  refine (drawBelow hc n n0 w cur).mono fun e w' hh => ?_
  obtain ⟨⟨x, rfl, x0, x1⟩, c, k⟩ := hh
  exact h x w' x0 x1 c k
/-- The table of the literal. -/
def ruTab : Array Value := #[.int .i64 (-1), .int .i64 (-1), .int .i64 6, .int .i64 17]
/-- What is known of each operation's value. -/
def ruPr (w1 : World) (bc B3 B4 : Nat) : Nat → World → Value → Prop := fun i w v =>
  if i = 1 ∨ i = 4 ∨ i = 15 ∨ i = 19 ∨ i = 21 ∨ i = 2 ∨ i = 6 ∨ i = 8 ∨ i = 10 ∨ i = 12 ∨ i = 17 then ∃ x : Int, v = .int .i64 x ∧ (i = 15 → 0 ≤ x ∧ x < 4)
  else if i = 5 then v = .pointer (some ⟨B3, 0, none⟩) else if i = 7 then v = .pointer (some ⟨B3, 1, none⟩) else if i = 9 then v = .pointer (some ⟨B4, 0, none⟩) else if i = 11 then v = .pointer (some ⟨B4, 1, none⟩)
  else if i = 13 then ∃ B, v = .slice (some ⟨B, 0, none⟩) 4 4 ∧ B ≠ bc ∧ Boxed w B ruTab 2
  else if i = 16 then ∃ B j, v = .pointer (some ⟨B, j, none⟩) ∧ j < 4 ∧ B ≠ bc ∧ Boxed w B ruTab 2
  else if i = 22 then ∃ r : Ru, v = .agg #[.int .i64 r.id, .int .i64 r.prio, .int .i64 r.snet, .int .i64 r.sbits, .int .i64 r.dnet, .int .i64 r.dbits, .int .i64 r.proto, .int .i64 r.low, .int .i64 r.high, .int .i64 r.cls]
  else if i = 23 then ∃ B, v = .pointer (some ⟨B, 0, none⟩) ∧ B ≠ bc ∧ w1.heap.size ≤ B ∧ Boxed w B zeroRu 32
  else v = .pointer (some ⟨bc, 0, none⟩)
theorem ruPr_keep {w1 : World} {bc B3 B4 : Nat} (i : Nat) (w w' : World) (v : Value) (h : ruPr w1 bc B3 B4 i w v) (k : Keep bc w w') : ruPr w1 bc B3 B4 i w' v := by
  unfold ruPr at *
  split
  · rename_i h1; rw [if_pos h1] at h; exact h
  rename_i h1; rw [if_neg h1] at h
  split
  · rename_i h2; rw [if_pos h2] at h; exact h
  rename_i h2; rw [if_neg h2] at h
  split
  · rename_i h3; rw [if_pos h3] at h; exact h
  rename_i h3; rw [if_neg h3] at h
  split
  · rename_i h4; rw [if_pos h4] at h; exact h
  rename_i h4; rw [if_neg h4] at h
  split
  · rename_i h5; rw [if_pos h5] at h; exact h
  rename_i h5; rw [if_neg h5] at h
  split
  · rename_i h6; rw [if_pos h6] at h; obtain ⟨B, e, hne, hb⟩ := h; exact ⟨B, e, hne, hb.keep hne k⟩
  rename_i h6; rw [if_neg h6] at h
  split
  · rename_i h7; rw [if_pos h7] at h; obtain ⟨B, j, e, hj, hne, hb⟩ := h; exact ⟨B, j, e, hj, hne, hb.keep hne k⟩
  rename_i h7; rw [if_neg h7] at h
  split
  · rename_i h8; rw [if_pos h8] at h; exact h
  rename_i h8; rw [if_neg h8] at h
  split
  · rename_i h9; rw [if_pos h9] at h; obtain ⟨B, e, hne, hlo, hb⟩ := h; exact ⟨B, e, hne, hlo, hb.keep hne k⟩
  rename_i h9; rw [if_neg h9] at h
  exact h
end Go.Proofs.Ytdifegaokdoleaa
