/-
  The walk of the model's ToHeap. By the verifier.
-/
import Derived.Test.YtkocbfikcjgigaaGreatWhTakeS
import Derived.Test.YtkocbfikcjgigaaGreatDuPutS
import Derived.Test.YtkocbfikcjgigaaGreatM11LikeWh
namespace Go.Proofs.YtkocbfikcjgigaaGreat
open Go.RowKit

def lenV : Value → Nat
  | .slice _ n _ => n
  | _ => 0
/-- What lies while a wheel is drained: the wheel's variable B, what it holds, the heap so far. -/
structure HpR (w : World) (N B : Nat) (x : Wh) (o : List Du) (xa : Option Addr) (xc : Nat) (ov : Value) (R : List Du) (wr : World) : Prop where
  box : Boxed wr B #[.int .i64 x.step, .slice xa x.slots.length xc] 29
  mem : ∃ b t, DzIn b t wr (.slice xa x.slots.length xc) x.slots ∧ (t ≤ B ∨ B < b)
  out : DuRow (w.heap.size + 1) wr ov o
  bel : Below w.heap.size w wr
  ok : x.ok = true
  cnt : o.length + x.cnt = N
  res : drain x.cnt x o = R
  hi : w.heap.size + 1 ≤ B
theorem HpR.below {w : World} {N B : Nat} {x : Wh} {o : List Du} {xa : Option Addr} {xc : Nat} {ov : Value} {R : List Du} {wr wd : World} (h : HpR w N B x o xa xc ov R wr) (g : Below wr.heap.size wr wd) : HpR w N B x o xa xc ov R wd := by
  obtain ⟨b, t, h1, h2⟩ := h.mem
  exact ⟨h.box.below h.box.under g, ⟨b, t, h1.below g, h2⟩, h.out.carry (fun k _ hk => g.block k hk), h.bel.trans (g.mono h.bel.size), h.ok, h.cnt, h.res, h.hi⟩
theorem Wh.big_ok {x : Wh} (h : x.ok = true) : x.big ≤ 1048576 ∧ x.cnt ≤ 60 ∧ x.slots.length = 8 := by
  have h1 := Wh.ok_iff.1 h
  have h2 := flat_len x.slots
  unfold Wh.big Wh.cnt
  rw [h1.1.2] at h2 ⊢
  omega
theorem du_ne_wheel : (33 : TypeId) ≠ 29 := by decide
/-- A list of dues lies in no block of another kind. -/
theorem DuRow.unlike {base : Nat} {w : World} {v : Value} {l : List Du} (h : DuRow base w v l) {B : Nat} {cs : Array Value} (hb : Boxed w B cs 29) : ∀ k, v.ownBlock = Option.some k → k ≠ B := fun k hk e => by
  subst e
  rcases h.2 with ⟨rfl, _⟩ | ⟨g, cap, cur, rfl, _, hg, _⟩
  · cases hk
  · cases hk
    unfold Boxed at hb
    rw [hg] at hb
    simp only [Option.some.injEq, Obj.cells.injEq] at hb
    exact absurd hb.2.1 du_ne_wheel

set_option maxHeartbeats 6400000 in
set_option maxRecDepth 100000 in
theorem specToHeap (r : Wh) (v : Value) (w : World) (hB : r.big ≤ 1048576) (h : Hid (WhAt w v r)) :
    Calls Tryz.prog 19 #[v] w fun e w' => (∃ v', e = .returned (.tuple #[v', .bool r.ok]) ∧ DuRow w.heap.size w' v' (toH r)) ∧ Below w.heap.size w w' := by
  obtain ⟨a, c, rfl, k⟩ := h.out
  have A1 := fun w h => specWheelOk r a c w hB h
  have A2 := fun w h => specWhCopy r a c w hB h
  have Hp : Hid (toH r = if r.ok = true then drain r.cnt r [] else []) := rfl
  have Hc : Hid (r.ok = true → r.cnt ≤ 60 ∧ r.slots.length = 8) := fun g => (Wh.big_ok g).2
  have Hr : Hid (r = ⟨r.step, r.slots⟩) := rfl
  generalize toH r = R at Hp ⊢
  obtain ⟨f, ls⟩ := r
  simp only [Wh.val] at A1 A2 Hc k ⊢
  obtain ⟨n, hn⟩ : ∃ n, ls.length = n := ⟨_, rfl⟩
  rw [hn] at A1 A2 Hc ⊢
  have Hn : Hid (ls.length = n) := hn
  obtain ⟨ok, hok'⟩ : ∃ ok, (⟨f, ls⟩ : Wh).ok = ok := ⟨_, rfl⟩
  rw [hok'] at A1 Hp Hc ⊢
  have Hok : Hid ((⟨f, ls⟩ : Wh).ok = ok) := hok'
  have A1' : Hid _ := A1
  have A2' : Hid _ := A2
  have K : Hid (DzAt w a ls) := k
  clear A1 A2 h k hB hn hok' Hr
  obtain ⟨W, hW⟩ : ∃ W, W = (w.alloc (.cells #[.int .i64 f, .slice a n c] 29)).alloc (.cells #[] 33) := ⟨_, rfl⟩
  have X : Hid (DzAt W a ls ∧ Boxed W w.heap.size #[.int .i64 f, .slice a n c] 29 ∧ DuRow (w.heap.size + 1) W (.slice (some ⟨w.heap.size + 1, 0, none⟩) 0 0) [] ∧ Below w.heap.size w W) := by
    rw [hW]
    have b := ((Below.refl w.heap.size w).alloc (Nat.le_refl _) (.cells #[.int .i64 f, .slice a n c] 29)).alloc (by simp) (.cells #[] 33)
    refine ⟨K.out.below b, (Boxed.new w _ _).more _, ?_, b⟩
    have := du_built (w.alloc (.cells #[.int .i64 f, .slice a n c] 29)) (w.heap.size + 1) (by simp)
    simpa using this
  have HW : Hid (W = _) := hW
  clear hW
  go_enter Tryz.func19, Tryz.ntmps19
  go_upto_region 2 with fail
  rw [← HW.out]
  go_wp2_with (refine wpList_load_row rfl 29 (.tmp 1) rfl w.heap.size rfl _ _ _ _ X.out.2.1 Tryz.underlying29 rfl (by kernel_rfl) ?_)
  refine (A1'.out _ X.out.1).mono ?_
  rintro e w1 ⟨rfl, q⟩
  have X1 : Hid (DzAt w1 a ls ∧ Boxed w1 w.heap.size #[.int .i64 f, .slice a n c] 29 ∧ DuRow (w.heap.size + 1) w1 (.slice (some ⟨w.heap.size + 1, 0, none⟩) 0 0) [] ∧ Below w.heap.size w w1) := ⟨X.out.1.below q, X.out.2.1.below X.out.2.1.under q, X.out.2.2.1.carry (fun k _ hk => q.block k hk), X.out.2.2.2.trans (q.mono X.out.2.2.2.size)⟩
  clear q X A1' HW
  cases ok
  · have e2 : R = [] := by rw [Hp.out]; rfl
    subst e2
    go_wp2
    go_ret2
    exact ⟨⟨_, rfl, X1.out.2.2.1.mono (by omega)⟩, X1.out.2.2.2⟩
  have e2 : R = drain (⟨f, ls⟩ : Wh).cnt ⟨f, ls⟩ [] := by rw [Hp.out]; rfl
  have HR : Hid _ := e2
  obtain ⟨hN, h8⟩ := Hc.out (by first | exact trivial | exact rfl)
  subst h8
  clear e2 Hp Hc
  go_wp2_with (refine wpList_load_row rfl 29 (.tmp 1) rfl w.heap.size rfl _ _ _ _ X1.out.2.1 Tryz.underlying29 rfl (by kernel_rfl) ?_)
  refine (A2'.out _ X1.out.1).mono ?_
  rintro e w2 ⟨⟨vv, vs, rfl, hG⟩, q⟩
  obtain ⟨vx, vc, ev⟩ := rows_shape hG.outer
  rw [Hn.out] at ev
  subst ev
  have N : Hid (Boxed (w2.alloc (.cells #[.int .i64 0, .slice none 0 0] 29)) w2.heap.size #[.int .i64 0, .slice none 0 0] 29) := Boxed.new _ _ _
  obtain ⟨w3, hw3⟩ : ∃ w3, (w2.alloc (.cells #[.int .i64 0, .slice none 0 0] 29)).setRow w2.heap.size #[.int .i64 f, .slice vx 8 vc] = w3 := ⟨_, rfl⟩
  have b3 : Below w2.heap.size w2 w3 := by rw [← hw3]; exact below_setRow ((Below.refl _ _).alloc (Nat.le_refl _) _) (Nat.le_refl _) _
  have X3 : Hid (HpR w (⟨f, ls⟩ : Wh).cnt w2.heap.size ⟨f, ls⟩ [] vx vc (.slice (some ⟨w.heap.size + 1, 0, none⟩) 0 0) R w3) := by
    have u1 := X1.out.2.1.under
    have u2 := q.size
    have bw : Below w.heap.size w w3 := (X1.out.2.2.2.trans (q.mono X1.out.2.2.2.size)).trans (b3.mono (by have := X1.out.2.2.2.size; omega))
    refine ⟨?_, ⟨w1.heap.size + 3, w2.heap.size, ?_, .inl (Nat.le_refl _)⟩, ?_, bw, Hok.out, by simp, HR.out.symm, by show w.heap.size + 1 ≤ w2.heap.size; omega⟩
    · show Boxed w3 w2.heap.size #[.int .i64 f, .slice vx ls.length vc] _
      rw [Hn.out, ← hw3]
      exact setRow_heap _ _ _ _ _ _ N.out
    · show DzIn _ _ w3 (.slice vx ls.length vc) ls
      rw [Hn.out]
      exact ⟨vs, hG.done.below b3⟩
    · exact X1.out.2.2.1.carry fun k _ hk => by rw [b3.block k (by omega), q.block k hk]
  have H3 : Hid _ := hw3
  clear hw3 b3 hG q X1 A2'
  go_upto_region 5 with (refine wpList_store_row rfl 29 (.tmp 5) (.tmp 15) rfl w2.heap.size #[.int .i64 f, .slice vx 8 vc] rfl rfl _ _ N.out (by kernel_rfl) rfl (by simp [Value.oneCell']) ?_)
  rw [H3.out]
  generalize w2.heap.size = B at X3 ⊢
  clear N H3 HR Hok Hn K
  generalize (⟨f, ls⟩ : Wh).cnt = NN at X3 hN
  simp only [Act.put]
  go_loopw [4, 6, 7, 8] (fun s4 _ _ _ wr => ∃ (x : Wh) (o : List Du) (xa : Option Addr) (xc : Nat) (oa : Option Addr) (oc : Nat), s4 = .slice oa o.length oc ∧ Hid (HpR w NN B x o xa xc (.slice oa o.length oc) R wr)) (fun s4 _ _ _ _ => NN - lenV s4)
  case atStart => exact ⟨_, [], _, _, _, _, rfl, X3⟩
  case round =>
    obtain ⟨x, o, xa, xc, oa, oc, rfl, HK⟩ := hrel
    clear X3
    obtain ⟨wo, rfl⟩ : ∃ wo, wo = wr := ⟨_, rfl⟩
    obtain ⟨hbig, hcnt, hx8⟩ := Wh.big_ok HK.out.ok
    have hol : o.length ≤ 60 := by have := HK.out.cnt; omega
    have T := fun (h : WhAt wo (.agg #[.int .i64 x.step, .slice xa x.slots.length xc]) x) => specWheelTake x (.agg #[.int .i64 x.step, .slice xa x.slots.length xc]) wo hbig h
    have Hat : Hid (WhAt wo (.agg #[.int .i64 x.step, .slice xa x.slots.length xc]) x) := by
      obtain ⟨b, t, h1, -⟩ := HK.out.mem
      exact ⟨xa, xc, rfl, h1.at⟩
    have Bx : Hid (Boxed wo B #[.int .i64 x.step, .slice xa x.slots.length xc] 29) := HK.out.box
    have P := fun (w : World) (h : DusAt w oa o) => specDuPut oa oc o x.takeD w (by omega) (HK.out.out.none) h
    have Htk : Hid (x.takeB = true → x.take.ok = true ∧ x.take.slots.length = 8 ∧ drain x.take.cnt x.take (hput o x.takeD) = R ∧ (hput o x.takeD).length + x.take.cnt = NN ∧ (hput o x.takeD).length = o.length + 1 ∧ o.length < NN) := fun hb => by
      have h1 := (Wh.take_is hb).1
      have h2 := Wh.cnt_take hb
      have h3 := HK.out.cnt
      have h4 := hput_len o x.takeD
      exact ⟨h1, (Wh.big_ok h1).2.2, by rw [← drain_next hb]; exact HK.out.res, by omega, h4, by omega⟩
    have Hno : Hid (x.takeB = false → R = o) := fun hb => by rw [← HK.out.res, drain_none hb]
    generalize x.takeD = d at T P Htk
    generalize x.takeB = tb at T Htk Hno
    generalize x.take = y at T Htk
    generalize hput o d = o2 at P Htk
    generalize hxl : x.slots.length = xl at T Hat Bx
    generalize hxs : x.step = xs at T Hat Bx
    clear hxl hxs
    obtain ⟨d0, d1⟩ := d
    simp only [Du.val] at T P
    have T' : Hid _ := T
    have P' : Hid _ := P
    generalize hON : o.length = on at P' ⊢
    have Hon : Hid (o.length = on) := hON
    rw [hON] at Htk hol P HK
    clear hON T P hbig hx8
    go_wp2_with (refine wpList_load_row rfl 29 (.tmp 5) rfl B rfl _ _ _ _ Bx.out Tryz.underlying29 rfl (by kernel_rfl) ?_)
    refine (T'.out Hat.out).mono ?_
    rintro e w1 ⟨⟨v', rfl, hI⟩, q⟩
    obtain ⟨ya, yc, rfl, hy⟩ := hI
    have HK1 : Hid _ := HK.out.below q
    have hwo : Hid (B < wo.heap.size ∧ wo.heap.size ≤ w1.heap.size) := ⟨HK.out.box.under, q.size⟩
    have Hy : Hid (DzIn wo.heap.size w1.heap.size w1 (.slice ya y.slots.length yc) y.slots) := hy
    clear q hy HK T' Hat Bx
    simp only [Wh.val]
    have N1 : Hid (Boxed ((w1.alloc (.cells #[.int .i64 0, .slice none 0 0] 29)).alloc (.cells #[.int .i64 0, .int .i64 0] 33)) w1.heap.size #[.int .i64 0, .slice none 0 0] 29) := (Boxed.new _ _ _).more _
    have N2 : Hid (Boxed (((w1.alloc (.cells #[.int .i64 0, .slice none 0 0] 29)).alloc (.cells #[.int .i64 0, .int .i64 0] 33)).setRow w1.heap.size #[.int .i64 y.step, .slice ya y.slots.length yc]) (w1.heap.size + 1) #[.int .i64 0, .int .i64 0] 33) := by
      have h1 : Boxed ((w1.alloc (.cells #[.int .i64 0, .slice none 0 0] 29)).alloc (.cells #[.int .i64 0, .int .i64 0] 33)) (w1.heap.size + 1) #[.int .i64 0, .int .i64 0] 33 := by
        have := Boxed.new (w1.alloc (.cells #[.int .i64 0, .slice none 0 0] 29)) #[.int .i64 0, .int .i64 0] 33
        simpa using this
      exact (setRow_other _ _ _ _ (by omega)).trans h1
    obtain ⟨w4, hw4⟩ : ∃ w4, ((((w1.alloc (.cells #[.int .i64 0, .slice none 0 0] 29)).alloc (.cells #[.int .i64 0, .int .i64 0] 33)).setRow w1.heap.size #[.int .i64 y.step, .slice ya y.slots.length yc])).setRow (w1.heap.size + 1) #[.int .i64 d0, .int .i64 d1] = w4 := ⟨_, rfl⟩
    have b4 : Below w1.heap.size w1 w4 := by rw [← hw4]; exact below_setRow (below_setRow (((Below.refl _ _).alloc (Nat.le_refl _) _).alloc (by simp) _) (Nat.le_refl _) _) (by omega) _
    have X4 : Hid (HpR w NN B x o xa xc (.slice oa on oc) R w4 ∧ Boxed w4 w1.heap.size #[.int .i64 y.step, .slice ya y.slots.length yc] 29 ∧ Boxed w4 (w1.heap.size + 1) #[.int .i64 d0, .int .i64 d1] 33 ∧ DzIn wo.heap.size w1.heap.size w4 (.slice ya y.slots.length yc) y.slots ∧ w1.heap.size + 1 < w4.heap.size) := by
      have e2 : Boxed w4 (w1.heap.size + 1) #[.int .i64 d0, .int .i64 d1] 33 := by rw [← hw4]; exact setRow_heap _ _ _ _ _ _ N2.out
      refine ⟨HK1.out.below b4, ?_, e2, Hy.out.below b4, e2.under⟩
      rw [← hw4]
      exact (setRow_other _ _ _ _ (by omega)).trans (setRow_heap _ _ _ _ _ _ N1.out)
    have H4 : Hid _ := hw4
    clear hw4 b4 HK1 Hy
    go_upto_region 6 with (first | (refine wpList_store_row rfl 29 (.tmp 6) (.tmp 19) rfl w1.heap.size #[.int .i64 y.step, .slice ya y.slots.length yc] rfl rfl _ _ N1.out (by kernel_rfl) rfl (by simp [Value.oneCell']) ?_) | (refine wpList_store_row rfl 33 (.tmp 7) (.tmp 20) rfl (w1.heap.size + 1) #[.int .i64 d0, .int .i64 d1] rfl rfl _ _ N2.out (by kernel_rfl) rfl (by simp [Value.oneCell']) ?_))
    rw [H4.out]
    clear N1 N2 H4
    cases tb
    · have e : R = o := Hno.out (by first | exact trivial | exact rfl)
      subst e
      go_wp2
      go_ret2
      exact ⟨⟨_, rfl, X4.out.1.out.mono (by omega)⟩, X4.out.1.bel⟩
    obtain ⟨t1, t2, t3, t4, t5, t6⟩ := Htk.out (by first | exact trivial | exact rfl)
    have HT : Hid _ := And.intro t1 (And.intro t3 (And.intro t4 t5))
    have HT8 : Hid (y.slots.length = 8) := t2
    have HD4 : Hid (DzIn wo.heap.size w1.heap.size w4 (.slice ya y.slots.length yc) y.slots) := X4.out.2.2.2.1
    rw [t2] at X4 ⊢
    clear Htk Hno t1 t3 t4 t5 t2
    have f0 : w4.cell? ⟨w1.heap.size + 1, 0, none⟩ = some (.int .i64 d0) := X4.out.2.2.1.cell 0 rfl
    have f1 : w4.cell? ⟨w1.heap.size + 1, 1, none⟩ = some (.int .i64 d1) := X4.out.2.2.1.cell 1 rfl
    have Ho : Hid (DusAt w4 oa o) := by
      have := X4.out.1.out
      rw [← Hon.out] at this
      exact this.at
    go_wp2_with fail
    refine (P'.out _ Ho.out).mono ?_
    rintro e w5 ⟨g5, c5, rfl, r5, q5⟩
    have X5 : Hid (HpR w NN B x o xa xc (.slice oa on oc) R w5 ∧ Boxed w5 w1.heap.size #[.int .i64 y.step, .slice ya 8 yc] 29 ∧ DzIn wo.heap.size w1.heap.size w5 (.slice ya y.slots.length yc) y.slots ∧ DuRow (w4.heap.size + 1) w5 (.slice (some ⟨g5, 0, none⟩) (on + 1) c5) o2 ∧ w1.heap.size < w4.heap.size) := ⟨X4.out.1.below q5, X4.out.2.1.below (by have := X4.out.2.2.2.2; omega) q5, HD4.out.below q5, r5, by have := X4.out.2.2.2.2; omega⟩
    clear q5 r5 f0 f1 P' Ho X4
    have Fin : Hid (HpR w NN B y o2 ya yc (.slice (some ⟨g5, 0, none⟩) (on + 1) c5) R (w5.setRow B #[.int .i64 y.step, .slice ya 8 yc])) := by
      have hB := hwo.out
      have h5 := X5.out.2.2.2.2
      refine ⟨?_, ⟨wo.heap.size, w1.heap.size, X5.out.2.2.1.keep (by rw [size_setRow]; exact Nat.le_refl _) (fun k k1 _ => setRow_other _ _ _ _ (by omega)), .inr hB.1⟩, ?_, below_setRow X5.out.1.bel (by have := X5.out.1.hi; omega) _, HT.out.1, HT.out.2.2.1, HT.out.2.1, X5.out.1.hi⟩
      · rw [HT8.out]
        exact setRow_heap _ _ _ _ _ _ X5.out.1.box
      · refine DuRow.mono (X5.out.2.2.2.1.carry fun k hk _ => setRow_other _ _ _ _ ?_) (by have := X5.out.1.hi; omega)
        have := (X5.out.2.2.2.1.lt k hk).1
        omega
    have ey : Hid (o2.length = on + 1) := HT.out.2.2.2
    go_wp2_with (first | (refine wpList_load_row rfl 29 (.tmp 6) rfl w1.heap.size rfl _ _ _ _ X5.out.2.1 Tryz.underlying29 rfl (by kernel_rfl) ?_) | (refine wpList_store_row rfl 29 (.tmp 5) (.tmp 28) rfl B #[.int .i64 y.step, .slice ya 8 yc] rfl rfl _ _ X5.out.1.box (by kernel_rfl) rfl (by simp [Value.oneCell']) ?_))
    simp only [Act.put, List.setIfInBounds_toArray, List.set_cons_succ, List.set_cons_zero]
    go_roundw
    case rel => exact ⟨y, o2, ya, yc, some ⟨g5, 0, none⟩, c5, by rw [ey.out], by rw [ey.out]; exact Fin⟩
    case measure => simp [lenV]; omega
end Go.Proofs.YtkocbfikcjgigaaGreat
