/-
  The walk of FnRanks, the program's contracts given. By the verifier, by program.
-/
import Derived.Test.YtojmghnbekneiaaDlDrawQ
import Derived.Test.YtojmghnbekneiaaDlCameS
import Derived.Test.YtojmghnbekneiaaDlSpecR
import Derived.Test.YtojmghnbekneiaaDlFacts
import Derived.Test.YtojmghnbekneiaaDlBig
import Derived.Test.YtojmghnbekneiaaDlVs
import Derived.Test.YtojmghnbekneiaaLikeDl
import Derived.Test.YtojmghnbekneiaaM2OneN
import Derived.BigQuiet
namespace Go.Proofs.Ytojmghnbekneiaa
open Go.RowKit

theorem waiting_in (d : Dl) : -1 ≤ d.waiting ∧ d.waiting ≤ 64000 := by
  unfold Dl.waiting
  split
  · next hk =>
    have h1 := Dl.ok_iff.1 hk
    have : ∀ l : List Hs, (∀ x ∈ l, x.ok = true) → 0 ≤ tot (l.map Hs.sum) ∧ tot (l.map Hs.sum) ≤ 8000 * (l.length : Int) := by
      intro l
      induction l with
      | nil => intro _; simp [tot]
      | cons x r ih =>
        intro h
        have h1 := ih fun y hy => h y (List.mem_cons_of_mem _ hy)
        have h2 := Hs.sum_in (h x List.mem_cons_self)
        simp only [List.map_cons, tot, List.length_cons]
        push_cast
        omega
    have h2 := this d.hosts h1.2.2
    unfold Dl.waits
    omega
  · omega
theorem rank_in (d : Dl) (host : Int) : -1 ≤ d.rank host ∧ d.rank host ≤ 8 := by
  unfold Dl.rank
  split
  · next h =>
    unfold Dl.isRanked at h
    simp only [Bool.and_eq_true, inB_true] at h
    have h1 := (Dl.ok_iff.1 h.1).1
    have h2 := (Dl.gap_is h.1 (h := host.toNat) (by omega)).1
    have h3 := cnt_le (fun i => (hsAt d.hosts i).some) d.turn.toNat d.hosts.length (d.gap host.toNat)
    omega
  · omega

set_option maxHeartbeats 12800000 in
set_option maxRecDepth 100000 in
theorem fnRanks_law
    (IR : ∀ (r : Dl) (v : Value) (host : Int) (w : World), r.big ≤ 1048576 → Hid (DlAt w v r) → Calls Try.prog 14 #[v, .int .i64 host] w fun e w' => e = .returned (.int .i64 (r.rank host)) ∧ Below w.heap.size w w')
    (IC : ∀ (r : Dl) (v : Value) (host : Int) (flow : Int) (w : World), r.big ≤ 1048576 → Hid (DlAt w v r) → Calls Try.prog 18 #[v, .int .i64 host, .int .i64 flow] w fun e w' => (∃ v', e = .returned (.tuple #[v', .bool (r.cameB host flow)]) ∧ DlIn w.heap.size w'.heap.size w' v' (r.came host flow)) ∧ Below w.heap.size w w')
    (IW : ∀ (r : Dl) (v : Value) (w : World), r.big ≤ 1048576 → Hid (DlAt w v r) → Calls Try.prog 12 #[v] w fun e w' => e = .returned (.int .i64 r.waiting) ∧ Below w.heap.size w w')
    (IK : ∀ (r : Dl) (v : Value) (w : World), r.big ≤ 1048576 → Hid (DlAt w v r) → Calls Try.prog 10 #[v] w fun e w' => e = .returned (.bool r.ok) ∧ Below w.heap.size w w')
    (IG : ∀ (r : Dl) (v : Value) (w : World), r.big ≤ 1048576 → Hid (DlAt w v r) → Calls Try.prog 7 #[v] w fun e w' => (∃ v', e = .returned (.tuple #[v', .int .i64 r.wentH, .int .i64 r.wentF]) ∧ DlIn w.heap.size w'.heap.size w' v' r.went) ∧ Below w.heap.size w w')
    (a : Option Addr) (len cap : Nat) (w : World)
    (hcode : ∀ k, k < len → ∃ b off z, a = some ⟨b, off, none⟩ ∧ b < w.heap.size ∧ w.cell? ⟨b, off + k, none⟩ = some (.int .u8 z) ∧ 0 ≤ z ∧ z ≤ 255) :
    Calls Try.prog 4 #[.slice a len cap] w fun e w' => e = .returned (.bool true) ∧ Below w.heap.size w w' := by
  by_cases hbig : 4096 < len
  · clear hcode
    go_enter Try.func4, Try.ntmps4
    go_wp2
    go_ret
    exact ⟨rfl, Below.refl _ _⟩
  have hc : Hid (Code w a len) := ⟨by omega, hcode⟩
  have hb : Hid (Below w.heap.size w w) := Below.refl _ _
  have IR' : Hid _ := IR
  have IC' : Hid _ := IC
  have IW' : Hid _ := IW
  have IK' : Hid _ := IK
  have IG' : Hid _ := IG
  clear hcode IR IC IW IK IG
  go_enter Try.func4, Try.ntmps4
  go_wp2_with (go_at_call 5; go_in)
  refine (dDrawRank hc _ hb).mono ?_
  rintro e w1 ⟨⟨v, d, host, rfl, iD, hD, hh0, hh1⟩, q⟩
  obtain ⟨dp, dq, rfl⟩ := iD.cells'
  have H1 : Hid (Dvs [] w w1 ∧ DlIn w.heap.size w1.heap.size w1 (.agg #[.int .i64 d.turn, .slice dp d.hosts.length dq]) d) := ⟨⟨q, fun _ h => by cases h⟩, iD⟩
  have Hd : Hid (d.big ≤ 1048576) := by show d.big ≤ 1048576; omega
  clear q hb iD hD hh0 hh1
  generalize d.turn = df at H1 ⊢
  generalize d.hosts.length = dn at H1 ⊢
  have N : Hid (Boxed (w1.alloc (.cells #[.int .i64 0, .slice none 0 0] 26)) w1.heap.size #[.int .i64 0, .slice none 0 0] 26) := Boxed.new _ _ _
  have H2 : Hid (Dvs [⟨w1.heap.size, #[.int .i64 df, .slice dp dn dq], d, w.heap.size, w1.heap.size⟩] w ((w1.alloc (.cells #[.int .i64 0, .slice none 0 0] 26)).setRow w1.heap.size #[.int .i64 df, .slice dp dn dq])) := H1.out.1.store _ H1.out.2 (Nat.le_refl _)
  go_wp2_with (first | (refine wpList_store_row rfl 26 (.tmp _) (.tmp _) rfl w1.heap.size #[.int .i64 df, .slice dp dn dq] rfl rfl _ _ N.out (by kernel_rfl) rfl (by simp [Value.oneCell']) ?_) | (refine wpList_load_row rfl 26 (.tmp _) rfl w1.heap.size rfl _ _ _ _ (H2.out.at 0 rfl) Try.underlying26 rfl (by kernel_rfl) ?_))
  generalize (w1.alloc (.cells #[.int .i64 0, .slice none 0 0] 26)).setRow w1.heap.size #[.int .i64 df, .slice dp dn dq] = w2 at H2 ⊢
  obtain ⟨td, htd⟩ : ∃ t, t = w1.heap.size := ⟨_, rfl⟩
  have H2' : Hid (Dvs [⟨w1.heap.size, #[.int .i64 df, .slice dp dn dq], d, w.heap.size, td⟩] w w2 ∧ td ≤ w1.heap.size) := ⟨by rw [htd]; exact H2.out, by rw [htd]; exact Nat.le_refl _⟩
  clear N H1 H2 htd
  generalize w1.heap.size = gd at H2' ⊢
  obtain ⟨bd, hbd⟩ : ∃ b, b = w.heap.size := ⟨_, rfl⟩
  have H2 : Hid (Dvs [⟨gd, #[.int .i64 df, .slice dp dn dq], d, bd, td⟩] w w2 ∧ td ≤ gd) := by rw [hbd]; exact H2'.out
  clear H2' hbd
  have Hdt : Hid (td ≤ gd) := H2.out.2
  obtain ⟨r, hr⟩ : ∃ r, r = d.rank host := ⟨_, rfl⟩
  have C1 := fun w h => IR'.out d (.agg #[.int .i64 df, .slice dp dn dq]) host w Hd.out h
  have C2 := fun w h => specRank d (.agg #[.int .i64 df, .slice dp dn dq]) host w Hd.out h
  rw [← hr] at C1 C2
  have Hr : Hid (r = d.rank host) := hr
  have Hrb : Hid (-1 ≤ r ∧ r ≤ 8) := by rw [hr]; exact rank_in d host
  have C1' : Hid _ := C1
  have C2' : Hid _ := C2
  clear hr C1 C2
  refine (C1'.out _ (H2.out.1.is 0 rfl)).mono ?_
  rintro e w3 ⟨rfl, q⟩
  have H3 : Hid (Dvs [⟨gd, #[.int .i64 df, .slice dp dn dq], d, bd, td⟩] w w3) := H2.out.1.below q
  clear q H2 C1'
  go_wp2_with fail
  refine (dDrawCame hc _ (hid_dvs H3)).mono ?_
  rintro e w4 ⟨⟨v, c, h, f, rfl, iC, hC, hh, hf⟩, q⟩
  obtain ⟨cp, cq, rfl⟩ := iC.cells'
  have H4 : Hid (Dvs [⟨gd, #[.int .i64 df, .slice dp dn dq], d, bd, td⟩] w w4 ∧ DlIn w3.heap.size w4.heap.size w4 (.agg #[.int .i64 c.turn, .slice cp c.hosts.length cq]) c) := ⟨H3.out.below q, iC⟩
  have Hc : Hid (c.big ≤ 1048576) := by show c.big ≤ 1048576; omega
  clear q iC hC H3 hh hf
  generalize c.turn = cf at H4 ⊢
  generalize c.hosts.length = cn at H4 ⊢
  have N : Hid (Boxed (w4.alloc (.cells #[.int .i64 0, .slice none 0 0] 26)) w4.heap.size #[.int .i64 0, .slice none 0 0] 26) := Boxed.new _ _ _
  have H5 : Hid (Dvs [⟨w4.heap.size, #[.int .i64 cf, .slice cp cn cq], c, w3.heap.size, w4.heap.size⟩, ⟨gd, #[.int .i64 df, .slice dp dn dq], d, bd, td⟩] w ((w4.alloc (.cells #[.int .i64 0, .slice none 0 0] 26)).setRow w4.heap.size #[.int .i64 cf, .slice cp cn cq])) := H4.out.1.store _ H4.out.2 (Nat.le_refl _)
  go_wp2_with (first | (refine wpList_store_row rfl 26 (.tmp _) (.tmp _) rfl w4.heap.size #[.int .i64 cf, .slice cp cn cq] rfl rfl _ _ N.out (by kernel_rfl) rfl (by simp [Value.oneCell']) ?_) | (refine wpList_load_row rfl 26 (.tmp _) rfl w4.heap.size rfl _ _ _ _ (H5.out.at 0 rfl) Try.underlying26 rfl (by kernel_rfl) ?_) | (refine wpList_load_row rfl 26 (.tmp _) rfl gd rfl _ _ _ _ (H5.out.at 1 rfl) Try.underlying26 rfl (by kernel_rfl) ?_))
  generalize (w4.alloc (.cells #[.int .i64 0, .slice none 0 0] 26)).setRow w4.heap.size #[.int .i64 cf, .slice cp cn cq] = w5 at H5 ⊢
  obtain ⟨tc, htc⟩ : ∃ t, t = w4.heap.size := ⟨_, rfl⟩
  have H5' : Hid (Dvs [⟨w4.heap.size, #[.int .i64 cf, .slice cp cn cq], c, w3.heap.size, tc⟩, ⟨gd, #[.int .i64 df, .slice dp dn dq], d, bd, td⟩] w w5 ∧ tc ≤ w4.heap.size) := ⟨by rw [htc]; exact H5.out, by rw [htc]; exact Nat.le_refl _⟩
  clear N H4 H5 htc
  generalize w4.heap.size = gc at H5' ⊢
  generalize w3.heap.size = bc at H5'
  have H5 : Hid (Dvs [⟨gc, #[.int .i64 cf, .slice cp cn cq], c, bc, tc⟩, ⟨gd, #[.int .i64 df, .slice dp dn dq], d, bd, td⟩] w w5 ∧ tc ≤ gc) := H5'.out
  clear H5'
  obtain ⟨X, hX⟩ : ∃ X, X = c.came h f := ⟨_, rfl⟩
  obtain ⟨is, his⟩ : ∃ X, X = c.cameB h f := ⟨_, rfl⟩
  have C1 := fun w h0 => IC'.out c (.agg #[.int .i64 cf, .slice cp cn cq]) h f w Hc.out h0
  have C3 := fun w h0 => specCame c (.agg #[.int .i64 cf, .slice cp cn cq]) h f w Hc.out h0
  rw [← hX, ← his] at C1 C3
  have HX : Hid (X = c.came h f ∧ is = c.cameB h f) := ⟨hX, his⟩
  have Hx : Hid (X.big ≤ 1048576) := by rw [hX]; exact big_came Hc.out
  have C1' : Hid _ := C1
  have C3' : Hid _ := C3
  clear hX his C1 C3
  refine (C1'.out _ (H5.out.1.is 0 rfl)).mono ?_
  rintro e w6 ⟨⟨v, rfl, iX⟩, q⟩
  obtain ⟨xp, xq, rfl⟩ := iX.cells'
  have H6 : Hid (Dvs [⟨gc, #[.int .i64 cf, .slice cp cn cq], c, bc, tc⟩, ⟨gd, #[.int .i64 df, .slice dp dn dq], d, bd, td⟩] w w6 ∧ DlIn w5.heap.size w6.heap.size w6 (.agg #[.int .i64 X.turn, .slice xp X.hosts.length xq]) X) := ⟨H5.out.1.below q, iX⟩
  obtain ⟨xf, hxf⟩ : ∃ z, z = X.turn := ⟨_, rfl⟩
  obtain ⟨xn, hxn⟩ : ∃ z, z = X.hosts.length := ⟨_, rfl⟩
  have Hxx : Hid (xf = X.turn ∧ xn = X.hosts.length) := ⟨hxf, hxn⟩
  rw [← hxf, ← hxn] at H6 ⊢
  clear q iX H5 C1' hxf hxn
  have N : Hid (Boxed (w6.alloc (.cells #[.int .i64 0, .slice none 0 0] 26)) w6.heap.size #[.int .i64 0, .slice none 0 0] 26) := Boxed.new _ _ _
  have H7 : Hid (Dvs [⟨w6.heap.size, #[.int .i64 xf, .slice xp xn xq], X, w5.heap.size, w6.heap.size⟩, ⟨gc, #[.int .i64 cf, .slice cp cn cq], c, bc, tc⟩, ⟨gd, #[.int .i64 df, .slice dp dn dq], d, bd, td⟩] w ((w6.alloc (.cells #[.int .i64 0, .slice none 0 0] 26)).setRow w6.heap.size #[.int .i64 xf, .slice xp xn xq])) := H6.out.1.store _ H6.out.2 (Nat.le_refl _)
  go_wp2_with (first | (refine wpList_store_row rfl 26 (.tmp _) (.tmp _) rfl w6.heap.size #[.int .i64 xf, .slice xp xn xq] rfl rfl _ _ N.out (by kernel_rfl) rfl (by simp [Value.oneCell']) ?_) | (refine wpList_load_row rfl 26 (.tmp _) rfl w6.heap.size rfl _ _ _ _ (H7.out.at 0 rfl) Try.underlying26 rfl (by kernel_rfl) ?_) | (refine wpList_load_row rfl 26 (.tmp _) rfl gc rfl _ _ _ _ (H7.out.at 1 rfl) Try.underlying26 rfl (by kernel_rfl) ?_) | (refine wpList_load_row rfl 26 (.tmp _) rfl gd rfl _ _ _ _ (H7.out.at 2 rfl) Try.underlying26 rfl (by kernel_rfl) ?_))
  generalize (w6.alloc (.cells #[.int .i64 0, .slice none 0 0] 26)).setRow w6.heap.size #[.int .i64 xf, .slice xp xn xq] = w7 at H7 ⊢
  obtain ⟨tx, htx⟩ : ∃ t, t = w6.heap.size := ⟨_, rfl⟩
  have H7' : Hid (Dvs [⟨w6.heap.size, #[.int .i64 xf, .slice xp xn xq], X, w5.heap.size, tx⟩, ⟨gc, #[.int .i64 cf, .slice cp cn cq], c, bc, tc⟩, ⟨gd, #[.int .i64 df, .slice dp dn dq], d, bd, td⟩] w w7 ∧ tx ≤ w6.heap.size) := ⟨by rw [htx]; exact H7.out, by rw [htx]; exact Nat.le_refl _⟩
  clear N H6 H7 htx
  generalize w6.heap.size = gx at H7' ⊢
  generalize w5.heap.size = bx at H7'
  have H7 : Hid (Dvs [⟨gx, #[.int .i64 xf, .slice xp xn xq], X, bx, tx⟩, ⟨gc, #[.int .i64 cf, .slice cp cn cq], c, bc, tc⟩, ⟨gd, #[.int .i64 df, .slice dp dn dq], d, bd, td⟩] w w7 ∧ tx ≤ gx) := H7'.out
  clear H7'
  refine (C3'.out _ (H7.out.1.is 1 rfl)).mono ?_
  rintro e w8 ⟨⟨v, rfl, iX⟩, q⟩
  obtain ⟨sp, sq, rfl⟩ := iX.cells'
  have H8 : Hid (Dvs [⟨gx, #[.int .i64 xf, .slice xp xn xq], X, bx, tx⟩, ⟨gc, #[.int .i64 cf, .slice cp cn cq], c, bc, tc⟩, ⟨gd, #[.int .i64 df, .slice dp dn dq], d, bd, td⟩] w w8 ∧ DlIn w7.heap.size w8.heap.size w8 (.agg #[.int .i64 X.turn, .slice sp X.hosts.length sq]) X) := ⟨H7.out.1.below q, iX⟩
  rw [← Hxx.out.1, ← Hxx.out.2] at H8 ⊢
  obtain ⟨sf, hyf⟩ : ∃ z, z = xf := ⟨_, rfl⟩
  obtain ⟨sn, hyn⟩ : ∃ z, z = xn := ⟨_, rfl⟩
  have ey : (Value.agg #[.int .i64 xf, .slice sp xn sq]) = .agg #[.int .i64 sf, .slice sp sn sq] := by rw [hyf, hyn]
  rw [ey] at H8 ⊢
  have e9 : (Array.mk [Value.int .i64 xf, .slice sp xn sq]) = #[.int .i64 sf, .slice sp sn sq] := by rw [hyf, hyn]
  clear q iX H7 C3' hyf hyn ey e9 Hxx
  have N : Hid (Boxed (w8.alloc (.cells #[.int .i64 0, .slice none 0 0] 26)) w8.heap.size #[.int .i64 0, .slice none 0 0] 26) := Boxed.new _ _ _
  have H9 : Hid (Dvs [⟨w8.heap.size, #[.int .i64 sf, .slice sp sn sq], X, w7.heap.size, w8.heap.size⟩, ⟨gx, #[.int .i64 xf, .slice xp xn xq], X, bx, tx⟩, ⟨gc, #[.int .i64 cf, .slice cp cn cq], c, bc, tc⟩, ⟨gd, #[.int .i64 df, .slice dp dn dq], d, bd, td⟩] w ((w8.alloc (.cells #[.int .i64 0, .slice none 0 0] 26)).setRow w8.heap.size #[.int .i64 sf, .slice sp sn sq])) := H8.out.1.store _ H8.out.2 (Nat.le_refl _)
  go_upto_region 8 with (first | (refine wpList_store_row rfl 26 (.tmp _) (.tmp _) rfl w8.heap.size #[.int .i64 sf, .slice sp sn sq] rfl rfl _ _ N.out (by kernel_rfl) rfl (by simp [Value.oneCell']) ?_) | (refine wpList_load_row rfl 26 (.tmp _) rfl w8.heap.size rfl _ _ _ _ (H9.out.at 0 rfl) Try.underlying26 rfl (by kernel_rfl) ?_) | (refine wpList_load_row rfl 26 (.tmp _) rfl gx rfl _ _ _ _ (H9.out.at 1 rfl) Try.underlying26 rfl (by kernel_rfl) ?_) | (refine wpList_load_row rfl 26 (.tmp _) rfl gc rfl _ _ _ _ (H9.out.at 2 rfl) Try.underlying26 rfl (by kernel_rfl) ?_) | (refine wpList_load_row rfl 26 (.tmp _) rfl gd rfl _ _ _ _ (H9.out.at 3 rfl) Try.underlying26 rfl (by kernel_rfl) ?_))
  generalize (w8.alloc (.cells #[.int .i64 0, .slice none 0 0] 26)).setRow w8.heap.size #[.int .i64 sf, .slice sp sn sq] = w9 at H9 ⊢
  obtain ⟨ts, hts⟩ : ∃ t, t = w8.heap.size := ⟨_, rfl⟩
  have H9' : Hid (Dvs [⟨w8.heap.size, #[.int .i64 sf, .slice sp sn sq], X, w7.heap.size, ts⟩, ⟨gx, #[.int .i64 xf, .slice xp xn xq], X, bx, tx⟩, ⟨gc, #[.int .i64 cf, .slice cp cn cq], c, bc, tc⟩, ⟨gd, #[.int .i64 df, .slice dp dn dq], d, bd, td⟩] w w9 ∧ ts ≤ w8.heap.size) := ⟨by rw [hts]; exact H9.out, by rw [hts]; exact Nat.le_refl _⟩
  clear N H8 H9 hts
  generalize w8.heap.size = gs at H9' ⊢
  generalize w7.heap.size = bs at H9'
  have H9 : Hid (Dvs [⟨gs, #[.int .i64 sf, .slice sp sn sq], X, bs, ts⟩, ⟨gx, #[.int .i64 xf, .slice xp xn xq], X, bx, tx⟩, ⟨gc, #[.int .i64 cf, .slice cp cn cq], c, bc, tc⟩, ⟨gd, #[.int .i64 df, .slice dp dn dq], d, bd, td⟩] w w9 ∧ ts ≤ gs) := H9'.out
  clear H9'
  have L1 := fun w h1 h2 => likeDls (.agg #[.int .i64 xf, .slice xp xn xq]) (.agg #[.int .i64 sf, .slice sp sn sq]) X w Hx.out h1 h2
  have L1' : Hid _ := L1
  clear L1
  have H10 : Hid (Dvs [⟨gs, #[.int .i64 sf, .slice sp sn sq], X, bs, ts⟩, ⟨gx, #[.int .i64 xf, .slice xp xn xq], X, bx, tx⟩, ⟨gc, #[.int .i64 cf, .slice cp cn cq], c, bc, tc⟩, ⟨gd, #[.int .i64 df, .slice dp dn dq], d, bd, td⟩] w w9) := H9.out.1
  clear H9
  go_cut [66] (fun s wc => Hid (s = .bool false ∧ Dvs [⟨gs, #[.int .i64 sf, .slice sp sn sq], X, bs, ts⟩, ⟨gx, #[.int .i64 xf, .slice xp xn xq], X, bx, tx⟩, ⟨gc, #[.int .i64 cf, .slice cp cn cq], c, bc, tc⟩, ⟨gd, #[.int .i64 df, .slice dp dn dq], d, bd, td⟩] w wc))
  case first =>
    cases is
    · skip
      have kx0 : w9.cell? ⟨gx, 0, none⟩ = some (.int .i64 xf) := (H10.out.at 1 rfl).cell 0 rfl
      have kx1 : w9.cell? ⟨gx, 1, none⟩ = some (.slice xp xn xq) := (H10.out.at 1 rfl).cell 1 rfl
      have ks0 : w9.cell? ⟨gs, 0, none⟩ = some (.int .i64 sf) := (H10.out.at 0 rfl).cell 0 rfl
      have ks1 : w9.cell? ⟨gs, 1, none⟩ = some (.slice sp sn sq) := (H10.out.at 0 rfl).cell 1 rfl
      go_wp2_with fail
      refine (L1'.out _ (H10.out.is 1 rfl) (H10.out.is 0 rfl)).mono ?_
      rintro e w11 ⟨rfl, q⟩
      have H11 : Hid (Dvs [⟨gs, #[.int .i64 sf, .slice sp sn sq], X, bs, ts⟩, ⟨gx, #[.int .i64 xf, .slice xp xn xq], X, bx, tx⟩, ⟨gc, #[.int .i64 cf, .slice cp cn cq], c, bc, tc⟩, ⟨gd, #[.int .i64 df, .slice dp dn dq], d, bd, td⟩] w w11) := H10.out.below q
      clear q H10 L1' kx0 kx1 ks0 ks1
      have kd0 : w11.cell? ⟨gd, 0, none⟩ = some (.int .i64 df) := (H11.out.at 3 rfl).cell 0 rfl
      have kd1 : w11.cell? ⟨gd, 1, none⟩ = some (.slice dp dn dq) := (H11.out.at 3 rfl).cell 1 rfl
      go_wp2_with fail
      refine (C2'.out _ (H11.out.is 3 rfl)).mono ?_
      rintro e w12 ⟨rfl, q⟩
      have H12 : Hid (Dvs [⟨gs, #[.int .i64 sf, .slice sp sn sq], X, bs, ts⟩, ⟨gx, #[.int .i64 xf, .slice xp xn xq], X, bx, tx⟩, ⟨gc, #[.int .i64 cf, .slice cp cn cq], c, bc, tc⟩, ⟨gd, #[.int .i64 df, .slice dp dn dq], d, bd, td⟩] w w12) := H11.out.below q
      clear q H11 C2' kd0 kd1
      go_wp2_with fail
      go_meet
      exact ⟨rfl, H12.out⟩
    · skip
      have kx0 : w9.cell? ⟨gx, 0, none⟩ = some (.int .i64 xf) := (H10.out.at 1 rfl).cell 0 rfl
      have kx1 : w9.cell? ⟨gx, 1, none⟩ = some (.slice xp xn xq) := (H10.out.at 1 rfl).cell 1 rfl
      have ks0 : w9.cell? ⟨gs, 0, none⟩ = some (.int .i64 sf) := (H10.out.at 0 rfl).cell 0 rfl
      have ks1 : w9.cell? ⟨gs, 1, none⟩ = some (.slice sp sn sq) := (H10.out.at 0 rfl).cell 1 rfl
      go_wp2_with fail
      refine (L1'.out _ (H10.out.is 1 rfl) (H10.out.is 0 rfl)).mono ?_
      rintro e w11 ⟨rfl, q⟩
      have H11 : Hid (Dvs [⟨gs, #[.int .i64 sf, .slice sp sn sq], X, bs, ts⟩, ⟨gx, #[.int .i64 xf, .slice xp xn xq], X, bx, tx⟩, ⟨gc, #[.int .i64 cf, .slice cp cn cq], c, bc, tc⟩, ⟨gd, #[.int .i64 df, .slice dp dn dq], d, bd, td⟩] w w11) := H10.out.below q
      clear q H10 L1' kx0 kx1 ks0 ks1
      have kd0 : w11.cell? ⟨gd, 0, none⟩ = some (.int .i64 df) := (H11.out.at 3 rfl).cell 0 rfl
      have kd1 : w11.cell? ⟨gd, 1, none⟩ = some (.slice dp dn dq) := (H11.out.at 3 rfl).cell 1 rfl
      go_wp2_with fail
      refine (C2'.out _ (H11.out.is 3 rfl)).mono ?_
      rintro e w12 ⟨rfl, q⟩
      have H12 : Hid (Dvs [⟨gs, #[.int .i64 sf, .slice sp sn sq], X, bs, ts⟩, ⟨gx, #[.int .i64 xf, .slice xp xn xq], X, bx, tx⟩, ⟨gc, #[.int .i64 cf, .slice cp cn cq], c, bc, tc⟩, ⟨gd, #[.int .i64 df, .slice dp dn dq], d, bd, td⟩] w w12) := H11.out.below q
      clear q H11 C2' kd0 kd1
      go_wp2_with fail
      go_meet
      exact ⟨rfl, H12.out⟩
  case rest =>
  obtain ⟨rfl, hP⟩ := hcut.out
  have H12 : Hid (Dvs [⟨gs, #[.int .i64 sf, .slice sp sn sq], X, bs, ts⟩, ⟨gx, #[.int .i64 xf, .slice xp xn xq], X, bx, tx⟩, ⟨gc, #[.int .i64 cf, .slice cp cn cq], c, bc, tc⟩, ⟨gd, #[.int .i64 df, .slice dp dn dq], d, bd, td⟩] w wc) := hP
  clear hcut hP H10 L1' C2'
  go_upto_region 10 with fail
  generalize wc = w12 at H12 ⊢
  go_cut [100] (fun s wc => Hid (s = .bool false ∧ Dvs [⟨gs, #[.int .i64 sf, .slice sp sn sq], X, bs, ts⟩, ⟨gx, #[.int .i64 xf, .slice xp xn xq], X, bx, tx⟩, ⟨gc, #[.int .i64 cf, .slice cp cn cq], c, bc, tc⟩, ⟨gd, #[.int .i64 df, .slice dp dn dq], d, bd, td⟩] w wc))
  case first =>
    cases is
    · skip
      go_wp2_with fail
      have Go : Hid (∀ p : BelW w12.heap.size w12, Dvs [⟨gs, #[.int .i64 sf, .slice sp sn sq], X, bs, ts⟩, ⟨gx, #[.int .i64 xf, .slice xp xn xq], X, bx, tx⟩, ⟨gc, #[.int .i64 cf, .slice cp cn cq], c, bc, tc⟩, ⟨gd, #[.int .i64 df, .slice dp dn dq], d, bd, td⟩] w p.w') := fun p => H12.out.below p.h
      have cx0 : ∀ p : BelW w12.heap.size w12, p.w'.cell? ⟨gx, 0, none⟩ = some (.int .i64 xf) := fun p => ((Go.out p).at 1 rfl).cell 0 rfl
      have cx1 : ∀ p : BelW w12.heap.size w12, p.w'.cell? ⟨gx, 1, none⟩ = some (.slice xp xn xq) := fun p => ((Go.out p).at 1 rfl).cell 1 rfl
      have cc0 : ∀ p : BelW w12.heap.size w12, p.w'.cell? ⟨gc, 0, none⟩ = some (.int .i64 cf) := fun p => ((Go.out p).at 2 rfl).cell 0 rfl
      have cc1 : ∀ p : BelW w12.heap.size w12, p.w'.cell? ⟨gc, 1, none⟩ = some (.slice cp cn cq) := fun p => ((Go.out p).at 2 rfl).cell 1 rfl
      haveI : Nonempty (BelW w12.heap.size w12) := ⟨⟨w12, Below.refl _ _⟩⟩
      have hF := HX.out.2.symm
      have K1 := fun w h0 => specDealOk c (.agg #[.int .i64 cf, .slice cp cn cq]) w Hc.out h0
      by_cases hk : c.ok = true
      · have e1 := Dl.came_not hk hF
        rw [← HX.out.1] at e1
        have K2 := fun w h1 h2 => likeDls (.agg #[.int .i64 xf, .slice xp xn xq]) (.agg #[.int .i64 cf, .slice cp cn cq]) X w Hx.out h1 h2
        rw [hk] at K1
        have K1' : Hid _ := K1
        have K2' : Hid _ := K2
        have E1 : Hid (X = c) := e1
        clear K1 K2 e1 hk hF
        refine region_below w12.heap.size (by kernel_rfl) (by kernel_rfl) ?_
        repeat (go_big_quiet_step ((first | (go_at_call 11; with_reducible refine quiet_below (Nat.le_refl _) (K1'.out _ ((Go.out _).is 2 rfl))) | (go_at_call 9; with_reducible refine quiet_below (Nat.le_refl _) (K2'.out _ ((Go.out _).is 1 rfl) (by rw [E1.out]; exact (Go.out _).is 2 rfl))))))
        refine wpQuiet_nil ?_
        intro w13 hx
        have H13 : Hid (Dvs [⟨gs, #[.int .i64 sf, .slice sp sn sq], X, bs, ts⟩, ⟨gx, #[.int .i64 xf, .slice xp xn xq], X, bx, tx⟩, ⟨gc, #[.int .i64 cf, .slice cp cn cq], c, bc, tc⟩, ⟨gd, #[.int .i64 df, .slice dp dn dq], d, bd, td⟩] w w13) := H12.out.below (BelW.out hx)
        clear hx cx0 cx1 cc0 cc1
        go_wp2
        go_meet
        exact ⟨rfl, H13.out⟩
      · have hk' : c.ok = false := by simpa using hk
        rw [hk'] at K1
        have K1' : Hid _ := K1
        clear K1 hk hk' hF
        refine region_below w12.heap.size (by kernel_rfl) (by kernel_rfl) ?_
        repeat (go_big_quiet_step ((first | (go_at_call 11; with_reducible refine quiet_below (Nat.le_refl _) (K1'.out _ ((Go.out _).is 2 rfl))))))
        refine wpQuiet_nil ?_
        intro w13 hx
        have H13 : Hid (Dvs [⟨gs, #[.int .i64 sf, .slice sp sn sq], X, bs, ts⟩, ⟨gx, #[.int .i64 xf, .slice xp xn xq], X, bx, tx⟩, ⟨gc, #[.int .i64 cf, .slice cp cn cq], c, bc, tc⟩, ⟨gd, #[.int .i64 df, .slice dp dn dq], d, bd, td⟩] w w13) := H12.out.below (BelW.out hx)
        clear hx cx0 cx1 cc0 cc1
        go_wp2
        go_meet
        exact ⟨rfl, H13.out⟩
    · skip
      go_wp2_with fail
      have Go : Hid (∀ p : BelW w12.heap.size w12, Dvs [⟨gs, #[.int .i64 sf, .slice sp sn sq], X, bs, ts⟩, ⟨gx, #[.int .i64 xf, .slice xp xn xq], X, bx, tx⟩, ⟨gc, #[.int .i64 cf, .slice cp cn cq], c, bc, tc⟩, ⟨gd, #[.int .i64 df, .slice dp dn dq], d, bd, td⟩] w p.w') := fun p => H12.out.below p.h
      have cx0 : ∀ p : BelW w12.heap.size w12, p.w'.cell? ⟨gx, 0, none⟩ = some (.int .i64 xf) := fun p => ((Go.out p).at 1 rfl).cell 0 rfl
      have cx1 : ∀ p : BelW w12.heap.size w12, p.w'.cell? ⟨gx, 1, none⟩ = some (.slice xp xn xq) := fun p => ((Go.out p).at 1 rfl).cell 1 rfl
      have cc0 : ∀ p : BelW w12.heap.size w12, p.w'.cell? ⟨gc, 0, none⟩ = some (.int .i64 cf) := fun p => ((Go.out p).at 2 rfl).cell 0 rfl
      have cc1 : ∀ p : BelW w12.heap.size w12, p.w'.cell? ⟨gc, 1, none⟩ = some (.slice cp cn cq) := fun p => ((Go.out p).at 2 rfl).cell 1 rfl
      haveI : Nonempty (BelW w12.heap.size w12) := ⟨⟨w12, Below.refl _ _⟩⟩
      have hT := HX.out.2.symm
      have eW := Dl.came_waits hT
      have eK := Dl.came_ok hT
      have eR := Dl.came_rank hT
      have eB := waiting_in c
      rw [← HX.out.1] at eW eK eR
      have W1 := fun w h0 => IW'.out X (.agg #[.int .i64 xf, .slice xp xn xq]) w Hx.out h0
      have W2 := fun w h0 => IW'.out c (.agg #[.int .i64 cf, .slice cp cn cq]) w Hc.out h0
      have W3 := fun w h0 => IK'.out X (.agg #[.int .i64 xf, .slice xp xn xq]) w Hx.out h0
      have W4 := fun w h0 => IR'.out X (.agg #[.int .i64 xf, .slice xp xn xq]) h w Hx.out h0
      rw [eW] at W1
      rw [eK] at W3
      generalize c.waiting = cw at W1 W2 eB
      generalize X.rank h = rx at W4 eR
      have W1' : Hid _ := W1
      have W2' : Hid _ := W2
      have W3' : Hid _ := W3
      have W4' : Hid _ := W4
      have hwr : IntKind.i64.wrap (cw + 1) = cw + 1 := by rw [IntKind.wrap_i64]; omega
      have hrx : decide (rx < 0) = false := decide_eq_false (by omega)
      have hrx2 : ¬ rx < 0 := by omega
      clear W1 W2 W3 W4 eW eK eR hT
      refine region_below w12.heap.size (by kernel_rfl) (by kernel_rfl) ?_
      repeat (go_big_quiet_step ((first | (go_at_call 12; with_reducible refine quiet_below (Nat.le_refl _) (W1'.out _ ((Go.out _).is 1 rfl))) | (go_at_call 12; with_reducible refine quiet_below (Nat.le_refl _) (W2'.out _ ((Go.out _).is 2 rfl))) | (go_at_call 10; with_reducible refine quiet_below (Nat.le_refl _) (W3'.out _ ((Go.out _).is 1 rfl))) | (go_at_call 14; with_reducible refine quiet_below (Nat.le_refl _) (W4'.out _ ((Go.out _).is 1 rfl))))))
      refine wpQuiet_nil ?_
      intro w13 hx
      have H13 : Hid (Dvs [⟨gs, #[.int .i64 sf, .slice sp sn sq], X, bs, ts⟩, ⟨gx, #[.int .i64 xf, .slice xp xn xq], X, bx, tx⟩, ⟨gc, #[.int .i64 cf, .slice cp cn cq], c, bc, tc⟩, ⟨gd, #[.int .i64 df, .slice dp dn dq], d, bd, td⟩] w w13) := H12.out.below (BelW.out hx)
      clear hx cx0 cx1 cc0 cc1
      go_wp2
      go_meet
      exact ⟨rfl, H13.out⟩
  case rest =>
  obtain ⟨rfl, hP⟩ := hcut.out
  have H14 : Hid (Dvs [⟨gd, #[.int .i64 df, .slice dp dn dq], d, bd, td⟩] w wc) := hP.sub fun e he => by simp only [List.mem_cons, List.not_mem_nil, or_false] at he ⊢; exact .inr (.inr (.inr he))
  clear hcut hP H12 IC' IW' IK' Hx HX Hc
  by_cases hneg : r < 0
  · go_wp2
    go_ret
    exact ⟨rfl, H14.out.bel⟩
  have N : Hid (Boxed (wc.alloc (.cells #[.int .i64 0, .slice none 0 0] 26)) wc.heap.size #[.int .i64 0, .slice none 0 0] 26) := Boxed.new _ _ _
  have H15 : Hid (Dvs [⟨wc.heap.size, #[.int .i64 df, .slice dp dn dq], d, bd, td⟩, ⟨gd, #[.int .i64 df, .slice dp dn dq], d, bd, td⟩] w ((wc.alloc (.cells #[.int .i64 0, .slice none 0 0] 26)).setRow wc.heap.size #[.int .i64 df, .slice dp dn dq])) := H14.out.store _ (H14.out.mem 0 rfl) (H14.out.top 0 rfl)
  go_wp2_with (first | (refine wpList_store_row rfl 26 (.tmp _) (.tmp _) rfl wc.heap.size #[.int .i64 df, .slice dp dn dq] rfl rfl _ _ N.out (by kernel_rfl) rfl (by simp [Value.oneCell']) ?_) | (refine wpList_load_row rfl 26 (.tmp _) rfl gd rfl _ _ _ _ (H14.out.at 0 rfl) Try.underlying26 rfl (by kernel_rfl) ?_))
  have H16 : Hid (∃ (Y : Dl) (yf : Int) (yp : Option Addr) (yn yq yb yt : Nat), Dvs [⟨wc.heap.size, #[.int .i64 yf, .slice yp yn yq], Y, yb, yt⟩] w ((wc.alloc (.cells #[.int .i64 0, .slice none 0 0] 26)).setRow wc.heap.size #[.int .i64 df, .slice dp dn dq]) ∧ (Y.rank host = r - (0 : Nat) ∧ Y.big ≤ 1048576 ∧ (yt ≤ wc.heap.size ∨ wc.heap.size < yb)) ∧ w.heap.size ≤ wc.heap.size) := ⟨d, _, _, _, _, _, _, H15.out.sub (fun e he => by simp only [List.mem_cons, List.not_mem_nil, or_false] at he ⊢; exact .inl he), ⟨by rw [← Hr.out]; simp, Hd.out, .inl (H14.out.top 0 rfl)⟩, H14.out.bel.size⟩
  clear N H15 H14 Hdt Hr Hd
  generalize (wc.alloc (.cells #[.int .i64 0, .slice none 0 0] 26)).setRow wc.heap.size #[.int .i64 df, .slice dp dn dq] = w15 at H16 ⊢
  generalize wc.heap.size = gy at H16 ⊢
  obtain ⟨rr, hrr⟩ := Int.eq_ofNat_of_zero_le (show 0 ≤ r by omega)
  subst hrr
  have hr8 : rr ≤ 8 := by have := Hrb.out; omega
  go_loopw [14, 15, 16, 17] (fun s _ _ _ wr => ∃ k : Nat, k ≤ rr ∧ s = .int .i64 k ∧ Hid (∃ (Y : Dl) (yf : Int) (yp : Option Addr) (yn yq yb yt : Nat), Dvs [⟨gy, #[.int .i64 yf, .slice yp yn yq], Y, yb, yt⟩] w wr ∧ (Y.rank host = (rr : Int) - (k : Nat) ∧ Y.big ≤ 1048576 ∧ (yt ≤ gy ∨ gy < yb)) ∧ w.heap.size ≤ gy)) (fun s _ _ _ _ => rr - (intOf s).toNat)
  case atStart => exact ⟨0, Nat.zero_le _, rfl, H16.out⟩
  case round =>
    obtain ⟨k, hk, rfl, HE⟩ := hrel
    clear H16
    obtain ⟨Y, yf, yp, yn, yq, yb, yt, HY⟩ : ∃ (Y : Dl) (yf : Int) (yp : Option Addr) (yn yq yb yt : Nat), Hid (Dvs [⟨gy, #[.int .i64 yf, .slice yp yn yq], Y, yb, yt⟩] w wr ∧ (Y.rank host = (rr : Int) - (k : Nat) ∧ Y.big ≤ 1048576 ∧ (yt ≤ gy ∨ gy < yb)) ∧ w.heap.size ≤ gy) := HE.out
    clear HE
    have nx := Dl.rank_next (d := Y) (host := host) (by rw [HY.out.2.1.1]; omega)
    rw [HY.out.2.1.1] at nx
    have G1 := fun w h0 => IG'.out Y (.agg #[.int .i64 yf, .slice yp yn yq]) w HY.out.2.1.2.1 h0
    have Hbw : Hid (Y.went.big ≤ 1048576) := big_went HY.out.2.1.2.1
    obtain ⟨Y2, hY2⟩ : ∃ z, z = Y.went := ⟨_, rfl⟩
    rw [← hY2] at G1 nx Hbw
    clear hY2
    generalize Y.wentH = kh at G1 nx
    generalize Y.wentF = kf at G1
    have G1' : Hid _ := G1
    clear G1
    by_cases hlt : k < rr
    · have hlt' : (k : Int) < (rr : Int) := by omega
      have n0 : ¬ kh < 0 := by have := nx.1; omega
      have n1 : (kh == host) = false := by have := (nx.2.2 (by omega)).1; rw [beq_eq_false_iff_ne]; exact this
      have Hn2 : Hid (Y2.rank host = (rr : Int) - ((k + 1 : Nat) : Int)) := by have := (nx.2.2 (by omega)).2; show Y2.rank host = _; omega
      clear nx
      go_wp2_with (refine wpList_load_row rfl 26 (.tmp _) rfl gy rfl _ _ _ _ (HY.out.1.at 0 rfl) Try.underlying26 rfl (by kernel_rfl) ?_)
      refine (G1'.out _ (HY.out.1.is 0 rfl)).mono ?_
      rintro e w16 ⟨⟨v, rfl, iZ⟩, q⟩
      obtain ⟨zp, zq, rfl⟩ := iZ.cells'
      have H17 : Hid (Dvs [⟨gy, #[.int .i64 yf, .slice yp yn yq], Y, yb, yt⟩] w w16 ∧ DlIn wr.heap.size w16.heap.size w16 (.agg #[.int .i64 Y2.turn, .slice zp Y2.hosts.length zq]) Y2 ∧ gy < wr.heap.size ∧ w.heap.size ≤ gy) := ⟨HY.out.1.below q, iZ, (HY.out.1.at 0 rfl).under, HY.out.2.2⟩
      clear q iZ G1' HY
      generalize Y2.turn = zf at H17 ⊢
      generalize Y2.hosts.length = zn at H17 ⊢
      have N : Hid (Boxed (w16.alloc (.cells #[.int .i64 0, .slice none 0 0] 26)) w16.heap.size #[.int .i64 0, .slice none 0 0] 26) := Boxed.new _ _ _
      have H18 : Hid (Dvs [⟨w16.heap.size, #[.int .i64 zf, .slice zp zn zq], Y2, wr.heap.size, w16.heap.size⟩, ⟨gy, #[.int .i64 yf, .slice yp yn yq], Y, yb, yt⟩] w ((w16.alloc (.cells #[.int .i64 0, .slice none 0 0] 26)).setRow w16.heap.size #[.int .i64 zf, .slice zp zn zq])) := H17.out.1.store _ H17.out.2.1 (Nat.le_refl _)
      have H19 : Hid (Dvs [⟨gy, #[.int .i64 zf, .slice zp zn zq], Y2, wr.heap.size, w16.heap.size⟩] w (((w16.alloc (.cells #[.int .i64 0, .slice none 0 0] 26)).setRow w16.heap.size #[.int .i64 zf, .slice zp zn zq]).setRow gy #[.int .i64 zf, .slice zp zn zq])) := (H18.out.sub (M := [⟨gy, #[.int .i64 yf, .slice yp yn yq], Y, yb, yt⟩]) (fun e he => by simp only [List.mem_cons, List.not_mem_nil, or_false] at he ⊢; exact .inr he)).put H17.out.2.2.2 (fun e he => by cases he) (H18.out.mem 0 rfl) (.inr H17.out.2.2.1) (H18.out.top 0 rfl)
      have Hgy : Hid (gy < wr.heap.size ∧ w.heap.size ≤ gy) := H17.out.2.2
      clear H17
      go_wp2_with (first | (refine wpList_store_row rfl 26 (.tmp _) (.tmp _) rfl w16.heap.size #[.int .i64 zf, .slice zp zn zq] rfl rfl _ _ N.out (by kernel_rfl) rfl (by simp [Value.oneCell']) ?_) | (refine wpList_load_row rfl 26 (.tmp _) rfl w16.heap.size rfl _ _ _ _ (H18.out.at 0 rfl) Try.underlying26 rfl (by kernel_rfl) ?_) | (refine wpList_store_row rfl 26 (.tmp _) (.tmp _) rfl gy #[.int .i64 zf, .slice zp zn zq] rfl rfl _ _ (H18.out.at 1 rfl) (by kernel_rfl) rfl (by simp [Value.oneCell']) ?_))
      go_roundw
      case rel => exact ⟨k + 1, by omega, by go_num, Y2, _, _, _, _, _, _, H19.out, ⟨Hn2.out, Hbw.out, .inr Hgy.out.1⟩, Hgy.out.2⟩
      case measure => simp [intOf]; omega
    · have e : rr = k := by omega
      subst e
      have n1 : kh = host := nx.2.1 (by omega)
      subst n1
      clear nx
      go_wp2_with (refine wpList_load_row rfl 26 (.tmp _) rfl gy rfl _ _ _ _ (HY.out.1.at 0 rfl) Try.underlying26 rfl (by kernel_rfl) ?_)
      refine (G1'.out _ (HY.out.1.is 0 rfl)).mono ?_
      rintro e w16 ⟨⟨v, rfl, iZ⟩, q⟩
      obtain ⟨zp, zq, rfl⟩ := iZ.cells'
      have H17 : Hid (Dvs [] w w16 ∧ DlIn wr.heap.size w16.heap.size w16 (.agg #[.int .i64 Y2.turn, .slice zp Y2.hosts.length zq]) Y2) := ⟨(HY.out.1.below q).sub (fun e he => by cases he), iZ⟩
      clear q iZ G1' HY
      generalize Y2.turn = zf at H17 ⊢
      generalize Y2.hosts.length = zn at H17 ⊢
      have N : Hid (Boxed (w16.alloc (.cells #[.int .i64 0, .slice none 0 0] 26)) w16.heap.size #[.int .i64 0, .slice none 0 0] 26) := Boxed.new _ _ _
      have H18 : Hid (Dvs [⟨w16.heap.size, #[.int .i64 zf, .slice zp zn zq], Y2, wr.heap.size, w16.heap.size⟩] w ((w16.alloc (.cells #[.int .i64 0, .slice none 0 0] 26)).setRow w16.heap.size #[.int .i64 zf, .slice zp zn zq])) := H17.out.1.store _ H17.out.2 (Nat.le_refl _)
      go_wp2_with (refine wpList_store_row rfl 26 (.tmp _) (.tmp _) rfl w16.heap.size #[.int .i64 zf, .slice zp zn zq] rfl rfl _ _ N.out (by kernel_rfl) rfl (by simp [Value.oneCell']) ?_)
      go_ret
      exact ⟨rfl, H18.out.bel⟩
end Go.Proofs.Ytojmghnbekneiaa
