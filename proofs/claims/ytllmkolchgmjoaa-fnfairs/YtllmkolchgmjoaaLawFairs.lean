/-
  The walk of FnFairs, the program's contracts given. By the verifier, by program.
-/
import Derived.Test.YtllmkolchgmjoaaFsDrawQ
import Derived.Test.YtllmkolchgmjoaaM9FsDrawC
import Derived.Test.YtllmkolchgmjoaaFsQueuedS
import Derived.Test.YtllmkolchgmjoaaM3FsSpecB
import Derived.Test.YtllmkolchgmjoaaFsSpecC
import Derived.Test.YtllmkolchgmjoaaM6FsFacts
import Derived.Test.YtllmkolchgmjoaaFsVs
import Derived.Test.YtllmkolchgmjoaaM10LikeFs
import Derived.Test.YtllmkolchgmjoaaIntEmp
import Derived.Test.YtllmkolchgmjoaaRegList
import Derived.Test.YtllmkolchgmjoaaRegGuard
import Derived.Test.YtllmkolchgmjoaaQuiet
import Derived.BigQuiet
namespace Go.Proofs.Ytllmkolchgmjoaa
open Go.RowKit

/-- The cells of a flow of flows that a variable holds. -/
theorem fs_flow {x : World} {f : Int} {p : Option Addr} {n q : Nat} {D : Fs} (h : FsAt x (.agg #[.int .i64 f, .slice p n q]) D) {i : Nat} (hi : i < D.flows.length) : ∃ b off ak ck, p = some ⟨b, off, none⟩ ∧ b < x.heap.size ∧ x.cell? ⟨b, off + i * 3 + 1, none⟩ = some (.int .i64 (fwAt D.flows i).finish) ∧ x.cell? ⟨b, off + i * 3 + 2, none⟩ = some (.slice ak (fwAt D.flows i).sizes.length ck) ∧ IntsAt x ak (fwAt D.flows i).sizes ∧ (ak = none → ck = 0) := by
  obtain ⟨a, c', e, hz⟩ := h
  have e2 : p = a := by
    unfold Fs.val at e
    simp only [Value.agg.injEq] at e
    have := congrArg (fun z => z.toList) e
    simp at this
    exact this.2.1
  subst e2
  obtain ⟨g, off, ak, ck, ea, hg, ⟨_, c1, c2⟩, hr, _, hn⟩ := hz i hi
  exact ⟨g, off, ak, ck, ea, hg, c1, c2, hr, hn⟩
theorem fs_zero (x : World) : FsAt x (.agg #[.int .i64 0, .slice none 0 0]) ⟨0, []⟩ := ⟨none, 0, rfl, FwsAt.nil _ _⟩

set_option maxHeartbeats 12800000 in
set_option maxRecDepth 100000 in
theorem fnFairs_law
    (IK : ∀ (r : Fs) (v : Value) (w : World), r.big ≤ 1048576 → Hid (FsAt w v r) → Calls Try.prog 12 #[v] w fun e w' => e = .returned (.bool r.ok) ∧ Below w.heap.size w w')
    (IB : ∀ (r : Fs) (v : Value) (flow : Int) (w : World), r.big ≤ 1048576 → Hid (FsAt w v r) → Calls Try.prog 20 #[v, .int .i64 flow] w fun e w' => e = .returned (.int .i64 (r.begins flow)) ∧ Below w.heap.size w w')
    (IQ : ∀ (r : Fs) (v : Value) (flow : Int) (size : Int) (w : World), r.big ≤ 1048576 → Hid (FsAt w v r) → Calls Try.prog 18 #[v, .int .i64 flow, .int .i64 size] w fun e w' => (∃ v', e = .returned (.tuple #[v', .bool (r.queuedB flow size)]) ∧ FsIn w.heap.size w'.heap.size w' v' (r.queued flow size)) ∧ Below w.heap.size w w')
    (IC : ∀ (r : Fs) (v : Value) (w : World), r.big ≤ 1048576 → Hid (FsAt w v r) → Calls Try.prog 14 #[v] w fun e w' => e = .returned (.int .i64 r.chosen) ∧ Below w.heap.size w w')
    (IS : ∀ (r : Fs) (v : Value) (w : World), r.big ≤ 1048576 → Hid (FsAt w v r) → Calls Try.prog 9 #[v] w fun e w' => (∃ v', e = .returned (.tuple #[v', .int .i64 r.servedI, .int .i64 r.servedN]) ∧ FsIn w.heap.size w'.heap.size w' v' r.served) ∧ Below w.heap.size w w')
    (a : Option Addr) (len cap : Nat) (w : World)
    (hcode : ∀ k, k < len → ∃ b off z, a = some ⟨b, off, none⟩ ∧ b < w.heap.size ∧ w.cell? ⟨b, off + k, none⟩ = some (.int .u8 z) ∧ 0 ≤ z ∧ z ≤ 255) :
    Calls Try.prog 4 #[.slice a len cap] w fun e w' => e = .returned (.bool true) ∧ Below w.heap.size w w' := by
  by_cases hbig : 4096 < len
  · clear hcode
    go_enter Try.func4, Try.ntmps4
    go_wp2
    go_ret
    exact ⟨rfl, Below.refl _ _⟩
  have hc : Hid (Code w a len) := ⟨by omega, hcode⟩
  have hb : Hid (Below w.heap.size w w) := Below.refl _ _
  have IK' : Hid _ := IK
  have IB' : Hid _ := IB
  have IQ' : Hid _ := IQ
  have IC' : Hid _ := IC
  have IS' : Hid _ := IS
  clear hcode IK IB IQ IC IS
  go_enter Try.func4, Try.ntmps4
  go_wp2_with (go_at_call 7; go_in)
  refine (dDrawQueued hc _ hb).mono ?_
  rintro e w1 ⟨⟨v, d, flow, size, rfl, iD, hD, -, -⟩, q⟩
  obtain ⟨dp, dq, rfl⟩ := iD.cells'
  have H1 : Hid (Fvs [] w w1 ∧ FsIn w.heap.size w1.heap.size w1 (.agg #[.int .i64 d.now, .slice dp d.flows.length dq]) d) := ⟨⟨q, fun _ h => by cases h⟩, iD⟩
  have Hbd : Hid (d.big ≤ 1048576) := by show d.big ≤ 1048576; omega
  obtain ⟨df, hdf⟩ : ∃ z, z = d.now := ⟨_, rfl⟩
  obtain ⟨dn, hdn⟩ : ∃ z, z = d.flows.length := ⟨_, rfl⟩
  have Hld : Hid (df = d.now ∧ dn = d.flows.length) := ⟨hdf, hdn⟩
  rw [← hdf, ← hdn] at H1 ⊢
  clear hdf hdn iD hD hb q
  have N : Hid (Boxed (w1.alloc (.cells #[.int .i64 0, .slice none 0 0] 26)) w1.heap.size #[.int .i64 0, .slice none 0 0] 26) := Boxed.new _ _ _
  have H2 : Hid (Fvs [⟨w1.heap.size, #[.int .i64 df, .slice dp dn dq], d, w.heap.size, w1.heap.size⟩] w ((w1.alloc (.cells #[.int .i64 0, .slice none 0 0] 26)).setRow w1.heap.size #[.int .i64 df, .slice dp dn dq])) := H1.out.1.store _ H1.out.2 (Nat.le_refl _)
  go_wp2_with (first | (refine wpList_store_row rfl 26 (.tmp _) (.tmp _) rfl w1.heap.size #[.int .i64 df, .slice dp dn dq] rfl rfl _ _ N.out (by kernel_rfl) rfl (by simp [Value.oneCell']) ?_) | (refine wpList_load_row rfl 26 (.tmp _) rfl w1.heap.size rfl _ _ _ _ (H2.out.at 0 rfl) Try.underlying26 rfl (by kernel_rfl) ?_))
  generalize (w1.alloc (.cells #[.int .i64 0, .slice none 0 0] 26)).setRow w1.heap.size #[.int .i64 df, .slice dp dn dq] = w2 at H2 ⊢
  obtain ⟨td, htd⟩ : ∃ t, t = w1.heap.size := ⟨_, rfl⟩
  have H2' : Hid (Fvs [⟨w1.heap.size, #[.int .i64 df, .slice dp dn dq], d, w.heap.size, td⟩] w w2 ∧ td ≤ w1.heap.size) := ⟨by rw [htd]; exact H2.out, by rw [htd]; exact Nat.le_refl _⟩
  clear N H1 H2 htd
  generalize w1.heap.size = gd at H2' ⊢
  obtain ⟨bd, hbd⟩ : ∃ b, b = w.heap.size := ⟨_, rfl⟩
  have H2 : Hid (Fvs [⟨gd, #[.int .i64 df, .slice dp dn dq], d, bd, td⟩] w w2 ∧ td ≤ gd) := by rw [hbd]; exact H2'.out
  clear H2' hbd
  obtain ⟨X, hX⟩ : ∃ X, X = d.queued flow size := ⟨_, rfl⟩
  obtain ⟨is, his⟩ : ∃ X, X = d.queuedB flow size := ⟨_, rfl⟩
  have C1 := fun w h0 => IQ'.out d (.agg #[.int .i64 df, .slice dp dn dq]) flow size w Hbd.out h0
  have C3 := fun w h0 => specQueued d (.agg #[.int .i64 df, .slice dp dn dq]) flow size w Hbd.out h0
  rw [← hX, ← his] at C1 C3
  have HX : Hid (X = d.queued flow size ∧ is = d.queuedB flow size) := ⟨hX, his⟩
  have Hx : Hid (X.big ≤ 1048576) := by rw [hX]; exact big_queued Hbd.out
  have C1' : Hid _ := C1
  have C3' : Hid _ := C3
  clear hX his C1 C3
  refine (C1'.out _ (H2.out.1.is 0 rfl)).mono ?_
  rintro e w3 ⟨⟨v, rfl, iX⟩, q⟩
  obtain ⟨xp, xq, rfl⟩ := iX.cells'
  have H3 : Hid (Fvs [⟨gd, #[.int .i64 df, .slice dp dn dq], d, bd, td⟩] w w3 ∧ FsIn w2.heap.size w3.heap.size w3 (.agg #[.int .i64 X.now, .slice xp X.flows.length xq]) X) := ⟨H2.out.1.below q, iX⟩
  obtain ⟨xf, hxf⟩ : ∃ z, z = X.now := ⟨_, rfl⟩
  obtain ⟨xn, hxn⟩ : ∃ z, z = X.flows.length := ⟨_, rfl⟩
  have Hxx : Hid (xf = X.now ∧ xn = X.flows.length) := ⟨hxf, hxn⟩
  rw [← hxf, ← hxn] at H3 ⊢
  clear q iX H2 C1' hxf hxn
  have N : Hid (Boxed (w3.alloc (.cells #[.int .i64 0, .slice none 0 0] 26)) w3.heap.size #[.int .i64 0, .slice none 0 0] 26) := Boxed.new _ _ _
  have H4 : Hid (Fvs [⟨w3.heap.size, #[.int .i64 xf, .slice xp xn xq], X, w2.heap.size, w3.heap.size⟩, ⟨gd, #[.int .i64 df, .slice dp dn dq], d, bd, td⟩] w ((w3.alloc (.cells #[.int .i64 0, .slice none 0 0] 26)).setRow w3.heap.size #[.int .i64 xf, .slice xp xn xq])) := H3.out.1.store _ H3.out.2 (Nat.le_refl _)
  go_wp2_with (first | (refine wpList_store_row rfl 26 (.tmp _) (.tmp _) rfl w3.heap.size #[.int .i64 xf, .slice xp xn xq] rfl rfl _ _ N.out (by kernel_rfl) rfl (by simp [Value.oneCell']) ?_) | (refine wpList_load_row rfl 26 (.tmp _) rfl w3.heap.size rfl _ _ _ _ (H4.out.at 0 rfl) Try.underlying26 rfl (by kernel_rfl) ?_) | (refine wpList_load_row rfl 26 (.tmp _) rfl gd rfl _ _ _ _ (H4.out.at 1 rfl) Try.underlying26 rfl (by kernel_rfl) ?_))
  generalize (w3.alloc (.cells #[.int .i64 0, .slice none 0 0] 26)).setRow w3.heap.size #[.int .i64 xf, .slice xp xn xq] = w4 at H4 ⊢
  obtain ⟨tx, htx⟩ : ∃ t, t = w3.heap.size := ⟨_, rfl⟩
  have H4' : Hid (Fvs [⟨w3.heap.size, #[.int .i64 xf, .slice xp xn xq], X, w2.heap.size, tx⟩, ⟨gd, #[.int .i64 df, .slice dp dn dq], d, bd, td⟩] w w4 ∧ tx ≤ w3.heap.size) := ⟨by rw [htx]; exact H4.out, by rw [htx]; exact Nat.le_refl _⟩
  clear N H3 H4 htx
  generalize w3.heap.size = gx at H4' ⊢
  generalize w2.heap.size = bx at H4'
  have H4 : Hid (Fvs [⟨gx, #[.int .i64 xf, .slice xp xn xq], X, bx, tx⟩, ⟨gd, #[.int .i64 df, .slice dp dn dq], d, bd, td⟩] w w4 ∧ tx ≤ gx) := H4'.out
  clear H4'
  have b4 : Hid (Below w.heap.size w w4) := H4.out.1.bel
  refine (dDrawBegins hc _ b4).mono ?_
  rintro e w5 ⟨⟨v, G, kg, rfl, iH, hH, -, -⟩, q⟩
  obtain ⟨hp, hq, rfl⟩ := iH.cells'
  have H5 : Hid (Fvs [⟨gx, #[.int .i64 xf, .slice xp xn xq], X, bx, tx⟩, ⟨gd, #[.int .i64 df, .slice dp dn dq], d, bd, td⟩] w w5 ∧ FsIn w4.heap.size w5.heap.size w5 (.agg #[.int .i64 G.now, .slice hp G.flows.length hq]) G) := ⟨H4.out.1.below q, iH⟩
  have Hbh : Hid (G.big ≤ 1048576) := by show G.big ≤ 1048576; omega
  obtain ⟨hf, hhf⟩ : ∃ z, z = G.now := ⟨_, rfl⟩
  obtain ⟨hn, hhn⟩ : ∃ z, z = G.flows.length := ⟨_, rfl⟩
  have Hlh : Hid (hf = G.now ∧ hn = G.flows.length) := ⟨hhf, hhn⟩
  rw [← hhf, ← hhn] at H5 ⊢
  clear hhf hhn iH hH q H4 b4
  have N : Hid (Boxed (w5.alloc (.cells #[.int .i64 0, .slice none 0 0] 26)) w5.heap.size #[.int .i64 0, .slice none 0 0] 26) := Boxed.new _ _ _
  have H6 : Hid (Fvs [⟨w5.heap.size, #[.int .i64 hf, .slice hp hn hq], G, w4.heap.size, w5.heap.size⟩, ⟨gx, #[.int .i64 xf, .slice xp xn xq], X, bx, tx⟩, ⟨gd, #[.int .i64 df, .slice dp dn dq], d, bd, td⟩] w ((w5.alloc (.cells #[.int .i64 0, .slice none 0 0] 26)).setRow w5.heap.size #[.int .i64 hf, .slice hp hn hq])) := H5.out.1.store _ H5.out.2 (Nat.le_refl _)
  go_wp2_with (first | (refine wpList_store_row rfl 26 (.tmp _) (.tmp _) rfl w5.heap.size #[.int .i64 hf, .slice hp hn hq] rfl rfl _ _ N.out (by kernel_rfl) rfl (by simp [Value.oneCell']) ?_) | (refine wpList_load_row rfl 26 (.tmp _) rfl w5.heap.size rfl _ _ _ _ (H6.out.at 0 rfl) Try.underlying26 rfl (by kernel_rfl) ?_) | (refine wpList_load_row rfl 26 (.tmp _) rfl gx rfl _ _ _ _ (H6.out.at 1 rfl) Try.underlying26 rfl (by kernel_rfl) ?_) | (refine wpList_load_row rfl 26 (.tmp _) rfl gd rfl _ _ _ _ (H6.out.at 2 rfl) Try.underlying26 rfl (by kernel_rfl) ?_))
  generalize (w5.alloc (.cells #[.int .i64 0, .slice none 0 0] 26)).setRow w5.heap.size #[.int .i64 hf, .slice hp hn hq] = w6 at H6 ⊢
  obtain ⟨th, hth⟩ : ∃ t, t = w5.heap.size := ⟨_, rfl⟩
  have H6' : Hid (Fvs [⟨w5.heap.size, #[.int .i64 hf, .slice hp hn hq], G, w4.heap.size, th⟩, ⟨gx, #[.int .i64 xf, .slice xp xn xq], X, bx, tx⟩, ⟨gd, #[.int .i64 df, .slice dp dn dq], d, bd, td⟩] w w6 ∧ th ≤ w5.heap.size) := ⟨by rw [hth]; exact H6.out, by rw [hth]; exact Nat.le_refl _⟩
  clear N H5 H6 hth
  generalize w5.heap.size = gh at H6' ⊢
  generalize w4.heap.size = bh at H6'
  have H6 : Hid (Fvs [⟨gh, #[.int .i64 hf, .slice hp hn hq], G, bh, th⟩, ⟨gx, #[.int .i64 xf, .slice xp xn xq], X, bx, tx⟩, ⟨gd, #[.int .i64 df, .slice dp dn dq], d, bd, td⟩] w w6 ∧ th ≤ gh) := H6'.out
  clear H6'
  obtain ⟨bg, hbg⟩ : ∃ z, z = G.begins kg := ⟨_, rfl⟩
  have C1 := fun w h0 => IB'.out G (.agg #[.int .i64 hf, .slice hp hn hq]) kg w Hbh.out h0
  have B2 := fun w h0 => specBegins G (.agg #[.int .i64 hf, .slice hp hn hq]) kg w Hbh.out h0
  rw [← hbg] at C1 B2
  have C1' : Hid _ := C1
  have B2' : Hid _ := B2
  clear hbg C1 B2
  refine (C1'.out _ (H6.out.1.is 0 rfl)).mono ?_
  rintro e w7 ⟨rfl, q⟩
  have H7 : Hid (Fvs [⟨gh, #[.int .i64 hf, .slice hp hn hq], G, bh, th⟩, ⟨gx, #[.int .i64 xf, .slice xp xn xq], X, bx, tx⟩, ⟨gd, #[.int .i64 df, .slice dp dn dq], d, bd, td⟩] w w7) := H6.out.1.below q
  have b7 : Hid (Below w.heap.size w w7) := H7.out.bel
  clear q H6 C1'
  go_wp2_with fail
  refine (dDrawChosen hc _ b7).mono ?_
  rintro e w8 ⟨⟨v, c, rfl, iC, hC⟩, q⟩
  obtain ⟨cp, cq, rfl⟩ := iC.cells'
  have H8 : Hid (Fvs [⟨gh, #[.int .i64 hf, .slice hp hn hq], G, bh, th⟩, ⟨gx, #[.int .i64 xf, .slice xp xn xq], X, bx, tx⟩, ⟨gd, #[.int .i64 df, .slice dp dn dq], d, bd, td⟩] w w8 ∧ FsIn w7.heap.size w8.heap.size w8 (.agg #[.int .i64 c.now, .slice cp c.flows.length cq]) c) := ⟨H7.out.below q, iC⟩
  have Hbc : Hid (c.big ≤ 1048576) := by show c.big ≤ 1048576; omega
  obtain ⟨cf, hcf⟩ : ∃ z, z = c.now := ⟨_, rfl⟩
  obtain ⟨cn, hcn⟩ : ∃ z, z = c.flows.length := ⟨_, rfl⟩
  have Hlc : Hid (cf = c.now ∧ cn = c.flows.length) := ⟨hcf, hcn⟩
  rw [← hcf, ← hcn] at H8 ⊢
  clear hcf hcn iC hC q H7 b7
  have N : Hid (Boxed (w8.alloc (.cells #[.int .i64 0, .slice none 0 0] 26)) w8.heap.size #[.int .i64 0, .slice none 0 0] 26) := Boxed.new _ _ _
  have H9 : Hid (Fvs [⟨w8.heap.size, #[.int .i64 cf, .slice cp cn cq], c, w7.heap.size, w8.heap.size⟩, ⟨gh, #[.int .i64 hf, .slice hp hn hq], G, bh, th⟩, ⟨gx, #[.int .i64 xf, .slice xp xn xq], X, bx, tx⟩, ⟨gd, #[.int .i64 df, .slice dp dn dq], d, bd, td⟩] w ((w8.alloc (.cells #[.int .i64 0, .slice none 0 0] 26)).setRow w8.heap.size #[.int .i64 cf, .slice cp cn cq])) := H8.out.1.store _ H8.out.2 (Nat.le_refl _)
  go_wp2_with (first | (refine wpList_store_row rfl 26 (.tmp _) (.tmp _) rfl w8.heap.size #[.int .i64 cf, .slice cp cn cq] rfl rfl _ _ N.out (by kernel_rfl) rfl (by simp [Value.oneCell']) ?_) | (refine wpList_load_row rfl 26 (.tmp _) rfl w8.heap.size rfl _ _ _ _ (H9.out.at 0 rfl) Try.underlying26 rfl (by kernel_rfl) ?_) | (refine wpList_load_row rfl 26 (.tmp _) rfl gh rfl _ _ _ _ (H9.out.at 1 rfl) Try.underlying26 rfl (by kernel_rfl) ?_) | (refine wpList_load_row rfl 26 (.tmp _) rfl gx rfl _ _ _ _ (H9.out.at 2 rfl) Try.underlying26 rfl (by kernel_rfl) ?_) | (refine wpList_load_row rfl 26 (.tmp _) rfl gd rfl _ _ _ _ (H9.out.at 3 rfl) Try.underlying26 rfl (by kernel_rfl) ?_))
  generalize (w8.alloc (.cells #[.int .i64 0, .slice none 0 0] 26)).setRow w8.heap.size #[.int .i64 cf, .slice cp cn cq] = w9 at H9 ⊢
  obtain ⟨tc, htc⟩ : ∃ t, t = w8.heap.size := ⟨_, rfl⟩
  have H9' : Hid (Fvs [⟨w8.heap.size, #[.int .i64 cf, .slice cp cn cq], c, w7.heap.size, tc⟩, ⟨gh, #[.int .i64 hf, .slice hp hn hq], G, bh, th⟩, ⟨gx, #[.int .i64 xf, .slice xp xn xq], X, bx, tx⟩, ⟨gd, #[.int .i64 df, .slice dp dn dq], d, bd, td⟩] w w9 ∧ tc ≤ w8.heap.size) := ⟨by rw [htc]; exact H9.out, by rw [htc]; exact Nat.le_refl _⟩
  clear N H8 H9 htc
  generalize w8.heap.size = gc at H9' ⊢
  generalize w7.heap.size = bc at H9'
  have H9 : Hid (Fvs [⟨gc, #[.int .i64 cf, .slice cp cn cq], c, bc, tc⟩, ⟨gh, #[.int .i64 hf, .slice hp hn hq], G, bh, th⟩, ⟨gx, #[.int .i64 xf, .slice xp xn xq], X, bx, tx⟩, ⟨gd, #[.int .i64 df, .slice dp dn dq], d, bd, td⟩] w w9 ∧ tc ≤ gc) := H9'.out
  clear H9'
  refine (C3'.out _ (H9.out.1.is 3 rfl)).mono ?_
  rintro e w10 ⟨⟨v, rfl, iX⟩, q⟩
  obtain ⟨sp, sq, rfl⟩ := iX.cells'
  have H10 : Hid (Fvs [⟨gc, #[.int .i64 cf, .slice cp cn cq], c, bc, tc⟩, ⟨gh, #[.int .i64 hf, .slice hp hn hq], G, bh, th⟩, ⟨gx, #[.int .i64 xf, .slice xp xn xq], X, bx, tx⟩, ⟨gd, #[.int .i64 df, .slice dp dn dq], d, bd, td⟩] w w10 ∧ FsIn w9.heap.size w10.heap.size w10 (.agg #[.int .i64 X.now, .slice sp X.flows.length sq]) X) := ⟨H9.out.1.below q, iX⟩
  rw [← Hxx.out.1, ← Hxx.out.2] at H10 ⊢
  obtain ⟨sf, hyf⟩ : ∃ z, z = xf := ⟨_, rfl⟩
  obtain ⟨sn, hyn⟩ : ∃ z, z = xn := ⟨_, rfl⟩
  have ey : (Value.agg #[.int .i64 xf, .slice sp xn sq]) = .agg #[.int .i64 sf, .slice sp sn sq] := by rw [hyf, hyn]
  rw [ey] at H10 ⊢
  clear q iX H9 C3' hyf hyn ey
  have N : Hid (Boxed (w10.alloc (.cells #[.int .i64 0, .slice none 0 0] 26)) w10.heap.size #[.int .i64 0, .slice none 0 0] 26) := Boxed.new _ _ _
  have H11 : Hid (Fvs [⟨w10.heap.size, #[.int .i64 sf, .slice sp sn sq], X, w9.heap.size, w10.heap.size⟩, ⟨gc, #[.int .i64 cf, .slice cp cn cq], c, bc, tc⟩, ⟨gh, #[.int .i64 hf, .slice hp hn hq], G, bh, th⟩, ⟨gx, #[.int .i64 xf, .slice xp xn xq], X, bx, tx⟩, ⟨gd, #[.int .i64 df, .slice dp dn dq], d, bd, td⟩] w ((w10.alloc (.cells #[.int .i64 0, .slice none 0 0] 26)).setRow w10.heap.size #[.int .i64 sf, .slice sp sn sq])) := H10.out.1.store _ H10.out.2 (Nat.le_refl _)
  go_upto_region 9 with (first | (refine wpList_store_row rfl 26 (.tmp _) (.tmp _) rfl w10.heap.size #[.int .i64 sf, .slice sp sn sq] rfl rfl _ _ N.out (by kernel_rfl) rfl (by simp [Value.oneCell']) ?_) | (refine wpList_load_row rfl 26 (.tmp _) rfl w10.heap.size rfl _ _ _ _ (H11.out.at 0 rfl) Try.underlying26 rfl (by kernel_rfl) ?_) | (refine wpList_load_row rfl 26 (.tmp _) rfl gc rfl _ _ _ _ (H11.out.at 1 rfl) Try.underlying26 rfl (by kernel_rfl) ?_) | (refine wpList_load_row rfl 26 (.tmp _) rfl gh rfl _ _ _ _ (H11.out.at 2 rfl) Try.underlying26 rfl (by kernel_rfl) ?_) | (refine wpList_load_row rfl 26 (.tmp _) rfl gx rfl _ _ _ _ (H11.out.at 3 rfl) Try.underlying26 rfl (by kernel_rfl) ?_) | (refine wpList_load_row rfl 26 (.tmp _) rfl gd rfl _ _ _ _ (H11.out.at 4 rfl) Try.underlying26 rfl (by kernel_rfl) ?_))
  generalize (w10.alloc (.cells #[.int .i64 0, .slice none 0 0] 26)).setRow w10.heap.size #[.int .i64 sf, .slice sp sn sq] = w11 at H11 ⊢
  obtain ⟨ts, hts⟩ : ∃ t, t = w10.heap.size := ⟨_, rfl⟩
  have H11' : Hid (Fvs [⟨w10.heap.size, #[.int .i64 sf, .slice sp sn sq], X, w9.heap.size, ts⟩, ⟨gc, #[.int .i64 cf, .slice cp cn cq], c, bc, tc⟩, ⟨gh, #[.int .i64 hf, .slice hp hn hq], G, bh, th⟩, ⟨gx, #[.int .i64 xf, .slice xp xn xq], X, bx, tx⟩, ⟨gd, #[.int .i64 df, .slice dp dn dq], d, bd, td⟩] w w11 ∧ ts ≤ w10.heap.size) := ⟨by rw [hts]; exact H11.out, by rw [hts]; exact Nat.le_refl _⟩
  clear N H10 H11 hts
  generalize w10.heap.size = gs at H11' ⊢
  generalize w9.heap.size = bs at H11'
  have H11 : Hid (Fvs [⟨gs, #[.int .i64 sf, .slice sp sn sq], X, bs, ts⟩, ⟨gc, #[.int .i64 cf, .slice cp cn cq], c, bc, tc⟩, ⟨gh, #[.int .i64 hf, .slice hp hn hq], G, bh, th⟩, ⟨gx, #[.int .i64 xf, .slice xp xn xq], X, bx, tx⟩, ⟨gd, #[.int .i64 df, .slice dp dn dq], d, bd, td⟩] w w11 ∧ ts ≤ gs) := H11'.out
  clear H11'
  have H12 : Hid (Fvs [⟨gs, #[.int .i64 sf, .slice sp sn sq], X, bs, ts⟩, ⟨gc, #[.int .i64 cf, .slice cp cn cq], c, bc, tc⟩, ⟨gh, #[.int .i64 hf, .slice hp hn hq], G, bh, th⟩, ⟨gx, #[.int .i64 xf, .slice xp xn xq], X, bx, tx⟩, ⟨gd, #[.int .i64 df, .slice dp dn dq], d, bd, td⟩] w w11) := H11.out.1
  clear H11
  obtain ⟨ch, hch⟩ : ∃ X, X = c.chosen := ⟨_, rfl⟩
  have L1 := fun w h1 h2 => likeFss (.agg #[.int .i64 xf, .slice xp xn xq]) (.agg #[.int .i64 sf, .slice sp sn sq]) X w Hx.out h1 h2
  have K3 := fun w h0 => IC'.out c (.agg #[.int .i64 cf, .slice cp cn cq]) w Hbc.out h0
  have K4 := fun w h0 => specChosen c (.agg #[.int .i64 cf, .slice cp cn cq]) w Hbc.out h0
  rw [← hch] at K3 K4
  have Hch : Hid (ch = c.chosen) := hch
  have L1' : Hid _ := L1
  have K3' : Hid _ := K3
  have K4' : Hid _ := K4
  clear L1 K3 K4 hch
  go_cut [75] (fun s wc => Hid (s = .bool false ∧ Fvs [⟨gs, #[.int .i64 sf, .slice sp sn sq], X, bs, ts⟩, ⟨gc, #[.int .i64 cf, .slice cp cn cq], c, bc, tc⟩, ⟨gh, #[.int .i64 hf, .slice hp hn hq], G, bh, th⟩, ⟨gx, #[.int .i64 xf, .slice xp xn xq], X, bx, tx⟩, ⟨gd, #[.int .i64 df, .slice dp dn dq], d, bd, td⟩] w wc))
  case first =>
    have Go : Hid (∀ p : BelW w11.heap.size w11, Fvs [⟨gs, #[.int .i64 sf, .slice sp sn sq], X, bs, ts⟩, ⟨gc, #[.int .i64 cf, .slice cp cn cq], c, bc, tc⟩, ⟨gh, #[.int .i64 hf, .slice hp hn hq], G, bh, th⟩, ⟨gx, #[.int .i64 xf, .slice xp xn xq], X, bx, tx⟩, ⟨gd, #[.int .i64 df, .slice dp dn dq], d, bd, td⟩] w p.w') := fun p => H12.out.below p.h
    have cs0 : ∀ p : BelW w11.heap.size w11, p.w'.cell? ⟨gs, 0, none⟩ = some (.int .i64 sf) := fun p => ((Go.out p).at 0 rfl).cell 0 rfl
    have cs1 : ∀ p : BelW w11.heap.size w11, p.w'.cell? ⟨gs, 1, none⟩ = some (.slice sp sn sq) := fun p => ((Go.out p).at 0 rfl).cell 1 rfl
    have cc0 : ∀ p : BelW w11.heap.size w11, p.w'.cell? ⟨gc, 0, none⟩ = some (.int .i64 cf) := fun p => ((Go.out p).at 1 rfl).cell 0 rfl
    have cc1 : ∀ p : BelW w11.heap.size w11, p.w'.cell? ⟨gc, 1, none⟩ = some (.slice cp cn cq) := fun p => ((Go.out p).at 1 rfl).cell 1 rfl
    have ch0 : ∀ p : BelW w11.heap.size w11, p.w'.cell? ⟨gh, 0, none⟩ = some (.int .i64 hf) := fun p => ((Go.out p).at 2 rfl).cell 0 rfl
    have ch1 : ∀ p : BelW w11.heap.size w11, p.w'.cell? ⟨gh, 1, none⟩ = some (.slice hp hn hq) := fun p => ((Go.out p).at 2 rfl).cell 1 rfl
    have cx0 : ∀ p : BelW w11.heap.size w11, p.w'.cell? ⟨gx, 0, none⟩ = some (.int .i64 xf) := fun p => ((Go.out p).at 3 rfl).cell 0 rfl
    have cx1 : ∀ p : BelW w11.heap.size w11, p.w'.cell? ⟨gx, 1, none⟩ = some (.slice xp xn xq) := fun p => ((Go.out p).at 3 rfl).cell 1 rfl
    haveI : Nonempty (BelW w11.heap.size w11) := ⟨⟨w11, Below.refl _ _⟩⟩
    go_wp2_with fail
    cases is
    · skip
      refine region_below w11.heap.size (by kernel_rfl) (by kernel_rfl) ?_
      repeat (go_big_quiet_step ((first | (go_at_call 11; with_reducible refine quiet_below (Nat.le_refl _) (L1'.out _ ((Go.out _).is 3 rfl) ((Go.out _).is 0 rfl))) | (go_at_call 23; with_reducible refine quiet_below (Nat.le_refl _) (B2'.out _ ((Go.out _).is 2 rfl))) | (go_at_call 14; with_reducible refine quiet_below (Nat.le_refl _) (K3'.out _ ((Go.out _).is 1 rfl))) | (go_at_call 15; with_reducible refine quiet_below (Nat.le_refl _) (K4'.out _ ((Go.out _).is 1 rfl))))))
      refine wpQuiet_nil ?_
      intro w12 hx
      have H13 : Hid (Fvs [⟨gs, #[.int .i64 sf, .slice sp sn sq], X, bs, ts⟩, ⟨gc, #[.int .i64 cf, .slice cp cn cq], c, bc, tc⟩, ⟨gh, #[.int .i64 hf, .slice hp hn hq], G, bh, th⟩, ⟨gx, #[.int .i64 xf, .slice xp xn xq], X, bx, tx⟩, ⟨gd, #[.int .i64 df, .slice dp dn dq], d, bd, td⟩] w w12) := H12.out.below (BelW.out hx)
      clear hx cs0 cs1 cc0 cc1 ch0 ch1 cx0 cx1
      go_wp2
      go_meet
      exact ⟨rfl, H13.out⟩
    · skip
      refine region_below w11.heap.size (by kernel_rfl) (by kernel_rfl) ?_
      repeat (go_big_quiet_step ((first | (go_at_call 11; with_reducible refine quiet_below (Nat.le_refl _) (L1'.out _ ((Go.out _).is 3 rfl) ((Go.out _).is 0 rfl))) | (go_at_call 23; with_reducible refine quiet_below (Nat.le_refl _) (B2'.out _ ((Go.out _).is 2 rfl))) | (go_at_call 14; with_reducible refine quiet_below (Nat.le_refl _) (K3'.out _ ((Go.out _).is 1 rfl))) | (go_at_call 15; with_reducible refine quiet_below (Nat.le_refl _) (K4'.out _ ((Go.out _).is 1 rfl))))))
      refine wpQuiet_nil ?_
      intro w12 hx
      have H13 : Hid (Fvs [⟨gs, #[.int .i64 sf, .slice sp sn sq], X, bs, ts⟩, ⟨gc, #[.int .i64 cf, .slice cp cn cq], c, bc, tc⟩, ⟨gh, #[.int .i64 hf, .slice hp hn hq], G, bh, th⟩, ⟨gx, #[.int .i64 xf, .slice xp xn xq], X, bx, tx⟩, ⟨gd, #[.int .i64 df, .slice dp dn dq], d, bd, td⟩] w w12) := H12.out.below (BelW.out hx)
      clear hx cs0 cs1 cc0 cc1 ch0 ch1 cx0 cx1
      go_wp2
      go_meet
      exact ⟨rfl, H13.out⟩
  case rest =>
  obtain ⟨rfl, hP⟩ := hcut.out
  have H13 : Hid (Fvs [⟨gc, #[.int .i64 cf, .slice cp cn cq], c, bc, tc⟩, ⟨gx, #[.int .i64 xf, .slice xp xn xq], X, bx, tx⟩, ⟨gd, #[.int .i64 df, .slice dp dn dq], d, bd, td⟩] w wc) := hP.sub fun e he => by simp only [List.mem_cons, List.not_mem_nil, or_false] at he ⊢; rcases he with rfl | rfl | rfl; exact .inr (.inl rfl); exact .inr (.inr (.inr (.inl rfl))); exact .inr (.inr (.inr (.inr rfl)))
  clear hcut hP H12 L1' B2' K4'
  generalize wc = w12 at H13 ⊢
  go_wp2_with (refine wpList_load_row rfl 26 (.tmp 11) rfl gc rfl _ _ _ _ (H13.out.at 0 rfl) Try.underlying26 rfl (by kernel_rfl) ?_)
  refine (K3'.out _ (H13.out.is 0 rfl)).mono ?_
  rintro e w13 ⟨rfl, q⟩
  have H14 : Hid (Fvs [⟨gc, #[.int .i64 cf, .slice cp cn cq], c, bc, tc⟩, ⟨gx, #[.int .i64 xf, .slice xp xn xq], X, bx, tx⟩, ⟨gd, #[.int .i64 df, .slice dp dn dq], d, bd, td⟩] w w13) := H13.out.below q
  clear q H13 K3'
  go_upto_if 79 with fail
  go_cut [] (fun wc => Hid (Fvs [⟨gx, #[.int .i64 xf, .slice xp xn xq], X, bx, tx⟩, ⟨gd, #[.int .i64 df, .slice dp dn dq], d, bd, td⟩] w wc))
  case first =>
    by_cases hw : ch < 0
    · have hP : Hid (Fvs [⟨gx, #[.int .i64 xf, .slice xp xn xq], X, bx, tx⟩, ⟨gd, #[.int .i64 df, .slice dp dn dq], d, bd, td⟩] w w13) := H14.out.sub (fun e he => by simp only [List.mem_cons, List.not_mem_nil, or_false] at he ⊢; exact .inr he)
      clear H14
      go_wp2_with fail
      go_meet
      exact hP.out
    obtain ⟨bb, hbb⟩ : ∃ b : Nat, ch = b := ⟨ch.toNat, by omega⟩
    subst hbb
    have he : c.chosen = (bb : Int) := Hch.out.symm
    obtain ⟨n0, hn0⟩ : ∃ z, z = c.begins (bb : Int) := ⟨_, rfl⟩
    have Hfirst : Hid (∀ i : Int, 0 ≤ c.begins i → ¬ (c.begins i < n0) ∧ ¬ (c.begins i = n0 ∧ i < (bb : Int))) := fun i hi => by rw [hn0]; exact Fs.chosen_first he (by omega) hi
    have B0 := fun w h0 => IB'.out c (.agg #[.int .i64 cf, .slice cp cn cq]) (bb : Int) w Hbc.out h0
    rw [← hn0] at B0
    have B0' : Hid _ := B0
    have He : Hid (c.chosen = (bb : Int)) := he
    clear he B0 hn0 hw
    have hcn : cn ≤ 1048576 := by have h1 := Hlc.out.2; have h2 := (Fs.small Hbc.out).1; omega
    have hbp : (0 : Int) ≤ (bb : Int) := by omega
    go_wp2_with fail
    go_loopw [15, 16] (fun s _ wr => ∃ i : Nat, i ≤ cn ∧ s = .int .i64 i ∧ Hid (Fvs [⟨gc, #[.int .i64 cf, .slice cp cn cq], c, bc, tc⟩, ⟨gx, #[.int .i64 xf, .slice xp xn xq], X, bx, tx⟩, ⟨gd, #[.int .i64 df, .slice dp dn dq], d, bd, td⟩] w wr)) (fun s _ _ => cn - (intOf s).toNat)
    case atStart => exact ⟨0, Nat.zero_le _, rfl, H14⟩
    case round =>
      obtain ⟨i, hi, rfl, H15⟩ := hrel
      clear H14
      obtain ⟨wq, rfl⟩ : ∃ wq, wq = wr := ⟨_, rfl⟩
      have cc1 : wq.cell? ⟨gc, 1, none⟩ = some (.slice cp cn cq) := (H15.out.at 0 rfl).cell 1 rfl
      by_cases hlt : i < cn
      · have hlt' : (i : Int) < (cn : Int) := by omega
        have B1 := fun w h0 => IB'.out c (.agg #[.int .i64 cf, .slice cp cn cq]) (i : Int) w Hbc.out h0
        have hf := Hfirst.out (i : Int)
        generalize c.begins (i : Int) = n1 at B1 hf
        have Hf : Hid _ := hf
        have B1' : Hid _ := B1
        clear B1 hf
        go_wp2_with (refine wpList_load_row rfl 26 (.tmp 11) rfl gc rfl _ _ _ _ (H15.out.at 0 rfl) Try.underlying26 rfl (by kernel_rfl) ?_)
        refine (B1'.out _ (H15.out.is 0 rfl)).mono ?_
        rintro e w15 ⟨rfl, q⟩
        have H16 : Hid (Fvs [⟨gc, #[.int .i64 cf, .slice cp cn cq], c, bc, tc⟩, ⟨gx, #[.int .i64 xf, .slice xp xn xq], X, bx, tx⟩, ⟨gd, #[.int .i64 df, .slice dp dn dq], d, bd, td⟩] w w15) := H15.out.below q
        clear q H15 B1' cc1
        by_cases hn : 0 ≤ n1
        · obtain ⟨f1, f2⟩ := Hf.out hn
          have f1 : ¬ n1 < n0 := by omega
          have dn1 : decide (n1 < n0) = false := decide_eq_false f1
          have e0 : w15.cell? ⟨gc, 0, none⟩ = some (.int .i64 cf) := (H16.out.at 0 rfl).cell 0 rfl
          have e1 : w15.cell? ⟨gc, 1, none⟩ = some (.slice cp cn cq) := (H16.out.at 0 rfl).cell 1 rfl
          go_wp2_with fail
          refine (B0'.out _ (H16.out.is 0 rfl)).mono ?_
          rintro e w16 ⟨rfl, q⟩
          have H17 : Hid (Fvs [⟨gc, #[.int .i64 cf, .slice cp cn cq], c, bc, tc⟩, ⟨gx, #[.int .i64 xf, .slice xp xn xq], X, bx, tx⟩, ⟨gd, #[.int .i64 df, .slice dp dn dq], d, bd, td⟩] w w16) := H16.out.below q
          clear q H16 e0 e1
          have e0 : w16.cell? ⟨gc, 0, none⟩ = some (.int .i64 cf) := (H17.out.at 0 rfl).cell 0 rfl
          have e1 : w16.cell? ⟨gc, 1, none⟩ = some (.slice cp cn cq) := (H17.out.at 0 rfl).cell 1 rfl
          go_wp2_with fail
          refine (B0'.out _ (H17.out.is 0 rfl)).mono ?_
          rintro e w17 ⟨rfl, q⟩
          have H18 : Hid (Fvs [⟨gc, #[.int .i64 cf, .slice cp cn cq], c, bc, tc⟩, ⟨gx, #[.int .i64 xf, .slice xp xn xq], X, bx, tx⟩, ⟨gd, #[.int .i64 df, .slice dp dn dq], d, bd, td⟩] w w17) := H17.out.below q
          clear q H17 e0 e1
          by_cases hnn : n1 = n0
          · have f3 : ¬ (i : Int) < (bb : Int) := by first | exact fun h => f2 ⟨hnn, h⟩ | (have := f2 hnn; omega)
            have f4 : decide ((i : Int) < (bb : Int)) = false := decide_eq_false f3
            clear f1 f2 dn1
            subst hnn
            have f5 : ¬ i < bb := by omega
            go_wp2
            go_roundw
            case rel => exact ⟨i + 1, by omega, by go_num, H18⟩
            case measure => simp [intOf]; omega
          · have f3 : (n1 == n0) = false := by simpa using hnn
            clear f2
            go_wp2
            go_roundw
            case rel => exact ⟨i + 1, by omega, by go_num, H18⟩
            case measure => simp [intOf]; omega
        · have dn1 : decide (0 ≤ n1) = false := decide_eq_false hn
          go_wp2
          go_roundw
          case rel => exact ⟨i + 1, by omega, by go_num, H16⟩
          case measure => simp [intOf]; omega
      obtain rfl : cn = i := by omega
      obtain ⟨Y, hY⟩ : ∃ z, z = c.served := ⟨_, rfl⟩
      obtain ⟨si, hsi⟩ : ∃ z, z = c.servedI := ⟨_, rfl⟩
      obtain ⟨sn', hsn⟩ : ∃ z, z = c.servedN := ⟨_, rfl⟩
      have S1 := fun w h0 => IS'.out c (.agg #[.int .i64 cf, .slice cp cn cq]) w Hbc.out h0
      rw [← hY, ← hsi, ← hsn] at S1
      have HY : Hid (Y = c.served ∧ si = c.servedI ∧ sn' = c.servedN) := ⟨hY, hsi, hsn⟩
      have Hy : Hid (Y.big ≤ 1048576) := by rw [hY]; exact big_served Hbc.out
      have S1' : Hid _ := S1
      clear S1 hY hsi hsn hi hlt
      go_wp2_with (refine wpList_load_row rfl 26 (.tmp 11) rfl gc rfl _ _ _ _ (H15.out.at 0 rfl) Try.underlying26 rfl (by kernel_rfl) ?_)
      refine (S1'.out _ (H15.out.is 0 rfl)).mono ?_
      rintro e w15 ⟨⟨v, rfl, iY⟩, q⟩
      obtain ⟨zp, zq, rfl⟩ := iY.cells'
      have H16 : Hid (Fvs [⟨gc, #[.int .i64 cf, .slice cp cn cq], c, bc, tc⟩, ⟨gx, #[.int .i64 xf, .slice xp xn xq], X, bx, tx⟩, ⟨gd, #[.int .i64 df, .slice dp dn dq], d, bd, td⟩] w w15 ∧ FsIn wq.heap.size w15.heap.size w15 (.agg #[.int .i64 Y.now, .slice zp Y.flows.length zq]) Y) := ⟨H15.out.below q, iY⟩
      obtain ⟨zf, hzf⟩ : ∃ z, z = Y.now := ⟨_, rfl⟩
      obtain ⟨zn, hzn⟩ : ∃ z, z = Y.flows.length := ⟨_, rfl⟩
      have Hyy : Hid (zf = Y.now ∧ zn = Y.flows.length) := ⟨hzf, hzn⟩
      rw [← hzf, ← hzn] at H16 ⊢
      clear q iY H15 S1' hzf hzn cc1
      have N : Hid (Boxed (w15.alloc (.cells #[.int .i64 0, .slice none 0 0] 26)) w15.heap.size #[.int .i64 0, .slice none 0 0] 26) := Boxed.new _ _ _
      have H17 : Hid (Fvs [⟨w15.heap.size, #[.int .i64 zf, .slice zp zn zq], Y, wq.heap.size, w15.heap.size⟩, ⟨gc, #[.int .i64 cf, .slice cp cn cq], c, bc, tc⟩, ⟨gx, #[.int .i64 xf, .slice xp xn xq], X, bx, tx⟩, ⟨gd, #[.int .i64 df, .slice dp dn dq], d, bd, td⟩] w ((w15.alloc (.cells #[.int .i64 0, .slice none 0 0] 26)).setRow w15.heap.size #[.int .i64 zf, .slice zp zn zq])) := H16.out.1.store _ H16.out.2 (Nat.le_refl _)
      go_upto_region 20 with (first | (refine wpList_store_row rfl 26 (.tmp _) (.tmp _) rfl w15.heap.size #[.int .i64 zf, .slice zp zn zq] rfl rfl _ _ N.out (by kernel_rfl) rfl (by simp [Value.oneCell']) ?_) | (refine wpList_load_row rfl 26 (.tmp _) rfl w15.heap.size rfl _ _ _ _ (H17.out.at 0 rfl) Try.underlying26 rfl (by kernel_rfl) ?_) | (refine wpList_load_row rfl 26 (.tmp _) rfl gc rfl _ _ _ _ (H17.out.at 1 rfl) Try.underlying26 rfl (by kernel_rfl) ?_) | (refine wpList_load_row rfl 26 (.tmp _) rfl gx rfl _ _ _ _ (H17.out.at 2 rfl) Try.underlying26 rfl (by kernel_rfl) ?_) | (refine wpList_load_row rfl 26 (.tmp _) rfl gd rfl _ _ _ _ (H17.out.at 3 rfl) Try.underlying26 rfl (by kernel_rfl) ?_))
      generalize (w15.alloc (.cells #[.int .i64 0, .slice none 0 0] 26)).setRow w15.heap.size #[.int .i64 zf, .slice zp zn zq] = w16 at H17 ⊢
      obtain ⟨tz, htz⟩ : ∃ t, t = w15.heap.size := ⟨_, rfl⟩
      have H17' : Hid (Fvs [⟨w15.heap.size, #[.int .i64 zf, .slice zp zn zq], Y, wq.heap.size, tz⟩, ⟨gc, #[.int .i64 cf, .slice cp cn cq], c, bc, tc⟩, ⟨gx, #[.int .i64 xf, .slice xp xn xq], X, bx, tx⟩, ⟨gd, #[.int .i64 df, .slice dp dn dq], d, bd, td⟩] w w16 ∧ tz ≤ w15.heap.size) := ⟨by rw [htz]; exact H17.out, by rw [htz]; exact Nat.le_refl _⟩
      clear N H16 H17 htz
      generalize w15.heap.size = gz at H17' ⊢
      generalize wq.heap.size = bz at H17'
      have H17 : Hid (Fvs [⟨gz, #[.int .i64 zf, .slice zp zn zq], Y, bz, tz⟩, ⟨gc, #[.int .i64 cf, .slice cp cn cq], c, bc, tc⟩, ⟨gx, #[.int .i64 xf, .slice xp xn xq], X, bx, tx⟩, ⟨gd, #[.int .i64 df, .slice dp dn dq], d, bd, td⟩] w w16 ∧ tz ≤ gz) := H17'.out
      clear H17'
      have H18 : Hid (Fvs [⟨gz, #[.int .i64 zf, .slice zp zn zq], Y, bz, tz⟩, ⟨gc, #[.int .i64 cf, .slice cp cn cq], c, bc, tc⟩, ⟨gx, #[.int .i64 xf, .slice xp xn xq], X, bx, tx⟩, ⟨gd, #[.int .i64 df, .slice dp dn dq], d, bd, td⟩] w w16) := H17.out.1
      clear H17
      have Go : Hid (∀ p : BelW w16.heap.size w16, Fvs [⟨gz, #[.int .i64 zf, .slice zp zn zq], Y, bz, tz⟩, ⟨gc, #[.int .i64 cf, .slice cp cn cq], c, bc, tc⟩, ⟨gx, #[.int .i64 xf, .slice xp xn xq], X, bx, tx⟩, ⟨gd, #[.int .i64 df, .slice dp dn dq], d, bd, td⟩] w p.w') := fun p => H18.out.below p.h
      haveI : Nonempty (BelW w16.heap.size w16) := ⟨⟨w16, Below.refl _ _⟩⟩
      have Q1 := fun w h0 => IK'.out Y (.agg #[.int .i64 zf, .slice zp zn zq]) w Hy.out h0
      have cz0 : ∀ p : BelW w16.heap.size w16, p.w'.cell? ⟨gz, 0, none⟩ = some (.int .i64 zf) := fun p => ((Go.out p).at 0 rfl).cell 0 rfl
      have cz1 : ∀ p : BelW w16.heap.size w16, p.w'.cell? ⟨gz, 1, none⟩ = some (.slice zp zn zq) := fun p => ((Go.out p).at 0 rfl).cell 1 rfl
      have cc0 : ∀ p : BelW w16.heap.size w16, p.w'.cell? ⟨gc, 0, none⟩ = some (.int .i64 cf) := fun p => ((Go.out p).at 1 rfl).cell 0 rfl
      have cc1 : ∀ p : BelW w16.heap.size w16, p.w'.cell? ⟨gc, 1, none⟩ = some (.slice cp cn cq) := fun p => ((Go.out p).at 1 rfl).cell 1 rfl
      by_cases hcan : c.can = true
      · have G1 := Fs.served_goes hcan He.out
        rw [← HY.out.1, ← HY.out.2.1, ← HY.out.2.2] at G1
        obtain ⟨k1, k2, k3, k4, k5, k6, k7, k8⟩ := G1
        rw [k1] at Q1
        rw [← Hlc.out.1, ← Hyy.out.1] at k2
        obtain ⟨cb, co, ak, ck, ecp, hcb, cf1, cs2, hin, -⟩ := fs_flow (H18.out.is 1 rfl).out k6
        obtain ⟨zb, zo, -, -, ezp, hzb, zf1, -, -, -⟩ := fs_flow (H18.out.is 0 rfl).out (i := bb) (by rw [k8]; exact k6)
        obtain ⟨ab, ao, eak, hab, z0⟩ := hin 0 k7
        subst eak
        have ez : (fwAt c.flows bb).sizes[0]?.getD 0 = sn' := k5.symm
        rw [ez] at z0
        have hbc : (bb : Int) < (cn : Int) := by rw [Hlc.out.2]; omega
        have hby : (bb : Int) < (zn : Int) := by rw [Hyy.out.2, k8]; omega
        rw [ecp] at cc1
        subst ezp
        rw [Nat.add_zero] at z0
        generalize (fwAt c.flows bb).finish = fc at cf1 k3
        generalize (fwAt Y.flows bb).finish = fy at zf1 k3
        generalize hls : (fwAt c.flows bb).sizes.length = ls at cs2 k7
        have P1 : ∀ p : BelW w16.heap.size w16, p.w'.cell? ⟨cb, co + bb * 3 + 1, none⟩ = some (.int .i64 fc) := fun p => (p.h.cell (p := ⟨cb, co + bb * 3 + 1, none⟩) hcb).trans cf1
        have P2 : ∀ p : BelW w16.heap.size w16, p.w'.cell? ⟨cb, co + bb * 3 + 2, none⟩ = some (.slice (some ⟨ab, ao, none⟩) ls ck) := fun p => (p.h.cell (p := ⟨cb, co + bb * 3 + 2, none⟩) hcb).trans cs2
        have P3 : ∀ p : BelW w16.heap.size w16, p.w'.cell? ⟨zb, zo + bb * 3 + 1, none⟩ = some (.int .i64 fy) := fun p => (p.h.cell (p := ⟨zb, zo + bb * 3 + 1, none⟩) hzb).trans zf1
        have P4 : ∀ p : BelW w16.heap.size w16, p.w'.cell? ⟨ab, ao, none⟩ = some (.int .i64 sn') := fun p => (p.h.cell (p := ⟨ab, ao, none⟩) hab).trans z0
        have n1 : decide (zf < cf) = false := decide_eq_false (by omega)
        have n1' : ¬ zf < cf := by omega
        have n2 : decide (fy ≤ fc) = false := decide_eq_false (by omega)
        have n2' : ¬ fy ≤ fc := by omega
        have n3 : (0 : Int) < (ls : Int) := by omega
        have n4 : (0 : Int) ≤ (bb : Int) := by omega
        subst k4
        have Q1' : Hid _ := Q1
        clear Q1 k1 k2 k3 k5 k6 k7 k8 hin ez hls ecp cf1 cs2 zf1 z0
        go_wp2_with fail
        refine region_below w16.heap.size (by kernel_rfl) (by kernel_rfl) ?_
        repeat (go_big_quiet_step ((go_at_call 12; with_reducible refine quiet_below (Nat.le_refl _) (Q1'.out _ ((Go.out _).is 0 rfl)))))
        refine wpQuiet_nil ?_
        intro w17 hx
        have H19 : Hid (Fvs [⟨gx, #[.int .i64 xf, .slice xp xn xq], X, bx, tx⟩, ⟨gd, #[.int .i64 df, .slice dp dn dq], d, bd, td⟩] w w17) := (H18.out.below (BelW.out hx)).sub fun e he => by simp only [List.mem_cons, List.not_mem_nil, or_false] at he ⊢; exact .inr (.inr he)
        clear hx H18
        go_wp2
        go_meet
        exact H19.out
      · have k4 : si = -1 := by rw [HY.out.2.1]; unfold Fs.servedI; rw [if_neg hcan]
        subst k4
        clear Q1
        go_wp2_with fail
        refine region_below w16.heap.size (by kernel_rfl) (by kernel_rfl) ?_
        repeat (go_big_quiet_step ((fail)))
        refine wpQuiet_nil ?_
        intro w17 hx
        have H19 : Hid (Fvs [⟨gx, #[.int .i64 xf, .slice xp xn xq], X, bx, tx⟩, ⟨gd, #[.int .i64 df, .slice dp dn dq], d, bd, td⟩] w w17) := (H18.out.below (BelW.out hx)).sub fun e he => by simp only [List.mem_cons, List.not_mem_nil, or_false] at he ⊢; exact .inr (.inr he)
        clear hx H18
        go_wp2
        go_meet
        exact H19.out
  case rest =>
  have H20 : Hid (Fvs [⟨gx, #[.int .i64 xf, .slice xp xn xq], X, bx, tx⟩, ⟨gd, #[.int .i64 df, .slice dp dn dq], d, bd, td⟩] w wc) := hcut.out
  clear hcut H14 IC' IS' Hbc Hch
  generalize wc = w20 at H20 ⊢
  have K2 := fun w h0 => specFairOk d (.agg #[.int .i64 df, .slice dp dn dq]) w Hbd.out h0
  obtain ⟨ok, hok⟩ : ∃ z, z = d.ok := ⟨_, rfl⟩
  rw [← hok] at K2
  have Hok : Hid (ok = d.ok) := hok
  have K2' : Hid _ := K2
  clear K2 hok
  go_wp2_with (refine wpList_load_row rfl 26 (.tmp 3) rfl gd rfl _ _ _ _ (H20.out.at 1 rfl) Try.underlying26 rfl (by kernel_rfl) ?_)
  refine (K2'.out _ (H20.out.is 1 rfl)).mono ?_
  rintro e w21 ⟨rfl, q⟩
  have H21 : Hid (Fvs [⟨gx, #[.int .i64 xf, .slice xp xn xq], X, bx, tx⟩, ⟨gd, #[.int .i64 df, .slice dp dn dq], d, bd, td⟩] w w21) := H20.out.below q
  clear q H20 K2'
  cases ok
  · have hk : d.ok = false := Hok.out.symm
    have e1 : is = false := by rw [HX.out.2]; unfold Fs.queuedB; rw [hk]; rfl
    have e2 : X = ⟨0, []⟩ := by rw [HX.out.1]; unfold Fs.queued; rw [if_neg (by rw [hk]; simp)]
    have L2 := fun w h1 h2 => likeFss (.agg #[.int .i64 xf, .slice xp xn xq]) (.agg #[.int .i64 0, .slice none 0 0]) X w Hx.out h1 h2
    have L2' : Hid _ := L2
    have Hz : Hid (∀ w, FsAt w (.agg #[.int .i64 0, .slice none 0 0]) X) := fun w => by rw [e2]; exact fs_zero w
    subst e1
    clear L2 e2 hk
    have e0 : w21.cell? ⟨gx, 0, none⟩ = some (.int .i64 xf) := (H21.out.at 0 rfl).cell 0 rfl
    have e1 : w21.cell? ⟨gx, 1, none⟩ = some (.slice xp xn xq) := (H21.out.at 0 rfl).cell 1 rfl
    go_wp2_with fail
    refine (L2'.out _ (H21.out.is 0 rfl) (Hz.out _)).mono ?_
    rintro e w22 ⟨rfl, q⟩
    have H22 : Hid (Below w.heap.size w w22) := (H21.out.below q).bel
    clear q H21 e0 e1
    go_wp2
    go_ret
    exact ⟨rfl, H22.out⟩
  have hk : d.ok = true := Hok.out.symm
  cases is
  · have e2 : X = d := by
      have h1 := HX.out.2
      rw [HX.out.1]
      unfold Fs.queued Fs.queuedB at *
      rw [hk] at h1
      rw [if_pos hk, if_neg (by rw [← show false = d.mayQ flow size from h1]; simp)]
    have L2 := fun w h1 h2 => likeFss (.agg #[.int .i64 xf, .slice xp xn xq]) (.agg #[.int .i64 df, .slice dp dn dq]) X w Hx.out h1 h2
    have L2' : Hid _ := L2
    have E2 : Hid (X = d) := e2
    clear L2 e2 hk
    go_wp2_with (first | (refine wpList_load_row rfl 26 (.tmp 6) rfl gx rfl _ _ _ _ (H21.out.at 0 rfl) Try.underlying26 rfl (by kernel_rfl) ?_) | (refine wpList_load_row rfl 26 (.tmp 3) rfl gd rfl _ _ _ _ (H21.out.at 1 rfl) Try.underlying26 rfl (by kernel_rfl) ?_))
    refine (L2'.out _ (H21.out.is 0 rfl) (by rw [E2.out]; exact H21.out.is 1 rfl)).mono ?_
    rintro e w22 ⟨rfl, q⟩
    have H22 : Hid (Below w.heap.size w w22) := (H21.out.below q).bel
    clear q H21
    go_wp2
    go_ret
    exact ⟨rfl, H22.out⟩
  have hm : d.mayQ flow size = true := by
    have h1 := HX.out.2
    unfold Fs.queuedB at h1
    rw [hk] at h1
    exact h1.symm
  obtain ⟨g1, g2, g3, g4, g5⟩ := Fs.queued_goes hk hm
  rw [← HX.out.1] at g1 g2 g3 g5
  obtain ⟨F, hF⟩ : ∃ F : Nat, flow = F := ⟨flow.toNat, by omega⟩
  subst hF
  rw [Int.toNat_natCast] at g2
  have hFd : F < d.flows.length := by omega
  obtain ⟨xb, xo, oa, oc, exp, hxb, -, xs2, xin, -⟩ := fs_flow (H21.out.is 0 rfl).out (i := F) (by rw [g5]; exact hFd)
  obtain ⟨db, do', ak, ck, edp, hdb, -, ds2, din, dnil⟩ := fs_flow (H21.out.is 1 rfl).out hFd
  obtain ⟨L, hL⟩ : ∃ L, L = (fwAt X.flows F).sizes := ⟨_, rfl⟩
  obtain ⟨l, hl⟩ : ∃ l, l = (fwAt d.flows F).sizes := ⟨_, rfl⟩
  rw [← hL] at xs2 xin g2
  rw [← hl] at ds2 din g2
  have hl40 : l.length ≤ 40 := by rw [hl]; exact (Fw.ok_iff.1 (Fs.ok_at hk hFd)).2.2.1
  obtain ⟨lj, hlj⟩ : ∃ n, l.length = n := ⟨_, rfl⟩
  obtain ⟨kk, hkk⟩ : ∃ n, L.length = n := ⟨_, rfl⟩
  have hkl : kk = lj + 1 := by rw [← hkk, g2, List.length_append, hlj]; rfl
  rw [hkk] at xs2
  rw [hlj] at ds2
  have HL : Hid (L = l ++ [size]) := g2
  have Hlj : Hid (l.length = lj) := hlj
  have Hkk : Hid (L.length = kk) := hkk
  have OX := fun wx h => IK'.out X (.agg #[.int .i64 xf, .slice xp xn xq]) wx Hx.out h
  have BX := fun wx h => IB'.out X (.agg #[.int .i64 xf, .slice xp xn xq]) (F : Int) wx Hx.out h
  rw [g1] at OX
  obtain ⟨bgx, hbgx⟩ : ∃ z, z = X.begins (F : Int) := ⟨_, rfl⟩
  rw [← hbgx] at BX g3
  rw [← Hxx.out.1] at g3
  have LI := fun wx a2 c2 h1 h2 => likeInts oa a2 oc c2 L wx (by rw [hkk]; omega) h1 h2
  rw [hkk] at LI
  have OX' : Hid _ := OX
  have BX' : Hid _ := BX
  have LI' : Hid _ := LI
  have hFx : (F : Int) < (xn : Int) := by rw [Hxx.out.2, g5]; omega
  have hFn : (F : Int) < (dn : Int) := by rw [Hld.out.2]; omega
  have RX : Hid (∀ x, Below w21.heap.size w21 x → Fvs [⟨gx, #[.int .i64 xf, .slice xp xn xq], X, bx, tx⟩, ⟨gd, #[.int .i64 df, .slice dp dn dq], d, bd, td⟩] w x ∧ IntsAt x oa L ∧ x.cell? ⟨db, do' + F * 3 + 2, none⟩ = some (.slice ak lj ck) ∧ IntsAt x ak l) := fun x q => ⟨H21.out.below q, xin.below q, by rw [q.cell (p := ⟨db, do' + F * 3 + 2, none⟩) hdb]; exact ds2, din.below q⟩
  have cx1 : w21.cell? ⟨gx, 1, none⟩ = some (.slice xp xn xq) := (H21.out.at 0 rfl).cell 1 rfl
  rw [exp] at cx1
  have hl1 : l.length ≤ 1048576 := by omega
  clear OX BX LI hk hm g1 g2 g4 g5 hFd xin din ds2 hL hl hl40 hlj hkk hkl hbgx HX Hok IK' IB' Hx Hxx
  go_upto_region 27 with fail
  clear cx1 xs2
  refine region_lists (G := Unit) (by kernel_rfl) (by kernel_rfl) (by kernel_rfl) (fun j => if j = 4 then 11 else if j = 11 then 14 else if j = 13 then 14 else if j = 14 then 15 else 99) (fun _ _ x => Below w21.heap.size w21 x) (fun i _ x _ x' => i ≠ 14 → Below x.heap.size x x') (fun i y x v => ([fun _ _ v => v = .agg #[.int .i64 xf, .slice xp xn xq], fun _ _ v => v = .bool true, fun _ _ v => v = .bool true, fun _ _ v => v = .slice oa kk oc, fun _ x v => ∃ n4, v = .slice (some ⟨n4, 0, none⟩) 0 0 ∧ IRow w21.heap.size x v [], fun _ _ v => v = .pointer (some ⟨gd, 1, none⟩), fun _ _ v => v = .slice dp dn dq, fun _ _ v => v = .int .i64 (F : Int), fun _ _ v => v = .pointer (some ⟨db, do' + F * 3, none⟩), fun _ _ v => v = .pointer (some ⟨db, do' + F * 3 + 2, none⟩), fun _ _ v => v = .slice ak lj ck, fun _ x v => (∃ a2 c2, v = .slice a2 lj c2) ∧ IRow w21.heap.size x v l, fun _ _ v => v = .int .i64 size, fun _ x v => ∃ n13, v = .slice (some ⟨n13, 0, none⟩) 1 1 ∧ Boxed x n13 #[.int .i64 size] 2, fun _ x v => (∃ a2 c2, v = .slice a2 kk c2) ∧ IRow w21.heap.size x v L, fun _ _ v => v = .bool true, fun _ _ v => v = .bool true, fun _ _ v => v = .bool true, fun _ _ v => v = .agg #[.int .i64 xf, .slice xp xn xq], fun _ _ v => v = .int .i64 (F : Int), fun _ _ v => v = .int .i64 bgx, fun _ _ v => v = .pointer (some ⟨gx, 0, none⟩), fun _ _ v => v = .int .i64 xf, fun _ _ v => v = .bool true, fun _ _ v => v = .bool true, fun _ _ v => v = .bool true] : List (Unit → World → Value → Prop)).getD i (fun _ _ _ => True) y x v) ?hR () ?h0 ?step ?last
  case hR =>
    intro i j' y y' x x' v hi hj hne hu h1 h2 hp hr
    have hj'' : j' < 26 := hj
    have hcases : j' = 0 ∨ j' = 1 ∨ j' = 2 ∨ j' = 3 ∨ j' = 4 ∨ j' = 5 ∨ j' = 6 ∨ j' = 7 ∨ j' = 8 ∨ j' = 9 ∨ j' = 10 ∨ j' = 11 ∨ j' = 12 ∨ j' = 13 ∨ j' = 14 ∨ j' = 15 ∨ j' = 16 ∨ j' = 17 ∨ j' = 18 ∨ j' = 19 ∨ j' = 20 ∨ j' = 21 ∨ j' = 22 ∨ j' = 23 ∨ j' = 24 ∨ j' = 25 := by omega
    rcases hcases with rfl | rfl | rfl | rfl | rfl | rfl | rfl | rfl | rfl | rfl | rfl | rfl | rfl | rfl | rfl | rfl | rfl | rfl | rfl | rfl | rfl | rfl | rfl | rfl | rfl | rfl
    · exact hp
    · exact hp
    · exact hp
    · exact hp
    · have n33 : i ≠ 14 := by rintro rfl; exact absurd (Eq.trans (by kernel_rfl) h2 : true = false) (by decide)
      obtain ⟨n24, e, h⟩ := hp
      exact ⟨n24, e, h.carry fun y _ hy => (hr n33).block y hy⟩
    · exact hp
    · exact hp
    · exact hp
    · exact hp
    · exact hp
    · exact hp
    · have n33 : i ≠ 14 := fun e => hu e.symm
      exact ⟨hp.1, hp.2.carry fun y _ hy => (hr n33).block y hy⟩
    · exact hp
    · have n33 : i ≠ 14 := fun e => hu e.symm
      obtain ⟨n32, e, h⟩ := hp
      exact ⟨n32, e, h.below h.under (hr n33)⟩
    · exact ⟨hp.1, hp.2.carry fun y _ hy => (hr hne).block y hy⟩
    · exact hp
    · exact hp
    · exact hp
    · exact hp
    · exact hp
    · exact hp
    · exact hp
    · exact hp
    · exact hp
    · exact hp
    · exact hp
  case h0 => exact (Below.refl _ _).drew
  case step =>
    intro i o hi ho L' a' y x hLi hwt hre hkp hI hp
    have FX := RX.out x hI
    have s3 : a'.tmps.getD 3 undef = .pointer (some ⟨gd, 0, none⟩) := hkp.slot 3 (by kernel_rfl)
    have s4 : a'.tmps.getD 4 undef = .int .i64 (F : Int) := hkp.slot 4 (by kernel_rfl)
    have s5 : a'.tmps.getD 5 undef = .int .i64 size := hkp.slot 5 (by kernel_rfl)
    have s6 : a'.tmps.getD 6 undef = .pointer (some ⟨gx, 0, none⟩) := hkp.slot 6 (by kernel_rfl)
    have s20 : a'.tmps.getD 20 undef = .slice oa kk oc := hkp.slot 20 (by kernel_rfl)
    have hi' : i < 26 := hi
    have hcases : i = 0 ∨ i = 1 ∨ i = 2 ∨ i = 3 ∨ i = 4 ∨ i = 5 ∨ i = 6 ∨ i = 7 ∨ i = 8 ∨ i = 9 ∨ i = 10 ∨ i = 11 ∨ i = 12 ∨ i = 13 ∨ i = 14 ∨ i = 15 ∨ i = 16 ∨ i = 17 ∨ i = 18 ∨ i = 19 ∨ i = 20 ∨ i = 21 ∨ i = 22 ∨ i = 23 ∨ i = 24 ∨ i = 25 := by omega
    rcases hcases with rfl | rfl | rfl | rfl | rfl | rfl | rfl | rfl | rfl | rfl | rfl | rfl | rfl | rfl | rfl | rfl | rfl | rfl | rfl | rfl | rfl | rfl | rfl | rfl | rfl | rfl
    · cases ho
      exact ⟨wanted_none rfl, wp_load_row 26 (.tmp 6) rfl gx s6 _ _ _ _ (FX.1.at 0 rfl) Try.underlying26 rfl (by kernel_rfl) ⟨_, (), rfl, fun _ => Below.refl _ _, hI, fun u hu => hu (fun h => by cases h)⟩⟩
    · cases ho
      have q0 : a'.tmps[184]?.getD undef = .agg #[.int .i64 xf, .slice xp xn xq] := by have h2 : a'.tmps.getD 184 undef = .agg #[.int .i64 xf, .slice xp xn xq] := hp 0 (of_decide_eq_true (by kernel_rfl)) (.inr (by decide)); simpa using h2
      refine ⟨wanted_none rfl, op_callB (by simp [execOp, resolve, Deferred.ofValue, invoke, Act.eval, q0]) (OX'.out x (FX.1.is 0 rfl)) ?_⟩
      rintro e z ⟨rfl, hb⟩
      exact ⟨_, rfl, _, (), rfl, fun _ => hb, hI.trans (hb.mono hI.size), fun u hu => hu (fun h => by cases h)⟩
    · cases ho
      exact ⟨wanted_none rfl, op_move 185 rfl ⟨_, (), rfl, fun _ => Below.refl _ _, hI, fun u hu => (hu (fun h => by cases h)).trans (hp 1 (of_decide_eq_true (by kernel_rfl)) (.inr (by decide)))⟩⟩
    · cases ho
      exact ⟨wanted_of (j := 2) (d := 186) (b := true) rfl rfl (hp 2 (of_decide_eq_true (by kernel_rfl)) (.inr (by decide))), op_move 20 rfl ⟨_, (), rfl, fun _ => Below.refl _ _, hI, fun u hu => (hu (fun h => by cases h)).trans s20⟩⟩
    · cases ho
      refine ⟨wanted_of (j := 2) (d := 186) (b := true) rfl rfl (hp 2 (of_decide_eq_true (by kernel_rfl)) (.inr (by decide))), Oper.wp_mono (K := fun a'' w'' => a'' = a'.put (some 188) (.slice (some ⟨x.heap.size, 0, none⟩) 0 0) ∧ w'' = x.alloc (.cells #[] 2)) ?_ ?_⟩
      · rintro _ _ ⟨rfl, rfl⟩
        exact ⟨_, (), rfl, fun _ => (Below.refl _ _).alloc (Nat.le_refl _) _, hI.alloc hI.size _, fun u hu => by rw [hu (fun h => by cases h)]; exact ⟨x.heap.size, rfl, irow_built x w21.heap.size hI.size⟩⟩
      · unfold Oper.wp
        simp [go_sem]
    · cases ho
      have q5 : a'.tmps[3]?.getD undef = .pointer (some ⟨gd, 0, none⟩) := by simpa using s3
      refine ⟨wanted_of (j := 2) (d := 186) (b := true) rfl rfl (hp 2 (of_decide_eq_true (by kernel_rfl)) (.inr (by decide))), Oper.wp_mono (K := fun a'' w'' => a'' = a'.put (some 189) (.pointer (some ⟨gd, 1, none⟩)) ∧ w'' = x) ?_ ?_⟩
      · rintro _ _ ⟨rfl, rfl⟩
        exact ⟨_, (), rfl, fun _ => Below.refl _ _, hI, fun u hu => hu (fun h => by cases h)⟩
      · unfold Oper.wp
        simp [go_sem, q5]
    · cases ho
      have q0 : a'.tmps[189]?.getD undef = .pointer (some ⟨gd, 1, none⟩) := by have h2 : a'.tmps.getD 189 undef = .pointer (some ⟨gd, 1, none⟩) := hp 5 (of_decide_eq_true (by kernel_rfl)) (.inr (by decide)); simpa using h2
      have c9 : x.cell? ⟨gd, 1, none⟩ = some (.slice dp dn dq) := (FX.1.at 1 rfl).cell 1 rfl
      refine ⟨wanted_of (j := 2) (d := 186) (b := true) rfl rfl (hp 2 (of_decide_eq_true (by kernel_rfl)) (.inr (by decide))), Oper.wp_mono (K := fun a'' w'' => a'' = a'.put (some 190) (.slice dp dn dq) ∧ w'' = x) ?_ ?_⟩
      · rintro _ _ ⟨rfl, rfl⟩
        exact ⟨_, (), rfl, fun _ => Below.refl _ _, hI, fun u hu => hu (fun h => by cases h)⟩
      · unfold Oper.wp
        simp [go_sem, q0, c9]
    · cases ho
      exact ⟨wanted_of (j := 2) (d := 186) (b := true) rfl rfl (hp 2 (of_decide_eq_true (by kernel_rfl)) (.inr (by decide))), op_move 4 rfl ⟨_, (), rfl, fun _ => Below.refl _ _, hI, fun u hu => (hu (fun h => by cases h)).trans s4⟩⟩
    · cases ho
      have q0 : a'.tmps[190]?.getD undef = .slice dp dn dq := by have h2 : a'.tmps.getD 190 undef = .slice dp dn dq := hp 6 (of_decide_eq_true (by kernel_rfl)) (.inr (by decide)); simpa using h2
      have q1 : a'.tmps[191]?.getD undef = .int .i64 (F : Int) := by have h2 : a'.tmps.getD 191 undef = .int .i64 (F : Int) := hp 7 (of_decide_eq_true (by kernel_rfl)) (.inr (by decide)); simpa using h2
      rw [edp] at q0
      refine ⟨wanted_of (j := 2) (d := 186) (b := true) rfl rfl (hp 2 (of_decide_eq_true (by kernel_rfl)) (.inr (by decide))), Oper.wp_mono (K := fun a'' w'' => a'' = a'.put (some 192) (.pointer (some ⟨db, do' + F * 3, none⟩)) ∧ w'' = x) ?_ ?_⟩
      · rintro _ _ ⟨rfl, rfl⟩
        exact ⟨_, (), rfl, fun _ => Below.refl _ _, hI, fun u hu => hu (fun h => by cases h)⟩
      · unfold Oper.wp
        simp [go_sem, q0, q1, hFn]
    · cases ho
      have q0 : a'.tmps[192]?.getD undef = .pointer (some ⟨db, do' + F * 3, none⟩) := by have h2 : a'.tmps.getD 192 undef = .pointer (some ⟨db, do' + F * 3, none⟩) := hp 8 (of_decide_eq_true (by kernel_rfl)) (.inr (by decide)); simpa using h2
      refine ⟨wanted_of (j := 2) (d := 186) (b := true) rfl rfl (hp 2 (of_decide_eq_true (by kernel_rfl)) (.inr (by decide))), Oper.wp_mono (K := fun a'' w'' => a'' = a'.put (some 193) (.pointer (some ⟨db, do' + F * 3 + 2, none⟩)) ∧ w'' = x) ?_ ?_⟩
      · rintro _ _ ⟨rfl, rfl⟩
        exact ⟨_, (), rfl, fun _ => Below.refl _ _, hI, fun u hu => hu (fun h => by cases h)⟩
      · unfold Oper.wp
        simp [go_sem, q0]
    · cases ho
      have q0 : a'.tmps[193]?.getD undef = .pointer (some ⟨db, do' + F * 3 + 2, none⟩) := by have h2 : a'.tmps.getD 193 undef = .pointer (some ⟨db, do' + F * 3 + 2, none⟩) := hp 9 (of_decide_eq_true (by kernel_rfl)) (.inr (by decide)); simpa using h2
      have c9 := FX.2.2.1
      refine ⟨wanted_of (j := 2) (d := 186) (b := true) rfl rfl (hp 2 (of_decide_eq_true (by kernel_rfl)) (.inr (by decide))), Oper.wp_mono (K := fun a'' w'' => a'' = a'.put (some 194) (.slice ak lj ck) ∧ w'' = x) ?_ ?_⟩
      · rintro _ _ ⟨rfl, rfl⟩
        exact ⟨_, (), rfl, fun _ => Below.refl _ _, hI, fun u hu => hu (fun h => by cases h)⟩
      · unfold Oper.wp
        simp [go_sem, q0, c9]
    · cases ho
      obtain ⟨n24, e24, h24⟩ := hp 4 (of_decide_eq_true (by kernel_rfl)) (.inl rfl)
      have e24 : a'.tmps.getD 188 undef = .slice (some ⟨n24, 0, none⟩) 0 0 := e24
      have h24 : IRow w21.heap.size x (a'.tmps.getD 188 undef) [] := h24
      rw [e24] at h24
      have e29 : a'.tmps.getD 194 undef = .slice ak lj ck := hp 10 (of_decide_eq_true (by kernel_rfl)) (.inr (by decide))
      refine ⟨wanted_of (j := 2) (d := 186) (b := true) rfl rfl (hp 2 (of_decide_eq_true (by kernel_rfl)) (.inr (by decide))), int_op_empty (.tmp 188) (.tmp 194) rfl w21.heap.size n24 ak lj ck l Hlj.out (by simpa [Act.eval] using e24) (by simpa [Act.eval] using e29) h24 FX.2.2.2 dnil hl1 hI.size ?_⟩
      intro v' z q1 q2
      obtain ⟨a2, c2, ev⟩ := q1.shape
      rw [Hlj.out] at ev
      exact ⟨_, (), rfl, fun _ => q2, hI.trans (q2.mono hI.size), fun u hu => by rw [hu (fun h => by cases h)]; exact ⟨⟨a2, c2, ev⟩, q1⟩⟩
    · cases ho
      exact ⟨wanted_of (j := 2) (d := 186) (b := true) rfl rfl (hp 2 (of_decide_eq_true (by kernel_rfl)) (.inr (by decide))), op_move 5 rfl ⟨_, (), rfl, fun _ => Below.refl _ _, hI, fun u hu => (hu (fun h => by cases h)).trans s5⟩⟩
    · cases ho
      have q0 : a'.tmps[196]?.getD undef = .int .i64 size := by have h2 : a'.tmps.getD 196 undef = .int .i64 size := hp 12 (of_decide_eq_true (by kernel_rfl)) (.inr (by decide)); simpa using h2
      refine ⟨wanted_of (j := 2) (d := 186) (b := true) rfl rfl (hp 2 (of_decide_eq_true (by kernel_rfl)) (.inr (by decide))), Oper.wp_mono (K := fun a'' w'' => a'' = a'.put (some 197) (.slice (some ⟨x.heap.size, 0, none⟩) 1 1) ∧ w'' = x.alloc (.cells #[.int .i64 size] 2)) ?_ ?_⟩
      · rintro _ _ ⟨rfl, rfl⟩
        exact ⟨_, (), rfl, fun _ => (Below.refl _ _).alloc (Nat.le_refl _) _, hI.alloc hI.size _, fun u hu => ⟨x.heap.size, hu (fun h => by cases h), Boxed.new _ _ _⟩⟩
      · unfold Oper.wp
        simp [go_sem, q0]
    · cases ho
      obtain ⟨⟨a2, c2, e30⟩, h30⟩ := hp 11 (of_decide_eq_true (by kernel_rfl)) (.inl rfl)
      have e30 : a'.tmps.getD 195 undef = .slice a2 lj c2 := e30
      have h30 : IRow w21.heap.size x (a'.tmps.getD 195 undef) l := h30
      rw [e30] at h30
      obtain ⟨n32, e32, h32⟩ := hp 13 (of_decide_eq_true (by kernel_rfl)) (.inl rfl)
      have e32 : a'.tmps.getD 197 undef = .slice (some ⟨n32, 0, none⟩) 1 1 := e32
      have hin : IntsAt x (some ⟨n32, 0, none⟩) [size] := fun k hk => ⟨n32, 0, rfl, h32.under, by obtain rfl : k = 0 := (by simpa using hk); exact h32.cell 0 rfl⟩
      refine ⟨wanted_of (j := 2) (d := 186) (b := true) rfl rfl (hp 2 (of_decide_eq_true (by kernel_rfl)) (.inr (by decide))), int_op_app (.tmp 195) (.tmp 197) rfl w21.heap.size (.slice a2 lj c2) l (some ⟨n32, 0, none⟩) 1 1 [size] rfl (by simpa [Act.eval] using e30) (by simpa [Act.eval] using e32) h30 hin (fun h => by cases h) (by simp only [List.length_singleton]; omega) hI.size ?_⟩
      intro v' z q1 q2 _ _
      rw [← HL.out] at q1
      obtain ⟨a3, c3, ev⟩ := q1.shape
      rw [Hkk.out] at ev
      exact ⟨_, (), rfl, fun h => absurd rfl h, hI.trans q2, fun u hu => by rw [hu (fun h => by cases h)]; exact ⟨⟨a3, c3, ev⟩, q1⟩⟩
    · cases ho
      have q0 : a'.tmps[187]?.getD undef = .slice oa kk oc := by have h2 : a'.tmps.getD 187 undef = .slice oa kk oc := hp 3 (of_decide_eq_true (by kernel_rfl)) (.inr (by decide)); simpa using h2
      obtain ⟨⟨a2, c2, e33⟩, h33⟩ := hp 14 (of_decide_eq_true (by kernel_rfl)) (.inl rfl)
      have e33 : a'.tmps.getD 198 undef = .slice a2 kk c2 := e33
      have h33 : IRow w21.heap.size x (a'.tmps.getD 198 undef) L := h33
      rw [e33, ← Hkk.out] at h33
      have q1 : a'.tmps[198]?.getD undef = .slice a2 kk c2 := by simpa using e33
      refine ⟨wanted_of (j := 2) (d := 186) (b := true) rfl rfl (hp 2 (of_decide_eq_true (by kernel_rfl)) (.inr (by decide))), op_callB (by simp [execOp, resolve, Deferred.ofValue, invoke, Act.eval, q0, q1]) (LI'.out x a2 c2 FX.2.1 h33.ints) ?_⟩
      rintro e z ⟨rfl, hb⟩
      exact ⟨_, rfl, _, (), rfl, fun _ => hb, hI.trans (hb.mono hI.size), fun u hu => hu (fun h => by cases h)⟩
    · cases ho
      have q0 : a'.tmps[186]?.getD undef = .bool true := by have h2 : a'.tmps.getD 186 undef = .bool true := hp 2 (of_decide_eq_true (by kernel_rfl)) (.inr (by decide)); simpa using h2
      have q1 : a'.tmps[199]?.getD undef = .bool true := by have h2 : a'.tmps.getD 199 undef = .bool true := hp 15 (of_decide_eq_true (by kernel_rfl)) (.inr (by decide)); simpa using h2
      refine ⟨wanted_none rfl, Oper.wp_mono (K := fun a'' w'' => a'' = a'.put (some 200) (.bool true) ∧ w'' = x) ?_ ?_⟩
      · rintro _ _ ⟨rfl, rfl⟩
        exact ⟨_, (), rfl, fun _ => Below.refl _ _, hI, fun u hu => hu (fun h => by cases h)⟩
      · unfold Oper.wp
        simp [go_sem, q0, q1]
    · cases ho
      exact ⟨wanted_none rfl, op_move 200 rfl ⟨_, (), rfl, fun _ => Below.refl _ _, hI, fun u hu => (hu (fun h => by cases h)).trans (hp 16 (of_decide_eq_true (by kernel_rfl)) (.inr (by decide)))⟩⟩
    · cases ho
      exact ⟨wanted_of (j := 17) (d := 201) (b := true) rfl rfl (hp 17 (of_decide_eq_true (by kernel_rfl)) (.inr (by decide))), wp_load_row 26 (.tmp 6) rfl gx s6 _ _ _ _ (FX.1.at 0 rfl) Try.underlying26 rfl (by kernel_rfl) ⟨_, (), rfl, fun _ => Below.refl _ _, hI, fun u hu => hu (fun h => by cases h)⟩⟩
    · cases ho
      exact ⟨wanted_of (j := 17) (d := 201) (b := true) rfl rfl (hp 17 (of_decide_eq_true (by kernel_rfl)) (.inr (by decide))), op_move 4 rfl ⟨_, (), rfl, fun _ => Below.refl _ _, hI, fun u hu => (hu (fun h => by cases h)).trans s4⟩⟩
    · cases ho
      have q0 : a'.tmps[202]?.getD undef = .agg #[.int .i64 xf, .slice xp xn xq] := by have h2 : a'.tmps.getD 202 undef = .agg #[.int .i64 xf, .slice xp xn xq] := hp 18 (of_decide_eq_true (by kernel_rfl)) (.inr (by decide)); simpa using h2
      have q1 : a'.tmps[203]?.getD undef = .int .i64 (F : Int) := by have h2 : a'.tmps.getD 203 undef = .int .i64 (F : Int) := hp 19 (of_decide_eq_true (by kernel_rfl)) (.inr (by decide)); simpa using h2
      refine ⟨wanted_of (j := 17) (d := 201) (b := true) rfl rfl (hp 17 (of_decide_eq_true (by kernel_rfl)) (.inr (by decide))), op_callB (by simp [execOp, resolve, Deferred.ofValue, invoke, Act.eval, q0, q1]) (BX'.out x (FX.1.is 0 rfl)) ?_⟩
      rintro e z ⟨rfl, hb⟩
      exact ⟨_, rfl, _, (), rfl, fun _ => hb, hI.trans (hb.mono hI.size), fun u hu => hu (fun h => by cases h)⟩
    · cases ho
      have q5 : a'.tmps[6]?.getD undef = .pointer (some ⟨gx, 0, none⟩) := by simpa using s6
      refine ⟨wanted_of (j := 17) (d := 201) (b := true) rfl rfl (hp 17 (of_decide_eq_true (by kernel_rfl)) (.inr (by decide))), Oper.wp_mono (K := fun a'' w'' => a'' = a'.put (some 205) (.pointer (some ⟨gx, 0, none⟩)) ∧ w'' = x) ?_ ?_⟩
      · rintro _ _ ⟨rfl, rfl⟩
        exact ⟨_, (), rfl, fun _ => Below.refl _ _, hI, fun u hu => hu (fun h => by cases h)⟩
      · unfold Oper.wp
        simp [go_sem, q5]
    · cases ho
      have q0 : a'.tmps[205]?.getD undef = .pointer (some ⟨gx, 0, none⟩) := by have h2 : a'.tmps.getD 205 undef = .pointer (some ⟨gx, 0, none⟩) := hp 21 (of_decide_eq_true (by kernel_rfl)) (.inr (by decide)); simpa using h2
      have c9 : x.cell? ⟨gx, 0, none⟩ = some (.int .i64 xf) := (FX.1.at 0 rfl).cell 0 rfl
      refine ⟨wanted_of (j := 17) (d := 201) (b := true) rfl rfl (hp 17 (of_decide_eq_true (by kernel_rfl)) (.inr (by decide))), Oper.wp_mono (K := fun a'' w'' => a'' = a'.put (some 206) (.int .i64 xf) ∧ w'' = x) ?_ ?_⟩
      · rintro _ _ ⟨rfl, rfl⟩
        exact ⟨_, (), rfl, fun _ => Below.refl _ _, hI, fun u hu => hu (fun h => by cases h)⟩
      · unfold Oper.wp
        simp [go_sem, q0, c9]
    · cases ho
      have q0 : a'.tmps[204]?.getD undef = .int .i64 bgx := by have h2 : a'.tmps.getD 204 undef = .int .i64 bgx := hp 20 (of_decide_eq_true (by kernel_rfl)) (.inr (by decide)); simpa using h2
      have q1 : a'.tmps[206]?.getD undef = .int .i64 xf := by have h2 : a'.tmps.getD 206 undef = .int .i64 xf := hp 22 (of_decide_eq_true (by kernel_rfl)) (.inr (by decide)); simpa using h2
      have g3' : xf ≤ bgx := g3
      refine ⟨wanted_of (j := 17) (d := 201) (b := true) rfl rfl (hp 17 (of_decide_eq_true (by kernel_rfl)) (.inr (by decide))), Oper.wp_mono (K := fun a'' w'' => a'' = a'.put (some 207) (.bool true) ∧ w'' = x) ?_ ?_⟩
      · rintro _ _ ⟨rfl, rfl⟩
        exact ⟨_, (), rfl, fun _ => Below.refl _ _, hI, fun u hu => hu (fun h => by cases h)⟩
      · unfold Oper.wp
        simp [go_sem, q0, q1, g3']
    · cases ho
      have q0 : a'.tmps[201]?.getD undef = .bool true := by have h2 : a'.tmps.getD 201 undef = .bool true := hp 17 (of_decide_eq_true (by kernel_rfl)) (.inr (by decide)); simpa using h2
      have q1 : a'.tmps[207]?.getD undef = .bool true := by have h2 : a'.tmps.getD 207 undef = .bool true := hp 23 (of_decide_eq_true (by kernel_rfl)) (.inr (by decide)); simpa using h2
      refine ⟨wanted_none rfl, Oper.wp_mono (K := fun a'' w'' => a'' = a'.put (some 208) (.bool true) ∧ w'' = x) ?_ ?_⟩
      · rintro _ _ ⟨rfl, rfl⟩
        exact ⟨_, (), rfl, fun _ => Below.refl _ _, hI, fun u hu => hu (fun h => by cases h)⟩
      · unfold Oper.wp
        simp [go_sem, q0, q1]
    · cases ho
      exact ⟨wanted_none rfl, opAssign 208 rfl ⟨_, (), rfl, fun _ => Below.refl _ _, hI, fun u hu => (hu (fun h => by cases h)).trans (hp 24 (of_decide_eq_true (by kernel_rfl)) (.inr (by decide)))⟩⟩
  case last =>
  intro L' a' y x hall hkp hI hp
  have e2 : a'.tmps.getD 2 undef = .bool true := hp 25 (by decide) (by decide)
  have ha := hkp.pick [true, true, false, true, true, true, true, true, true, true, true, true, true, true, true, true, true, true, true, true, true, true, true, true, true, true, true, true, true, true, true, true, true, true, true, true, true, true, true, true, true, true, true, true, true, true, true, true, true, true, true, true, true, true, true, true, true, true, true, true, true, true, true, true, true, true, true, true, true, true, true, true, true, true, true, true, true, true, true, true, true, true, true, true, true, true, true, true, true, true, true, true, true, true, true, true, true, true, true, true, true, true, true, true, true, true, true, true, true, true, true, true, true, true, true, true, true, true, true, true, true, true, true, true, true, true, true, true, true, true, true, true, true, true, true, true, true, true, true, true, true, true, true, true, true, true, true, true, true, true, true, true, true, true, true, true, true, true, true, true, true, true, true, true, true, true, true, true, true, true, true, true, true, true, true, true, true, true, true, true, true, true, true, true, false, false, false, false, false, false, false, false, false, false, false, false, false, false, false, false, false, false, false, false, false, false, false, false, false] (by kernel_rfl)
  simp only [pickS] at ha
  rw [e2] at ha
  have Bl : Hid (Below w.heap.size w x) := (RX.out x hI).1.bel
  clear hp hkp hI hall e2 RX
  generalize a'.tmps.getD 184 undef = y184 at ha
  generalize a'.tmps.getD 185 undef = y185 at ha
  generalize a'.tmps.getD 186 undef = y186 at ha
  generalize a'.tmps.getD 187 undef = y187 at ha
  generalize a'.tmps.getD 188 undef = y188 at ha
  generalize a'.tmps.getD 189 undef = y189 at ha
  generalize a'.tmps.getD 190 undef = y190 at ha
  generalize a'.tmps.getD 191 undef = y191 at ha
  generalize a'.tmps.getD 192 undef = y192 at ha
  generalize a'.tmps.getD 193 undef = y193 at ha
  generalize a'.tmps.getD 194 undef = y194 at ha
  generalize a'.tmps.getD 195 undef = y195 at ha
  generalize a'.tmps.getD 196 undef = y196 at ha
  generalize a'.tmps.getD 197 undef = y197 at ha
  generalize a'.tmps.getD 198 undef = y198 at ha
  generalize a'.tmps.getD 199 undef = y199 at ha
  generalize a'.tmps.getD 200 undef = y200 at ha
  generalize a'.tmps.getD 201 undef = y201 at ha
  generalize a'.tmps.getD 202 undef = y202 at ha
  generalize a'.tmps.getD 203 undef = y203 at ha
  generalize a'.tmps.getD 204 undef = y204 at ha
  generalize a'.tmps.getD 205 undef = y205 at ha
  generalize a'.tmps.getD 206 undef = y206 at ha
  generalize a'.tmps.getD 207 undef = y207 at ha
  generalize a'.tmps.getD 208 undef = y208 at ha
  rw [ha]
  clear ha
  go_wp2
  go_ret
  exact ⟨rfl, Bl.out⟩
end Go.Proofs.Ytllmkolchgmjoaa
