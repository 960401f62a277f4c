/-
  The walk of the law FnExactMarked. By the verifier.
-/
import Derived.Test.YteegbmgkjmpkhaaSumMark
import Derived.Test.YteegbmgkjmpkhaaSumMarkI
import Derived.Test.YteegbmgkjmpkhaaFrMarks
namespace Go.Proofs.Yteegbmgkjmpkhaa
open Go.RowKit

theorem markedOr_len (f : Fr) (m : Int) : (markedOr f m).1.tags.length ≤ 2 := by
  cases h : good f m
  · rw [markedOr_no h]; exact Nat.zero_le _
  · rw [markedOr_yes h]
    unfold good at h
    rw [Bool.and_eq_true, Bool.and_eq_true] at h
    exact (Fr.ok_tags h.1.1).1
/-- What lies in memory ahead of the marks. -/
structure Mem (w w5 : World) (Bw Bx Bg b6 : Nat) (n5 n7 : Nat) (CL CW CX CG : Array Value) (sx sg : Value) (tags rt : List Int) (wc : World) : Prop where
  law : Boxed wc w.heap.size CL 35
  wb : Boxed wc Bw CW 38
  xb : Boxed wc Bx CX 38
  gb : Boxed wc Bg CG 38
  xr : IRow n5 wc sx tags
  gr : IRow n7 wc sg rt
  b5 : Below n5 w5 wc
  bel : Below w.heap.size w wc
theorem Mem.go {w w5 : World} {Bw Bx Bg b6 n5 n7 : Nat} {CL CW CX CG : Array Value} {sx sg : Value} {tags rt : List Int} {wc wd : World} (h : Mem w w5 Bw Bx Bg b6 n5 n7 CL CW CX CG sx sg tags rt wc) (h5 : n5 ≤ wc.heap.size) (g : Below wc.heap.size wc wd) : Mem w w5 Bw Bx Bg b6 n5 n7 CL CW CX CG sx sg tags rt wd :=
  ⟨h.law.below h.law.under g, h.wb.below h.wb.under g, h.xb.below h.xb.under g, h.gb.below h.gb.under g, h.xr.carry fun k _ hk => g.block k hk, h.gr.carry fun k _ hk => g.block k hk, h.b5.trans (g.mono h5), h.bel.trans (g.mono h.bel.size)⟩

set_option maxHeartbeats 12800000 in
set_option maxRecDepth 100000 in
theorem fnExactMarked_walk (f : Fr) (a : Option Addr) (cap : Nat) (m : Int) (w : World) (hl : (f.tags.length : Int) ≤ 9223372036854775807) (hB : (f.body.size : Int) ≤ 9223372036854775807) (hc : Hid (IntsAt w a f.tags)) :
    Calls Try.prog 8 #[f.val a cap, .int .i64 m] w fun e w' => e = .returned (.bool true) ∧ Below w.heap.size w w' := by
  have Z := fun w1 => szFrames f a cap w1 hl hB
  have C := fun w1 (h : f.tags.length ≤ 1048576) (g : Hid (IntsAt w1 a f.tags)) => toFramesR f a cap w1 h g
  have S : ∀ b w1 (h : f.tags.length ≤ 1048576) (g : Hid (IntsAt w1 (some ⟨b, 0, none⟩) f.tags)), Calls Try.prog 23 #[f.val (some ⟨b, 0, none⟩) f.tags.length, .int .i64 m] w1 (fun e w' => ∃ a' cap', e = .returned (.tuple #[(markedOr f m).1.val a' cap', .bool (markedOr f m).2]) ∧ IRow w1.heap.size w' (.slice a' (markedOr f m).1.tags.length cap') (markedOr f m).1.tags ∧ Below w1.heap.size w1 w') := fun b w1 h g => specMarked f m (some ⟨b, 0, none⟩) f.tags.length w1 h g
  have I : ∀ b w1 (h : f.tags.length ≤ 1048576) (g : Hid (IntsAt w1 (some ⟨b, 0, none⟩) f.tags)), Calls Try.prog 24 #[f.val (some ⟨b, 0, none⟩) f.tags.length, .int .i64 m] w1 (fun e w' => ∃ a' cap', e = .returned (.tuple #[(markedOr f m).1.val a' cap', .bool (markedOr f m).2]) ∧ IRow w1.heap.size w' (.slice a' (markedOr f m).1.tags.length cap') (markedOr f m).1.tags ∧ Below w1.heap.size w1 w') := fun b w1 h g => implMarked f m (some ⟨b, 0, none⟩) f.tags.length w1 h g
  have Ef := fun b1 b2 w1 (h : f.tags.length ≤ 1048576) (g1 : Hid (IntsAt w1 (some ⟨b1, 0, none⟩) f.tags)) (g2 : Hid (IntsAt w1 (some ⟨b2, 0, none⟩) f.tags)) => eqFrames f (some ⟨b1, 0, none⟩) (some ⟨b2, 0, none⟩) f.tags.length f.tags.length w1 h g1 g2
  have Mx := fun base b w1 (h : f.tags.length ≤ 1048576) hb (g : Hid (IRow base w1 (.slice (some ⟨b, 0, none⟩) f.tags.length f.tags.length) f.tags)) => markFr base f (some ⟨b, 0, none⟩) f.tags.length h w1 hb g
  have hrl := markedOr_len f m
  generalize (markedOr f m).2 = yes at S I
  generalize (markedOr f m).1 = r at S I hrl
  have E := fun a1 cap1 a2 cap2 w1 (h1 : Hid (IntsAt w1 a1 r.tags)) (h2 : Hid (IntsAt w1 a2 r.tags)) => eqFrames r a1 a2 cap1 cap2 w1 (by omega) h1 h2
  have M := fun base a cap w1 hb (h : Hid (IRow base w1 (.slice a r.tags.length cap) r.tags)) => markFr base r a cap (by omega) w1 hb h
  have D := fun a cap w1 (h : Hid (IntsAt w1 a (mks 1 r.tags r.tags.length))) => heldFr r a cap (by omega) w1 h
  obtain ⟨tt, frm, tags, src, dst, proto, sport, dport, mark, sum, body⟩ := f
  obtain ⟨r0, r1, rt, r3, r4, r5, r6, r7, r8, r9, rb⟩ := r
  simp only [Fr.val] at Z C S I Ef Mx E M D hl hB hc hrl ⊢
  have Z' : Hid _ := Z
  have C' : Hid _ := C
  have S' : Hid _ := S
  have I' : Hid _ := I
  have Ef' : Hid _ := Ef
  have Mx' : Hid _ := Mx
  have E' : Hid _ := E
  have M' : Hid _ := M
  have D' : Hid _ := D
  clear Z C S I Ef Mx E M D
  go_enter Try.func8, Try.ntmps8
  go_upto_region 1 with fail
  have hx := Boxed.new w #[.int .i64 tt, .int .i64 frm, .slice a tags.length cap, .int .i64 src, .int .i64 dst, .int .i64 proto, .int .i64 sport, .int .i64 dport, .int .i64 mark, .int .i64 sum, .string body] 35
  have bel1 : Below w.heap.size w (w.alloc (.cells #[.int .i64 tt, .int .i64 frm, .slice a tags.length cap, .int .i64 src, .int .i64 dst, .int .i64 proto, .int .i64 sport, .int .i64 dport, .int .i64 mark, .int .i64 sum, .string body] 35)) := (Below.refl _ _).alloc (Nat.le_refl _) _
  generalize w.alloc (.cells #[.int .i64 tt, .int .i64 frm, .slice a tags.length cap, .int .i64 src, .int .i64 dst, .int .i64 proto, .int .i64 sport, .int .i64 dport, .int .i64 mark, .int .i64 sum, .string body] 35) = w1 at hx bel1 ⊢
  have H1 : Hid (Boxed w1 w.heap.size #[.int .i64 tt, .int .i64 frm, .slice a tags.length cap, .int .i64 src, .int .i64 dst, .int .i64 proto, .int .i64 sport, .int .i64 dport, .int .i64 mark, .int .i64 sum, .string body] 35 ∧ Below w.heap.size w w1) := ⟨hx, bel1⟩
  clear hx bel1
  go_wp2_with (refine wpList_load_row rfl 35 (.tmp 2) rfl w.heap.size rfl _ _ _ _ H1.out.1 Try.underlying35 rfl (by kernel_rfl) ?_)
  refine (Z'.out w1).mono ?_
  rintro e w2 ⟨n, rfl, hn, b2⟩
  have H2 : Hid (Boxed w2 w.heap.size #[.int .i64 tt, .int .i64 frm, .slice a tags.length cap, .int .i64 src, .int .i64 dst, .int .i64 proto, .int .i64 sport, .int .i64 dport, .int .i64 mark, .int .i64 sum, .string body] 35 ∧ Below w.heap.size w w2) := ⟨H1.out.1.below H1.out.1.under b2, H1.out.2.trans (b2.mono H1.out.2.size)⟩
  clear b2 H1
  by_cases hneg : n < 0
  · go_wp2
    go_ret
    exact ⟨rfl, H2.out.2⟩
  have hlen := (hn (by omega)).1
  clear hn
  go_wp2_with (refine wpList_load_row rfl 35 (.tmp 2) rfl w.heap.size rfl _ _ _ _ H2.out.1 Try.underlying35 rfl (by kernel_rfl) ?_)
  refine (C'.out w2 hlen (hc.out.below H2.out.2)).mono ?_
  rintro e w3 ⟨b3, rfl, i3, be3⟩
  have H3 : Hid (Boxed w3 w.heap.size #[.int .i64 tt, .int .i64 frm, .slice a tags.length cap, .int .i64 src, .int .i64 dst, .int .i64 proto, .int .i64 sport, .int .i64 dport, .int .i64 mark, .int .i64 sum, .string body] 35 ∧ Below w.heap.size w w3 ∧ IntsAt w3 (some ⟨b3, 0, none⟩) tags) := ⟨H2.out.1.below H2.out.1.under be3, H2.out.2.trans (be3.mono H2.out.2.size), i3.ints⟩
  clear i3 be3 H2
  go_wp2_with fail
  refine (S'.out b3 w3 hlen H3.out.2.2).mono ?_
  rintro e w4 ⟨a4, cap4, rfl, i4, be4⟩
  have H4 : Hid (Boxed w4 w.heap.size #[.int .i64 tt, .int .i64 frm, .slice a tags.length cap, .int .i64 src, .int .i64 dst, .int .i64 proto, .int .i64 sport, .int .i64 dport, .int .i64 mark, .int .i64 sum, .string body] 35 ∧ Below w.heap.size w w4 ∧ IntsAt w4 a4 rt) := ⟨H3.out.1.below H3.out.1.under be4, H3.out.2.1.trans (be4.mono H3.out.2.1.size), i4.ints⟩
  clear i4 be4 H3
  go_upto_region 6 with fail
  have x5 := Boxed.new w4 #[.int .i64 r0, .int .i64 r1, .slice a4 rt.length cap4, .int .i64 r3, .int .i64 r4, .int .i64 r5, .int .i64 r6, .int .i64 r7, .int .i64 r8, .int .i64 r9, .string rb] 38
  have g5 : Below w4.heap.size w4 (w4.alloc (.cells #[.int .i64 r0, .int .i64 r1, .slice a4 rt.length cap4, .int .i64 r3, .int .i64 r4, .int .i64 r5, .int .i64 r6, .int .i64 r7, .int .i64 r8, .int .i64 r9, .string rb] 38)) := (Below.refl _ _).alloc (Nat.le_refl _) _
  generalize w4.alloc (.cells #[.int .i64 r0, .int .i64 r1, .slice a4 rt.length cap4, .int .i64 r3, .int .i64 r4, .int .i64 r5, .int .i64 r6, .int .i64 r7, .int .i64 r8, .int .i64 r9, .string rb] 38) = w5 at x5 g5 ⊢
  have H5 : Hid (Boxed w5 w.heap.size #[.int .i64 tt, .int .i64 frm, .slice a tags.length cap, .int .i64 src, .int .i64 dst, .int .i64 proto, .int .i64 sport, .int .i64 dport, .int .i64 mark, .int .i64 sum, .string body] 35 ∧ Below w.heap.size w w5 ∧ IntsAt w5 a4 rt ∧ Boxed w5 w4.heap.size #[.int .i64 r0, .int .i64 r1, .slice a4 rt.length cap4, .int .i64 r3, .int .i64 r4, .int .i64 r5, .int .i64 r6, .int .i64 r7, .int .i64 r8, .int .i64 r9, .string rb] 38) := ⟨H4.out.1.below H4.out.1.under g5, H4.out.2.1.trans (g5.mono H4.out.2.1.size), H4.out.2.2.below g5, x5⟩
  clear x5 g5 H4
  go_wp2_with (refine wpList_load_row rfl 35 (.tmp 2) rfl w.heap.size rfl _ _ _ _ H5.out.1 Try.underlying35 rfl (by kernel_rfl) ?_)
  refine (C'.out w5 hlen (hc.out.below H5.out.2.1)).mono ?_
  rintro e w6 ⟨b6, rfl, i6, be6⟩
  have H6 : Hid (Boxed w6 w.heap.size #[.int .i64 tt, .int .i64 frm, .slice a tags.length cap, .int .i64 src, .int .i64 dst, .int .i64 proto, .int .i64 sport, .int .i64 dport, .int .i64 mark, .int .i64 sum, .string body] 35 ∧ Below w.heap.size w w6 ∧ Below w5.heap.size w5 w6 ∧ Boxed w6 w4.heap.size #[.int .i64 r0, .int .i64 r1, .slice a4 rt.length cap4, .int .i64 r3, .int .i64 r4, .int .i64 r5, .int .i64 r6, .int .i64 r7, .int .i64 r8, .int .i64 r9, .string rb] 38 ∧ IRow w5.heap.size w6 (.slice (some ⟨b6, 0, none⟩) tags.length tags.length) tags) := ⟨H5.out.1.below H5.out.1.under be6, H5.out.2.1.trans (be6.mono H5.out.2.1.size), be6, H5.out.2.2.2.below H5.out.2.2.2.under be6, i6⟩
  clear i6 be6
  have hb6 : b6 < w6.heap.size := (World.ownsRow.lt H6.out.2.2.2.2 b6 rfl).2
  go_upto_region 7 with fail
  have x7 := Boxed.new w6 #[.int .i64 tt, .int .i64 frm, .slice (some ⟨b6, 0, none⟩) tags.length tags.length, .int .i64 src, .int .i64 dst, .int .i64 proto, .int .i64 sport, .int .i64 dport, .int .i64 mark, .int .i64 sum, .string body] 38
  have g7 : Below w6.heap.size w6 (w6.alloc (.cells #[.int .i64 tt, .int .i64 frm, .slice (some ⟨b6, 0, none⟩) tags.length tags.length, .int .i64 src, .int .i64 dst, .int .i64 proto, .int .i64 sport, .int .i64 dport, .int .i64 mark, .int .i64 sum, .string body] 38)) := (Below.refl _ _).alloc (Nat.le_refl _) _
  generalize w6.alloc (.cells #[.int .i64 tt, .int .i64 frm, .slice (some ⟨b6, 0, none⟩) tags.length tags.length, .int .i64 src, .int .i64 dst, .int .i64 proto, .int .i64 sport, .int .i64 dport, .int .i64 mark, .int .i64 sum, .string body] 38) = w7 at x7 g7 ⊢
  have s67 : w6.heap.size ≤ w7.heap.size := g7.size
  have H7 : Hid (Boxed w7 w.heap.size #[.int .i64 tt, .int .i64 frm, .slice a tags.length cap, .int .i64 src, .int .i64 dst, .int .i64 proto, .int .i64 sport, .int .i64 dport, .int .i64 mark, .int .i64 sum, .string body] 35 ∧ Below w.heap.size w w7 ∧ Below w5.heap.size w5 w7 ∧ Boxed w7 w4.heap.size #[.int .i64 r0, .int .i64 r1, .slice a4 rt.length cap4, .int .i64 r3, .int .i64 r4, .int .i64 r5, .int .i64 r6, .int .i64 r7, .int .i64 r8, .int .i64 r9, .string rb] 38 ∧ IRow w5.heap.size w7 (.slice (some ⟨b6, 0, none⟩) tags.length tags.length) tags ∧ Boxed w7 w6.heap.size #[.int .i64 tt, .int .i64 frm, .slice (some ⟨b6, 0, none⟩) tags.length tags.length, .int .i64 src, .int .i64 dst, .int .i64 proto, .int .i64 sport, .int .i64 dport, .int .i64 mark, .int .i64 sum, .string body] 38) := ⟨H6.out.1.below H6.out.1.under g7, H6.out.2.1.trans (g7.mono H6.out.2.1.size), H6.out.2.2.1.trans (g7.mono H6.out.2.2.1.size), H6.out.2.2.2.1.below H6.out.2.2.2.1.under g7, H6.out.2.2.2.2.carry fun k _ hk => g7.block k hk, x7⟩
  clear x7 g7 H6
  go_wp2_with (refine wpList_load_row rfl 38 (.tmp 8) rfl w6.heap.size rfl _ _ _ _ H7.out.2.2.2.2.2 Try.underlying38 rfl (by kernel_rfl) ?_)
  refine (I'.out b6 w7 hlen H7.out.2.2.2.2.1.ints).mono ?_
  rintro e w8 ⟨a8, cap8, rfl, i8, be8⟩
  have H8 : Hid (Boxed w8 w.heap.size #[.int .i64 tt, .int .i64 frm, .slice a tags.length cap, .int .i64 src, .int .i64 dst, .int .i64 proto, .int .i64 sport, .int .i64 dport, .int .i64 mark, .int .i64 sum, .string body] 35 ∧ Below w.heap.size w w8 ∧ Below w5.heap.size w5 w8 ∧ Boxed w8 w4.heap.size #[.int .i64 r0, .int .i64 r1, .slice a4 rt.length cap4, .int .i64 r3, .int .i64 r4, .int .i64 r5, .int .i64 r6, .int .i64 r7, .int .i64 r8, .int .i64 r9, .string rb] 38 ∧ IRow w5.heap.size w8 (.slice (some ⟨b6, 0, none⟩) tags.length tags.length) tags ∧ Boxed w8 w6.heap.size #[.int .i64 tt, .int .i64 frm, .slice (some ⟨b6, 0, none⟩) tags.length tags.length, .int .i64 src, .int .i64 dst, .int .i64 proto, .int .i64 sport, .int .i64 dport, .int .i64 mark, .int .i64 sum, .string body] 38 ∧ IRow w7.heap.size w8 (.slice a8 rt.length cap8) rt ∧ w7.heap.size ≤ w8.heap.size) := ⟨H7.out.1.below H7.out.1.under be8, H7.out.2.1.trans (be8.mono H7.out.2.1.size), H7.out.2.2.1.trans (be8.mono H7.out.2.2.1.size), H7.out.2.2.2.1.below H7.out.2.2.2.1.under be8, H7.out.2.2.2.2.1.carry fun k _ hk => be8.block k hk, H7.out.2.2.2.2.2.below H7.out.2.2.2.2.2.under be8, i8, be8.size⟩
  clear i8 be8
  go_upto_region 8 with fail
  have x9 := Boxed.new w8 #[.int .i64 r0, .int .i64 r1, .slice a8 rt.length cap8, .int .i64 r3, .int .i64 r4, .int .i64 r5, .int .i64 r6, .int .i64 r7, .int .i64 r8, .int .i64 r9, .string rb] 38
  have g9 : Below w8.heap.size w8 (w8.alloc (.cells #[.int .i64 r0, .int .i64 r1, .slice a8 rt.length cap8, .int .i64 r3, .int .i64 r4, .int .i64 r5, .int .i64 r6, .int .i64 r7, .int .i64 r8, .int .i64 r9, .string rb] 38)) := (Below.refl _ _).alloc (Nat.le_refl _) _
  generalize w8.alloc (.cells #[.int .i64 r0, .int .i64 r1, .slice a8 rt.length cap8, .int .i64 r3, .int .i64 r4, .int .i64 r5, .int .i64 r6, .int .i64 r7, .int .i64 r8, .int .i64 r9, .string rb] 38) = w9 at x9 g9 ⊢
  have s89 : w8.heap.size ≤ w9.heap.size := g9.size
  have s57 : w5.heap.size ≤ w7.heap.size := H7.out.2.2.1.size
  have s78 : w7.heap.size ≤ w8.heap.size := H8.out.2.2.2.2.2.2.2
  have A4 : Hid (∀ wd, Below w5.heap.size w5 wd → IntsAt wd a4 rt) := fun wd g => H5.out.2.2.1.below g
  have X9 : Hid (Mem w w5 w4.heap.size w6.heap.size w8.heap.size b6 w5.heap.size w7.heap.size (#[.int .i64 tt, .int .i64 frm, .slice a tags.length cap, .int .i64 src, .int .i64 dst, .int .i64 proto, .int .i64 sport, .int .i64 dport, .int .i64 mark, .int .i64 sum, .string body]) (#[.int .i64 r0, .int .i64 r1, .slice a4 rt.length cap4, .int .i64 r3, .int .i64 r4, .int .i64 r5, .int .i64 r6, .int .i64 r7, .int .i64 r8, .int .i64 r9, .string rb]) (#[.int .i64 tt, .int .i64 frm, .slice (some ⟨b6, 0, none⟩) tags.length tags.length, .int .i64 src, .int .i64 dst, .int .i64 proto, .int .i64 sport, .int .i64 dport, .int .i64 mark, .int .i64 sum, .string body]) (#[.int .i64 r0, .int .i64 r1, .slice a8 rt.length cap8, .int .i64 r3, .int .i64 r4, .int .i64 r5, .int .i64 r6, .int .i64 r7, .int .i64 r8, .int .i64 r9, .string rb]) (.slice (some ⟨b6, 0, none⟩) tags.length tags.length) (.slice a8 rt.length cap8) tags rt w9) := ⟨H8.out.1.below H8.out.1.under g9, H8.out.2.2.2.1.below H8.out.2.2.2.1.under g9, H8.out.2.2.2.2.2.1.below H8.out.2.2.2.2.2.1.under g9, x9, H8.out.2.2.2.2.1.carry fun k _ hk => g9.block k hk, H8.out.2.2.2.2.2.2.1.carry fun k _ hk => g9.block k hk, H8.out.2.2.1.trans (g9.mono H8.out.2.2.1.size), H8.out.2.1.trans (g9.mono H8.out.2.1.size)⟩
  clear x9 g9 H8 H7
  go_wp2_with (first | (refine wpList_load_row rfl 38 (.tmp 9) rfl w8.heap.size rfl _ _ _ _ X9.out.gb Try.underlying38 rfl (by kernel_rfl) ?_) | (refine wpList_load_row rfl 38 (.tmp 6) rfl w4.heap.size rfl _ _ _ _ X9.out.wb Try.underlying38 rfl (by kernel_rfl) ?_))
  refine (E'.out a8 cap8 a4 cap4 w9 X9.out.gr.ints (A4.out w9 X9.out.b5)).mono ?_
  rintro e w10 ⟨rfl, be10⟩
  have X10 : Hid (Mem w w5 w4.heap.size w6.heap.size w8.heap.size b6 w5.heap.size w7.heap.size (#[.int .i64 tt, .int .i64 frm, .slice a tags.length cap, .int .i64 src, .int .i64 dst, .int .i64 proto, .int .i64 sport, .int .i64 dport, .int .i64 mark, .int .i64 sum, .string body]) (#[.int .i64 r0, .int .i64 r1, .slice a4 rt.length cap4, .int .i64 r3, .int .i64 r4, .int .i64 r5, .int .i64 r6, .int .i64 r7, .int .i64 r8, .int .i64 r9, .string rb]) (#[.int .i64 tt, .int .i64 frm, .slice (some ⟨b6, 0, none⟩) tags.length tags.length, .int .i64 src, .int .i64 dst, .int .i64 proto, .int .i64 sport, .int .i64 dport, .int .i64 mark, .int .i64 sum, .string body]) (#[.int .i64 r0, .int .i64 r1, .slice a8 rt.length cap8, .int .i64 r3, .int .i64 r4, .int .i64 r5, .int .i64 r6, .int .i64 r7, .int .i64 r8, .int .i64 r9, .string rb]) (.slice (some ⟨b6, 0, none⟩) tags.length tags.length) (.slice a8 rt.length cap8) tags rt w10) := X9.out.go (by omega) be10
  have s10 : w9.heap.size ≤ w10.heap.size := be10.size
  clear be10 X9
  go_upto_region 10 with fail
  have c0 : w10.cell? ⟨w6.heap.size, 0, none⟩ = some (.int .i64 tt) := X10.out.xb.cell 0 rfl
  have c1 : w10.cell? ⟨w6.heap.size, 1, none⟩ = some (.int .i64 frm) := X10.out.xb.cell 1 rfl
  have c2 : w10.cell? ⟨w6.heap.size, 2, none⟩ = some (.slice (some ⟨b6, 0, none⟩) tags.length tags.length) := X10.out.xb.cell 2 rfl
  have c3 : w10.cell? ⟨w6.heap.size, 3, none⟩ = some (.int .i64 src) := X10.out.xb.cell 3 rfl
  have c4 : w10.cell? ⟨w6.heap.size, 4, none⟩ = some (.int .i64 dst) := X10.out.xb.cell 4 rfl
  have c5 : w10.cell? ⟨w6.heap.size, 5, none⟩ = some (.int .i64 proto) := X10.out.xb.cell 5 rfl
  have c6 : w10.cell? ⟨w6.heap.size, 6, none⟩ = some (.int .i64 sport) := X10.out.xb.cell 6 rfl
  have c7 : w10.cell? ⟨w6.heap.size, 7, none⟩ = some (.int .i64 dport) := X10.out.xb.cell 7 rfl
  have c8 : w10.cell? ⟨w6.heap.size, 8, none⟩ = some (.int .i64 mark) := X10.out.xb.cell 8 rfl
  have c9 : w10.cell? ⟨w6.heap.size, 9, none⟩ = some (.int .i64 sum) := X10.out.xb.cell 9 rfl
  have c10 : w10.cell? ⟨w6.heap.size, 10, none⟩ = some (.string body) := X10.out.xb.cell 10 rfl
  have d0 : w10.cell? ⟨w.heap.size, 0, none⟩ = some (.int .i64 tt) := X10.out.law.cell 0 rfl
  have d1 : w10.cell? ⟨w.heap.size, 1, none⟩ = some (.int .i64 frm) := X10.out.law.cell 1 rfl
  have d2 : w10.cell? ⟨w.heap.size, 2, none⟩ = some (.slice a tags.length cap) := X10.out.law.cell 2 rfl
  have d3 : w10.cell? ⟨w.heap.size, 3, none⟩ = some (.int .i64 src) := X10.out.law.cell 3 rfl
  have d4 : w10.cell? ⟨w.heap.size, 4, none⟩ = some (.int .i64 dst) := X10.out.law.cell 4 rfl
  have d5 : w10.cell? ⟨w.heap.size, 5, none⟩ = some (.int .i64 proto) := X10.out.law.cell 5 rfl
  have d6 : w10.cell? ⟨w.heap.size, 6, none⟩ = some (.int .i64 sport) := X10.out.law.cell 6 rfl
  have d7 : w10.cell? ⟨w.heap.size, 7, none⟩ = some (.int .i64 dport) := X10.out.law.cell 7 rfl
  have d8 : w10.cell? ⟨w.heap.size, 8, none⟩ = some (.int .i64 mark) := X10.out.law.cell 8 rfl
  have d9 : w10.cell? ⟨w.heap.size, 9, none⟩ = some (.int .i64 sum) := X10.out.law.cell 9 rfl
  have d10 : w10.cell? ⟨w.heap.size, 10, none⟩ = some (.string body) := X10.out.law.cell 10 rfl
  go_cut [49] (fun s wc => Hid (s = .bool false ∧ Mem w w5 w4.heap.size w6.heap.size w8.heap.size b6 w5.heap.size w7.heap.size (#[.int .i64 tt, .int .i64 frm, .slice a tags.length cap, .int .i64 src, .int .i64 dst, .int .i64 proto, .int .i64 sport, .int .i64 dport, .int .i64 mark, .int .i64 sum, .string body]) (#[.int .i64 r0, .int .i64 r1, .slice a4 rt.length cap4, .int .i64 r3, .int .i64 r4, .int .i64 r5, .int .i64 r6, .int .i64 r7, .int .i64 r8, .int .i64 r9, .string rb]) (#[.int .i64 tt, .int .i64 frm, .slice (some ⟨b6, 0, none⟩) tags.length tags.length, .int .i64 src, .int .i64 dst, .int .i64 proto, .int .i64 sport, .int .i64 dport, .int .i64 mark, .int .i64 sum, .string body]) (#[.int .i64 r0, .int .i64 r1, .slice a8 rt.length cap8, .int .i64 r3, .int .i64 r4, .int .i64 r5, .int .i64 r6, .int .i64 r7, .int .i64 r8, .int .i64 r9, .string rb]) (.slice (some ⟨b6, 0, none⟩) tags.length tags.length) (.slice a8 rt.length cap8) tags rt wc))
  case first =>
    go_region_with (first | (go_at_call 20; refine (C'.out _ hlen ?_).mono ?_; exact hc.out.below X10.out.bel.drew; rintro e w11 ⟨b11, rfl, i11, be11⟩; have K11 : Hid (Mem w w5 w4.heap.size w6.heap.size w8.heap.size b6 w5.heap.size w7.heap.size (#[.int .i64 tt, .int .i64 frm, .slice a tags.length cap, .int .i64 src, .int .i64 dst, .int .i64 proto, .int .i64 sport, .int .i64 dport, .int .i64 mark, .int .i64 sum, .string body]) (#[.int .i64 r0, .int .i64 r1, .slice a4 rt.length cap4, .int .i64 r3, .int .i64 r4, .int .i64 r5, .int .i64 r6, .int .i64 r7, .int .i64 r8, .int .i64 r9, .string rb]) (#[.int .i64 tt, .int .i64 frm, .slice (some ⟨b6, 0, none⟩) tags.length tags.length, .int .i64 src, .int .i64 dst, .int .i64 proto, .int .i64 sport, .int .i64 dport, .int .i64 mark, .int .i64 sum, .string body]) (#[.int .i64 r0, .int .i64 r1, .slice a8 rt.length cap8, .int .i64 r3, .int .i64 r4, .int .i64 r5, .int .i64 r6, .int .i64 r7, .int .i64 r8, .int .i64 r9, .string rb]) (.slice (some ⟨b6, 0, none⟩) tags.length tags.length) (.slice a8 rt.length cap8) tags rt w11 ∧ IntsAt w11 (some ⟨b11, 0, none⟩) tags ∧ w10.heap.size ≤ w11.heap.size) := ⟨X10.out.go (by omega) ((Below.refl _ w10).drew.trans be11), i11.ints, be11.size⟩; clear i11 be11; have e0 : w11.cell? ⟨w6.heap.size, 0, none⟩ = some (.int .i64 tt) := K11.out.1.xb.cell 0 rfl; have e1 : w11.cell? ⟨w6.heap.size, 1, none⟩ = some (.int .i64 frm) := K11.out.1.xb.cell 1 rfl; have e2 : w11.cell? ⟨w6.heap.size, 2, none⟩ = some (.slice (some ⟨b6, 0, none⟩) tags.length tags.length) := K11.out.1.xb.cell 2 rfl; have e3 : w11.cell? ⟨w6.heap.size, 3, none⟩ = some (.int .i64 src) := K11.out.1.xb.cell 3 rfl; have e4 : w11.cell? ⟨w6.heap.size, 4, none⟩ = some (.int .i64 dst) := K11.out.1.xb.cell 4 rfl; have e5 : w11.cell? ⟨w6.heap.size, 5, none⟩ = some (.int .i64 proto) := K11.out.1.xb.cell 5 rfl; have e6 : w11.cell? ⟨w6.heap.size, 6, none⟩ = some (.int .i64 sport) := K11.out.1.xb.cell 6 rfl; have e7 : w11.cell? ⟨w6.heap.size, 7, none⟩ = some (.int .i64 dport) := K11.out.1.xb.cell 7 rfl; have e8 : w11.cell? ⟨w6.heap.size, 8, none⟩ = some (.int .i64 mark) := K11.out.1.xb.cell 8 rfl; have e9 : w11.cell? ⟨w6.heap.size, 9, none⟩ = some (.int .i64 sum) := K11.out.1.xb.cell 9 rfl; have e10 : w11.cell? ⟨w6.heap.size, 10, none⟩ = some (.string body) := K11.out.1.xb.cell 10 rfl) | (go_at_call 22; refine (Ef'.out b6 b11 _ hlen ?_ ?_).mono ?_; exact K11.out.1.xr.ints; exact K11.out.2.1; rintro e w12 ⟨rfl, be12⟩; have K12 : Hid (Mem w w5 w4.heap.size w6.heap.size w8.heap.size b6 w5.heap.size w7.heap.size (#[.int .i64 tt, .int .i64 frm, .slice a tags.length cap, .int .i64 src, .int .i64 dst, .int .i64 proto, .int .i64 sport, .int .i64 dport, .int .i64 mark, .int .i64 sum, .string body]) (#[.int .i64 r0, .int .i64 r1, .slice a4 rt.length cap4, .int .i64 r3, .int .i64 r4, .int .i64 r5, .int .i64 r6, .int .i64 r7, .int .i64 r8, .int .i64 r9, .string rb]) (#[.int .i64 tt, .int .i64 frm, .slice (some ⟨b6, 0, none⟩) tags.length tags.length, .int .i64 src, .int .i64 dst, .int .i64 proto, .int .i64 sport, .int .i64 dport, .int .i64 mark, .int .i64 sum, .string body]) (#[.int .i64 r0, .int .i64 r1, .slice a8 rt.length cap8, .int .i64 r3, .int .i64 r4, .int .i64 r5, .int .i64 r6, .int .i64 r7, .int .i64 r8, .int .i64 r9, .string rb]) (.slice (some ⟨b6, 0, none⟩) tags.length tags.length) (.slice a8 rt.length cap8) tags rt w12) := K11.out.1.go (by have := K11.out.2.2; omega) be12; clear be12))
    all_goals (go_wp2_with fail; go_meet; exact ⟨rfl, K12.out⟩)
  case rest =>
    obtain ⟨rfl, h12⟩ := hcut.out
    have X12 : Hid (Mem w w5 w4.heap.size w6.heap.size w8.heap.size b6 w5.heap.size w7.heap.size (#[.int .i64 tt, .int .i64 frm, .slice a tags.length cap, .int .i64 src, .int .i64 dst, .int .i64 proto, .int .i64 sport, .int .i64 dport, .int .i64 mark, .int .i64 sum, .string body]) (#[.int .i64 r0, .int .i64 r1, .slice a4 rt.length cap4, .int .i64 r3, .int .i64 r4, .int .i64 r5, .int .i64 r6, .int .i64 r7, .int .i64 r8, .int .i64 r9, .string rb]) (#[.int .i64 tt, .int .i64 frm, .slice (some ⟨b6, 0, none⟩) tags.length tags.length, .int .i64 src, .int .i64 dst, .int .i64 proto, .int .i64 sport, .int .i64 dport, .int .i64 mark, .int .i64 sum, .string body]) (#[.int .i64 r0, .int .i64 r1, .slice a8 rt.length cap8, .int .i64 r3, .int .i64 r4, .int .i64 r5, .int .i64 r6, .int .i64 r7, .int .i64 r8, .int .i64 r9, .string rb]) (.slice (some ⟨b6, 0, none⟩) tags.length tags.length) (.slice a8 rt.length cap8) tags rt wc) := h12
    clear hcut h12 X10 c0 c1 c2 c3 c4 c5 c6 c7 c8 c9 c10 d0 d1 d2 d3 d4 d5 d6 d7 d8 d9 d10
    have t12 : w5.heap.size ≤ wc.heap.size := X12.out.b5.size
    go_wp2_with (refine wpList_load_row rfl 38 (.tmp 8) rfl w6.heap.size rfl _ _ _ _ X12.out.xb Try.underlying38 rfl (by kernel_rfl) ?_)
    refine (Mx'.out w5.heap.size b6 wc hlen t12 X12.out.xr).mono ?_
    rintro e w13 ⟨rfl, r13, be13, o13⟩
    have X13 : Hid (Boxed w13 w.heap.size #[.int .i64 tt, .int .i64 frm, .slice a tags.length cap, .int .i64 src, .int .i64 dst, .int .i64 proto, .int .i64 sport, .int .i64 dport, .int .i64 mark, .int .i64 sum, .string body] 35 ∧ Boxed w13 w4.heap.size #[.int .i64 r0, .int .i64 r1, .slice a4 rt.length cap4, .int .i64 r3, .int .i64 r4, .int .i64 r5, .int .i64 r6, .int .i64 r7, .int .i64 r8, .int .i64 r9, .string rb] 38 ∧ Boxed w13 w8.heap.size #[.int .i64 r0, .int .i64 r1, .slice a8 rt.length cap8, .int .i64 r3, .int .i64 r4, .int .i64 r5, .int .i64 r6, .int .i64 r7, .int .i64 r8, .int .i64 r9, .string rb] 38 ∧ IRow w7.heap.size w13 (.slice a8 rt.length cap8) rt ∧ Below w5.heap.size w5 w13 ∧ Below w.heap.size w w13 ∧ w7.heap.size ≤ w13.heap.size) := by
      have q := X12.out.gb.under
      have ob : ∀ k, k ≠ b6 → k < wc.heap.size → w13.heap[k]? = wc.heap[k]? := fun k hk hk2 => o13.block k (by intro e; apply hk; simpa [Value.ownBlock] using e.symm) hk2
      refine ⟨X12.out.law.below (by have := H5.out.1.under; omega) be13, X12.out.wb.below H5.out.2.2.2.under be13, ?_, X12.out.gr.carry fun k hk hk2 => ob k (by omega) hk2, X12.out.b5.trans be13, X12.out.bel.trans (be13.mono (by have := H5.out.2.1.size; omega)), by have := be13.size; omega⟩
      unfold Boxed
      rw [ob _ (by omega) q]
      exact X12.out.gb
    clear r13 be13 o13 X12
    have k13 : ¬ 1 + (tags.length : Int) < 0 := by omega
    have f0 : w13.cell? ⟨w8.heap.size, 0, none⟩ = some (.int .i64 r0) := X13.out.2.2.1.cell 0 rfl
    have f1 : w13.cell? ⟨w8.heap.size, 1, none⟩ = some (.int .i64 r1) := X13.out.2.2.1.cell 1 rfl
    have f2 : w13.cell? ⟨w8.heap.size, 2, none⟩ = some (.slice a8 rt.length cap8) := X13.out.2.2.1.cell 2 rfl
    have f3 : w13.cell? ⟨w8.heap.size, 3, none⟩ = some (.int .i64 r3) := X13.out.2.2.1.cell 3 rfl
    have f4 : w13.cell? ⟨w8.heap.size, 4, none⟩ = some (.int .i64 r4) := X13.out.2.2.1.cell 4 rfl
    have f5 : w13.cell? ⟨w8.heap.size, 5, none⟩ = some (.int .i64 r5) := X13.out.2.2.1.cell 5 rfl
    have f6 : w13.cell? ⟨w8.heap.size, 6, none⟩ = some (.int .i64 r6) := X13.out.2.2.1.cell 6 rfl
    have f7 : w13.cell? ⟨w8.heap.size, 7, none⟩ = some (.int .i64 r7) := X13.out.2.2.1.cell 7 rfl
    have f8 : w13.cell? ⟨w8.heap.size, 8, none⟩ = some (.int .i64 r8) := X13.out.2.2.1.cell 8 rfl
    have f9 : w13.cell? ⟨w8.heap.size, 9, none⟩ = some (.int .i64 r9) := X13.out.2.2.1.cell 9 rfl
    have f10 : w13.cell? ⟨w8.heap.size, 10, none⟩ = some (.string rb) := X13.out.2.2.1.cell 10 rfl
    have g0 : w13.cell? ⟨w4.heap.size, 0, none⟩ = some (.int .i64 r0) := X13.out.2.1.cell 0 rfl
    have g1 : w13.cell? ⟨w4.heap.size, 1, none⟩ = some (.int .i64 r1) := X13.out.2.1.cell 1 rfl
    have g2 : w13.cell? ⟨w4.heap.size, 2, none⟩ = some (.slice a4 rt.length cap4) := X13.out.2.1.cell 2 rfl
    have g3 : w13.cell? ⟨w4.heap.size, 3, none⟩ = some (.int .i64 r3) := X13.out.2.1.cell 3 rfl
    have g4 : w13.cell? ⟨w4.heap.size, 4, none⟩ = some (.int .i64 r4) := X13.out.2.1.cell 4 rfl
    have g5 : w13.cell? ⟨w4.heap.size, 5, none⟩ = some (.int .i64 r5) := X13.out.2.1.cell 5 rfl
    have g6 : w13.cell? ⟨w4.heap.size, 6, none⟩ = some (.int .i64 r6) := X13.out.2.1.cell 6 rfl
    have g7 : w13.cell? ⟨w4.heap.size, 7, none⟩ = some (.int .i64 r7) := X13.out.2.1.cell 7 rfl
    have g8 : w13.cell? ⟨w4.heap.size, 8, none⟩ = some (.int .i64 r8) := X13.out.2.1.cell 8 rfl
    have g9 : w13.cell? ⟨w4.heap.size, 9, none⟩ = some (.int .i64 r9) := X13.out.2.1.cell 9 rfl
    have g10 : w13.cell? ⟨w4.heap.size, 10, none⟩ = some (.string rb) := X13.out.2.1.cell 10 rfl
    go_wp2_with fail
    clear f0 f1 f2 f3 f4 f5 f6 f7 f8 f9 f10 g0 g1 g2 g3 g4 g5 g6 g7 g8 g9 g10
    refine (E'.out a8 cap8 a4 cap4 w13 X13.out.2.2.2.1.ints (A4.out w13 X13.out.2.2.2.2.1)).mono ?_
    rintro e w14 ⟨rfl, be14⟩
    have X14 : Hid (Boxed w14 w.heap.size #[.int .i64 tt, .int .i64 frm, .slice a tags.length cap, .int .i64 src, .int .i64 dst, .int .i64 proto, .int .i64 sport, .int .i64 dport, .int .i64 mark, .int .i64 sum, .string body] 35 ∧ Boxed w14 w4.heap.size #[.int .i64 r0, .int .i64 r1, .slice a4 rt.length cap4, .int .i64 r3, .int .i64 r4, .int .i64 r5, .int .i64 r6, .int .i64 r7, .int .i64 r8, .int .i64 r9, .string rb] 38 ∧ Boxed w14 w8.heap.size #[.int .i64 r0, .int .i64 r1, .slice a8 rt.length cap8, .int .i64 r3, .int .i64 r4, .int .i64 r5, .int .i64 r6, .int .i64 r7, .int .i64 r8, .int .i64 r9, .string rb] 38 ∧ IRow w7.heap.size w14 (.slice a8 rt.length cap8) rt ∧ Below w5.heap.size w5 w14 ∧ Below w.heap.size w w14 ∧ w7.heap.size ≤ w14.heap.size) := ⟨X13.out.1.below X13.out.1.under be14, X13.out.2.1.below X13.out.2.1.under be14, X13.out.2.2.1.below X13.out.2.2.1.under be14, X13.out.2.2.2.1.carry fun k _ hk => be14.block k hk, X13.out.2.2.2.2.1.trans (be14.mono X13.out.2.2.2.2.1.size), X13.out.2.2.2.2.2.1.trans (be14.mono X13.out.2.2.2.2.2.1.size), Nat.le_trans X13.out.2.2.2.2.2.2 be14.size⟩
    clear be14 X13
    go_wp2_with (refine wpList_load_row rfl 38 (.tmp 9) rfl w8.heap.size rfl _ _ _ _ X14.out.2.2.1 Try.underlying38 rfl (by kernel_rfl) ?_)
    refine (M'.out w7.heap.size a8 cap8 w14 X14.out.2.2.2.2.2.2 X14.out.2.2.2.1).mono ?_
    rintro e w15 ⟨rfl, r15, be15, o15⟩
    have X15 : Hid (Boxed w15 w.heap.size #[.int .i64 tt, .int .i64 frm, .slice a tags.length cap, .int .i64 src, .int .i64 dst, .int .i64 proto, .int .i64 sport, .int .i64 dport, .int .i64 mark, .int .i64 sum, .string body] 35 ∧ Boxed w15 w4.heap.size #[.int .i64 r0, .int .i64 r1, .slice a4 rt.length cap4, .int .i64 r3, .int .i64 r4, .int .i64 r5, .int .i64 r6, .int .i64 r7, .int .i64 r8, .int .i64 r9, .string rb] 38 ∧ Boxed w15 w8.heap.size #[.int .i64 r0, .int .i64 r1, .slice a8 rt.length cap8, .int .i64 r3, .int .i64 r4, .int .i64 r5, .int .i64 r6, .int .i64 r7, .int .i64 r8, .int .i64 r9, .string rb] 38 ∧ IntsAt w15 a8 (mks 1 rt rt.length) ∧ Below w5.heap.size w5 w15 ∧ Below w.heap.size w w15) := by
      have r15' : IRow w7.heap.size w15 (.slice a8 (mks 1 rt rt.length).length cap8) (mks 1 rt rt.length) := by rw [mks_length 1 rt _ (Nat.le_refl _)]; exact r15
      refine ⟨X14.out.1.below (by have := H5.out.1.under; omega) be15, X14.out.2.1.below (by have := H5.out.2.2.2.under; omega) be15, ?_, r15'.ints, X14.out.2.2.2.2.1.trans (be15.mono s57), X14.out.2.2.2.2.2.1.trans (be15.mono (by have := H5.out.2.1.size; omega))⟩
      unfold Boxed
      rw [o15.block _ (irow_ne X14.out.2.2.2.1 X14.out.2.2.1) X14.out.2.2.1.under]
      exact X14.out.2.2.1
    clear r15 be15 o15 X14
    go_wp2_with (refine wpList_load_row rfl 38 (.tmp 9) rfl w8.heap.size rfl _ _ _ _ X15.out.2.2.1 Try.underlying38 rfl (by kernel_rfl) ?_)
    refine (D'.out a8 cap8 w15 X15.out.2.2.2.1).mono ?_
    rintro e w16 ⟨rfl, be16⟩
    have X16 : Hid (Boxed w16 w.heap.size #[.int .i64 tt, .int .i64 frm, .slice a tags.length cap, .int .i64 src, .int .i64 dst, .int .i64 proto, .int .i64 sport, .int .i64 dport, .int .i64 mark, .int .i64 sum, .string body] 35 ∧ Boxed w16 w4.heap.size #[.int .i64 r0, .int .i64 r1, .slice a4 rt.length cap4, .int .i64 r3, .int .i64 r4, .int .i64 r5, .int .i64 r6, .int .i64 r7, .int .i64 r8, .int .i64 r9, .string rb] 38 ∧ Boxed w16 w8.heap.size #[.int .i64 r0, .int .i64 r1, .slice a8 rt.length cap8, .int .i64 r3, .int .i64 r4, .int .i64 r5, .int .i64 r6, .int .i64 r7, .int .i64 r8, .int .i64 r9, .string rb] 38 ∧ IntsAt w16 a8 (mks 1 rt rt.length) ∧ Below w5.heap.size w5 w16 ∧ Below w.heap.size w w16) := ⟨X15.out.1.below X15.out.1.under be16, X15.out.2.1.below X15.out.2.1.under be16, X15.out.2.2.1.below X15.out.2.2.1.under be16, X15.out.2.2.2.1.below be16, X15.out.2.2.2.2.1.trans (be16.mono X15.out.2.2.2.2.1.size), X15.out.2.2.2.2.2.trans (be16.mono X15.out.2.2.2.2.2.size)⟩
    clear be16 X15
    have k16 : ¬ 1 + (rt.length : Int) < 0 := by omega
    go_wp2_with (refine wpList_load_row rfl 35 (.tmp 2) rfl w.heap.size rfl _ _ _ _ X16.out.1 Try.underlying35 rfl (by kernel_rfl) ?_)
    refine (C'.out w16 hlen (hc.out.below X16.out.2.2.2.2.2)).mono ?_
    rintro e w17 ⟨b17, rfl, i17, be17⟩
    have X17 : Hid (Boxed w17 w4.heap.size #[.int .i64 r0, .int .i64 r1, .slice a4 rt.length cap4, .int .i64 r3, .int .i64 r4, .int .i64 r5, .int .i64 r6, .int .i64 r7, .int .i64 r8, .int .i64 r9, .string rb] 38 ∧ Boxed w17 w8.heap.size #[.int .i64 r0, .int .i64 r1, .slice a8 rt.length cap8, .int .i64 r3, .int .i64 r4, .int .i64 r5, .int .i64 r6, .int .i64 r7, .int .i64 r8, .int .i64 r9, .string rb] 38 ∧ IntsAt w17 a8 (mks 1 rt rt.length) ∧ Below w5.heap.size w5 w17 ∧ Below w.heap.size w w17 ∧ IntsAt w17 (some ⟨b17, 0, none⟩) tags) := ⟨X16.out.2.1.below X16.out.2.1.under be17, X16.out.2.2.1.below X16.out.2.2.1.under be17, X16.out.2.2.2.1.below be17, X16.out.2.2.2.2.1.trans (be17.mono X16.out.2.2.2.2.1.size), X16.out.2.2.2.2.2.trans (be17.mono X16.out.2.2.2.2.2.size), i17.ints⟩
    clear i17 be17 X16
    go_wp2_with fail
    refine (I'.out b17 w17 hlen X17.out.2.2.2.2.2).mono ?_
    rintro e w18 ⟨a18, cap18, rfl, i18, be18⟩
    have X18 : Hid (Boxed w18 w4.heap.size #[.int .i64 r0, .int .i64 r1, .slice a4 rt.length cap4, .int .i64 r3, .int .i64 r4, .int .i64 r5, .int .i64 r6, .int .i64 r7, .int .i64 r8, .int .i64 r9, .string rb] 38 ∧ Boxed w18 w8.heap.size #[.int .i64 r0, .int .i64 r1, .slice a8 rt.length cap8, .int .i64 r3, .int .i64 r4, .int .i64 r5, .int .i64 r6, .int .i64 r7, .int .i64 r8, .int .i64 r9, .string rb] 38 ∧ IntsAt w18 a8 (mks 1 rt rt.length) ∧ Below w5.heap.size w5 w18 ∧ Below w.heap.size w w18 ∧ IntsAt w18 a18 rt) := ⟨X17.out.1.below X17.out.1.under be18, X17.out.2.1.below X17.out.2.1.under be18, X17.out.2.2.1.below be18, X17.out.2.2.2.1.trans (be18.mono X17.out.2.2.2.1.size), X17.out.2.2.2.2.1.trans (be18.mono X17.out.2.2.2.2.1.size), i18.ints⟩
    clear i18 be18 X17
    go_upto_region 25 with fail
    have x19 := Boxed.new w18 #[.int .i64 r0, .int .i64 r1, .slice a18 rt.length cap18, .int .i64 r3, .int .i64 r4, .int .i64 r5, .int .i64 r6, .int .i64 r7, .int .i64 r8, .int .i64 r9, .string rb] 38
    have be19 : Below w18.heap.size w18 (w18.alloc (.cells #[.int .i64 r0, .int .i64 r1, .slice a18 rt.length cap18, .int .i64 r3, .int .i64 r4, .int .i64 r5, .int .i64 r6, .int .i64 r7, .int .i64 r8, .int .i64 r9, .string rb] 38)) := (Below.refl _ _).alloc (Nat.le_refl _) _
    generalize w18.alloc (.cells #[.int .i64 r0, .int .i64 r1, .slice a18 rt.length cap18, .int .i64 r3, .int .i64 r4, .int .i64 r5, .int .i64 r6, .int .i64 r7, .int .i64 r8, .int .i64 r9, .string rb] 38) = w19 at x19 be19 ⊢
    have X19 : Hid (Boxed w19 w4.heap.size #[.int .i64 r0, .int .i64 r1, .slice a4 rt.length cap4, .int .i64 r3, .int .i64 r4, .int .i64 r5, .int .i64 r6, .int .i64 r7, .int .i64 r8, .int .i64 r9, .string rb] 38 ∧ Boxed w19 w8.heap.size #[.int .i64 r0, .int .i64 r1, .slice a8 rt.length cap8, .int .i64 r3, .int .i64 r4, .int .i64 r5, .int .i64 r6, .int .i64 r7, .int .i64 r8, .int .i64 r9, .string rb] 38 ∧ IntsAt w19 a8 (mks 1 rt rt.length) ∧ Below w5.heap.size w5 w19 ∧ Below w.heap.size w w19 ∧ IntsAt w19 a18 rt ∧ Boxed w19 w18.heap.size #[.int .i64 r0, .int .i64 r1, .slice a18 rt.length cap18, .int .i64 r3, .int .i64 r4, .int .i64 r5, .int .i64 r6, .int .i64 r7, .int .i64 r8, .int .i64 r9, .string rb] 38) := ⟨X18.out.1.below X18.out.1.under be19, X18.out.2.1.below X18.out.2.1.under be19, X18.out.2.2.1.below be19, X18.out.2.2.2.1.trans (be19.mono X18.out.2.2.2.1.size), X18.out.2.2.2.2.1.trans (be19.mono X18.out.2.2.2.2.1.size), X18.out.2.2.2.2.2.below be19, x19⟩
    clear x19 be19 X18
    go_wp2_with (first | (refine wpList_load_row rfl 38 (.tmp 14) rfl w18.heap.size rfl _ _ _ _ X19.out.2.2.2.2.2.2 Try.underlying38 rfl (by kernel_rfl) ?_) | (refine wpList_load_row rfl 38 (.tmp 6) rfl w4.heap.size rfl _ _ _ _ X19.out.1 Try.underlying38 rfl (by kernel_rfl) ?_))
    refine (E'.out a18 cap18 a4 cap4 w19 X19.out.2.2.2.2.2.1 (A4.out w19 X19.out.2.2.2.1)).mono ?_
    rintro e w20 ⟨rfl, be20⟩
    have X20 : Hid (Boxed w20 w8.heap.size #[.int .i64 r0, .int .i64 r1, .slice a8 rt.length cap8, .int .i64 r3, .int .i64 r4, .int .i64 r5, .int .i64 r6, .int .i64 r7, .int .i64 r8, .int .i64 r9, .string rb] 38 ∧ IntsAt w20 a8 (mks 1 rt rt.length) ∧ Below w.heap.size w w20) := ⟨X19.out.2.1.below X19.out.2.1.under be20, X19.out.2.2.1.below be20, X19.out.2.2.2.2.1.trans (be20.mono X19.out.2.2.2.2.1.size)⟩
    clear be20 X19
    go_wp2_with (refine wpList_load_row rfl 38 (.tmp 9) rfl w8.heap.size rfl _ _ _ _ X20.out.1 Try.underlying38 rfl (by kernel_rfl) ?_)
    refine (D'.out a8 cap8 w20 X20.out.2.1).mono ?_
    rintro e w21 ⟨rfl, be21⟩
    have X21 : Hid (Below w.heap.size w w21) := X20.out.2.2.trans (be21.mono X20.out.2.2.size)
    clear be21 X20
    go_wp2
    go_ret
    exact ⟨rfl, X21.out⟩
end Go.Proofs.Yteegbmgkjmpkhaa
