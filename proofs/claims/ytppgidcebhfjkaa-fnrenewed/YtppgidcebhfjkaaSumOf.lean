/-
  The walks of SumOf, the model's and the program's. By the verifier.
-/
import Derived.Test.YtppgidcebhfjkaaSumL3
import Derived.Test.YtppgidcebhfjkaaSumPairs
import Derived.Test.YtppgidcebhfjkaaFrShowI
import Derived.Test.YtppgidcebhfjkaaFrSizeI
import Derived.RegionTactic
import Derived.Lib.Strings
import Derived.Laws.BitsLemmas
namespace Go.Proofs.Ytppgidcebhfjkaa
open Go.RowKit

/-- SumOf, whatever it is asked of. -/
def Fr.sumOr (f : Fr) : Int := if f.ok then f.sumOf else -1

set_option maxHeartbeats 1600000 in
set_option maxRecDepth 100000 in
theorem specSumOf (f : Fr) (a : Option Addr) (cap : Nat) (w : World) (hT : f.tags.length ≤ 1048576) (hc : Hid (IntsAt w a f.tags)) :
    Calls Try.prog 14 #[f.val a cap] w fun e w' => e = .returned (.int .i64 f.sumOr) ∧ Below w.heap.size w w' := by
  have F := fun w1 (h : Hid (IntsAt w1 a f.tags)) => specFrameOk f a cap w1 hT h
  have G := fun w1 (ok : Hid f.Ok) => specL3Sum f a cap w1 ok.out.shows
  have hS : Hid (f.sumOr = if f.ok then f.sumOf else -1) := rfl
  have hok := @Fr.ok_true f
  generalize f.sumOr = sr at hS ⊢
  generalize f.sumOf = sm at hS G
  generalize f.ok = okb at F hS hok
  generalize f.Ok = OK at G hok
  obtain ⟨tt, frm, tags, src, dst, proto, sport, dport, mark, sum, body⟩ := f
  simp only [Fr.val] at F G hT hc ⊢
  obtain ⟨len, hlen⟩ : ∃ n, tags.length = n := ⟨_, rfl⟩
  rw [hlen] at hT ⊢
  simp only [hlen] at F G
  clear hlen
  have F' : Hid _ := F
  have G' : Hid _ := G
  have Hok : Hid _ := hok
  clear F G hok
  go_enter Try.func14, Try.ntmps14
  go_upto_region 1 with fail
  have hbox := Boxed.new w #[.int .i64 tt, .int .i64 frm, .slice a len cap, .int .i64 src, .int .i64 dst, .int .i64 proto, .int .i64 sport, .int .i64 dport, .int .i64 mark, .int .i64 sum, .string body] 29
  have hci := hc.out.alloc (.cells #[.int .i64 tt, .int .i64 frm, .slice a len cap, .int .i64 src, .int .i64 dst, .int .i64 proto, .int .i64 sport, .int .i64 dport, .int .i64 mark, .int .i64 sum, .string body] 29)
  generalize hw1 : w.alloc (.cells #[.int .i64 tt, .int .i64 frm, .slice a len cap, .int .i64 src, .int .i64 dst, .int .i64 proto, .int .i64 sport, .int .i64 dport, .int .i64 mark, .int .i64 sum, .string body] 29) = w1 at hbox hci ⊢
  have Hw1 : Hid (∀ w', Below w1.heap.size w1 w' → Below w.heap.size w w') := by
    show ∀ w', _
    intro w' g; rw [← hw1] at g; exact below_of_alloc (by simpa using g)
  have H0 : Hid (Boxed w1 w.heap.size _ _) := hbox
  have Hc : Hid (IntsAt w1 a tags) := hci
  clear hbox hci hw1 hc
  cases okb with
  | false =>
    go_wp2_with (first | (refine wpList_load_row rfl 29 (.tmp 1) rfl w.heap.size rfl _ _ _ _ H0.out Try.underlying29 rfl (by kernel_rfl) ?_) | (go_at_call 28; refine (F'.out _ Hc).mono ?_; rintro e w2 ⟨rfl, b2⟩; have K2 : Hid (Below w1.heap.size w1 w2) := b2; clear b2))
    go_ret
    exact ⟨by rw [hS.out]; rfl, Hw1.out _ K2.out⟩
  | true =>
    go_wp2_with (refine wpList_load_row rfl 29 (.tmp 1) rfl w.heap.size rfl _ _ _ _ H0.out Try.underlying29 rfl (by kernel_rfl) ?_)
    refine (F'.out _ Hc).mono ?_
    rintro e w2 ⟨rfl, b2⟩
    have K2 : Hid (Below w1.heap.size w1 w2) := b2
    have H1 : Hid (Boxed w2 w.heap.size _ _) := H0.out.below H0.out.under b2
    clear b2
    go_wp2_with (refine wpList_load_row rfl 29 (.tmp 1) rfl w.heap.size rfl _ _ _ _ H1.out Try.underlying29 rfl (by kernel_rfl) ?_)
    refine (G'.out _ (Hok.out.1 trivial)).mono ?_
    rintro e w3 ⟨rfl, b3⟩
    have K3 : Hid (Below w1.heap.size w1 w3) := K2.out.trans (b3.mono K2.out.size)
    clear b3
    go_wp2
    go_ret
    exact ⟨by rw [hS.out]; rfl, Hw1.out _ K3.out⟩

theorem Fr.zeroSum_ok {f : Fr} (h : f.ok = true) : f.zeroSum.ok = true := by
  rw [Fr.ok_true] at *
  obtain ⟨h1, h2, h3, h4, h5, h6, h7, h8, h9, h10, h11, h12⟩ := h
  exact ⟨h1, h2, h3, h4, h5, h6, h7, h8, h9, ⟨Int.le_refl _, by show (0 : Int) ≤ 65535; omega⟩, h11, h12⟩

theorem extract_tail (A B : ByteArray) : (A ++ B).extract A.size (A ++ B).size = B := by
  have hl : ∀ x : ByteArray, x.data.toList.length = x.size := fun x => by rw [Array.length_toList]; rfl
  apply ByteArray.ext
  apply Array.ext'
  rw [Lib.extract_data, ByteArray.data_append, Array.toList_append, ← hl A, List.drop_left, List.take_of_length_le]
  rw [hl, hl, ByteArray.size_append]
  omega
theorem Fr.show_from {f : Fr} (h : f.ok = true) : f.show.extract (5 + 3 * f.tags.length) f.show.size = f.inner := by
  have e : f.show = strB (f.outer ++ [2]) ++ f.inner := by
    rw [Fr.show_ok h]
    unfold Fr.inner Fr.head
    rw [strB_append, strB_append f.mid, strB_bytesB, ByteArray.append_assoc]
  have hs : (strB (f.outer ++ [2])).size = 5 + 3 * f.tags.length := by rw [strB_size, List.length_append, Fr.outer_length, List.length_singleton]; omega
  rw [e, ← hs]
  exact extract_tail _ _

set_option maxHeartbeats 3200000 in
set_option maxRecDepth 100000 in
theorem implSumOf (f : Fr) (a : Option Addr) (cap : Nat) (w : World) (hT : f.tags.length ≤ 1048576) (hc : Hid (IntsAt w a f.tags)) :
    Calls Try.prog 13 #[f.val a cap] w fun e w' => e = .returned (.int .i64 f.sumOr) ∧ Below w.heap.size w w' := by
  have F := fun w1 (h : Hid (IntsAt w1 a f.tags)) => implFrameOk f a cap w1 hT h
  have G := fun w1 (h : Hid (IntsAt w1 a f.tags)) => implShow f.zeroSum a cap w1 hT h
  have L := fun w1 (h : Hid (IntsAt w1 a f.tags)) => implHeadSize f.zeroSum a cap w1 hT h
  have hS : Hid (f.sumOr = if f.ok then f.sumOf else -1) := rfl
  cases hok : f.ok with
  | false =>
    rw [hok] at hS F
    generalize f.sumOr = sr at hS ⊢
    clear G L hok
    obtain ⟨tt, frm, tags, src, dst, proto, sport, dport, mark, sum, body⟩ := f
    simp only [Fr.val] at F hT hc ⊢
    obtain ⟨len, hlen⟩ : ∃ n, tags.length = n := ⟨_, rfl⟩
    simp only [hlen] at F hT ⊢
    clear hlen
    have F' : Hid _ := F
    clear F
    go_enter Try.func13, Try.ntmps13
    go_upto_region 1 with fail
    have hbox := Boxed.new w #[.int .i64 tt, .int .i64 frm, .slice a len cap, .int .i64 src, .int .i64 dst, .int .i64 proto, .int .i64 sport, .int .i64 dport, .int .i64 mark, .int .i64 sum, .string body] 29
    have hci := hc.out.alloc (.cells #[.int .i64 tt, .int .i64 frm, .slice a len cap, .int .i64 src, .int .i64 dst, .int .i64 proto, .int .i64 sport, .int .i64 dport, .int .i64 mark, .int .i64 sum, .string body] 29)
    generalize hw1 : w.alloc (.cells #[.int .i64 tt, .int .i64 frm, .slice a len cap, .int .i64 src, .int .i64 dst, .int .i64 proto, .int .i64 sport, .int .i64 dport, .int .i64 mark, .int .i64 sum, .string body] 29) = w1 at hbox hci ⊢
    have Hw1 : Hid (∀ w', Below w1.heap.size w1 w' → Below w.heap.size w w') := by
      show ∀ w', _
      intro w' g; rw [← hw1] at g; exact below_of_alloc (by simpa using g)
    have H0 : Hid (Boxed w1 w.heap.size _ _) := hbox
    have Hc : Hid (IntsAt w1 a tags) := hci
    clear hbox hci hw1 hc
    go_wp2_with (first | (refine wpList_load_row rfl 29 (.tmp 1) rfl w.heap.size rfl _ _ _ _ H0.out Try.underlying29 rfl (by kernel_rfl) ?_) | (go_at_call 15; refine (F'.out _ Hc).mono ?_; rintro e w2 ⟨rfl, b2⟩; have K2 : Hid (Below w1.heap.size w1 w2) := b2; clear b2))
    go_ret
    exact ⟨by rw [hS.out]; rfl, Hw1.out _ K2.out⟩
  | true =>
    have hok0 := Fr.zeroSum_ok hok
    have hOk : Hid f.zeroSum.Ok := Fr.ok_true.1 hok0
    have hsh := Fr.show_ok hok0
    have hhs : f.zeroSum.headSize = 23 + 3 * (f.tags.length : Int) := by unfold Fr.headSize; rw [if_pos hok0]; rfl
    have hsz : f.zeroSum.inner.size ≤ 1048576 := by
      have h11 : f.body.size ≤ 1500 := hOk.out.2.2.2.2.2.2.2.2.2.2.1
      unfold Fr.inner; rw [strB_size, List.length_append, Fr.mid_length, bytesB_length]; show 18 + f.body.size ≤ _; omega
    have hlt : f.tags.length ≤ 2 := hOk.out.2.2.1
    clear hS
    have hS : Hid (f.sumOr = sum16 f.zeroSum.inner) := by show _ = _; unfold Fr.sumOr; rw [if_pos hok]; rfl
    generalize f.sumOr = sr at hS ⊢
    have hEx := Fr.show_from hok0
    rw [show f.zeroSum.tags = f.tags from rfl] at hEx
    generalize f.zeroSum.inner = I at hsz hS hEx
    rw [hok] at F
    rw [hhs] at L
    have hss : f.zeroSum.show.size = 23 + 3 * f.tags.length + f.body.size := by rw [hsh, ByteArray.size_append, strB_size, Fr.head_length]; rfl
    generalize f.zeroSum.show = sh at G hss hEx
    clear hok hok0 hOk hsh hhs
    obtain ⟨tt, frm, tags, src, dst, proto, sport, dport, mark, sum, body⟩ := f
    simp only [Fr.val, Fr.zeroSum] at F G L hT hlt hss hEx hc ⊢
    obtain ⟨len, hlen⟩ : ∃ n, tags.length = n := ⟨_, rfl⟩
    simp only [hlen] at F G L hT hlt hss hEx ⊢
    clear hlen
    obtain ⟨k, hk⟩ : ∃ z : Nat, 5 + 3 * len = z := ⟨_, rfl⟩
    rw [show 23 + 3 * (len : Int) = (k : Int) + 18 by omega] at L
    have z0 : (k : Int) ≤ (sh.size : Int) := by omega
    have z2 : k ≤ 11 := by omega
    have z1 : k ≤ sh.size := by omega
    rw [hk] at hEx
    have Hx : Hid (sh.extract k sh.size = I) := hEx
    clear hk hss hEx
    have wk : IntKind.i64.wrap (k : Int) = k := by rw [IntKind.wrap_i64]; omega
    have F' : Hid _ := F
    have G' : Hid _ := G
    have L' : Hid _ := L
    clear F G L
    go_enter Try.func13, Try.ntmps13
    go_upto_region 1 with fail
    have hbox := Boxed.new w #[.int .i64 tt, .int .i64 frm, .slice a len cap, .int .i64 src, .int .i64 dst, .int .i64 proto, .int .i64 sport, .int .i64 dport, .int .i64 mark, .int .i64 sum, .string body] 29
    have hci := hc.out.alloc (.cells #[.int .i64 tt, .int .i64 frm, .slice a len cap, .int .i64 src, .int .i64 dst, .int .i64 proto, .int .i64 sport, .int .i64 dport, .int .i64 mark, .int .i64 sum, .string body] 29)
    generalize hw1 : w.alloc (.cells #[.int .i64 tt, .int .i64 frm, .slice a len cap, .int .i64 src, .int .i64 dst, .int .i64 proto, .int .i64 sport, .int .i64 dport, .int .i64 mark, .int .i64 sum, .string body] 29) = w1 at hbox hci ⊢
    have Hw1 : Hid (∀ w', Below w1.heap.size w1 w' → Below w.heap.size w w') := by
      show ∀ w', _
      intro w' g; rw [← hw1] at g; exact below_of_alloc (by simpa using g)
    have hlo : Hid (w1.heap.size = w.heap.size + 1) := by show _ = _; rw [← hw1]; simp
    have H0 : Hid (Boxed w1 w.heap.size _ _) := hbox
    have Hc : Hid (IntsAt w1 a tags) := hci
    clear hbox hci hw1
    go_wp2_with (refine wpList_load_row rfl 29 (.tmp 1) rfl w.heap.size rfl _ _ _ _ H0.out Try.underlying29 rfl (by kernel_rfl) ?_)
    refine (F'.out _ Hc).mono ?_
    rintro e w2 ⟨rfl, b2⟩
    have K2 : Hid (Below w.heap.size w w2) := Hw1.out _ b2
    have H1 : Hid (Boxed w2 w.heap.size _ _) := H0.out.below H0.out.under b2
    clear b2 Hc H0 Hw1
    have c9 := H1.out.cell 9 rfl
    have i9 := H1.out.ice 9
    go_upto_region 4 with fail
    have hb3 := H1.out.put 9 (.int .i64 0)
    have K3' : Below w.heap.size w (w2.setCell ⟨w.heap.size, 9, none⟩ (.int .i64 0)) := K2.out.setCell (p := ⟨w.heap.size, 9, none⟩) (Nat.le_refl _) _
    clear c9 i9
    generalize w2.setCell ⟨w.heap.size, 9, none⟩ (.int .i64 0) = w3 at hb3 K3' ⊢
    have K3 : Hid (Below w.heap.size w w3) := K3'
    have H3 : Hid (Boxed w3 w.heap.size _ _) := hb3
    clear H1 K2 K3' hb3
    have c0 : w3.cell? ⟨w.heap.size, 0, none⟩ = some (.int .i64 tt) := H3.out.cell 0 rfl
    have c1 : w3.cell? ⟨w.heap.size, 1, none⟩ = some (.int .i64 frm) := H3.out.cell 1 rfl
    have c2 : w3.cell? ⟨w.heap.size, 2, none⟩ = some (.slice a len cap) := H3.out.cell 2 rfl
    have c3 : w3.cell? ⟨w.heap.size, 3, none⟩ = some (.int .i64 src) := H3.out.cell 3 rfl
    have c4 : w3.cell? ⟨w.heap.size, 4, none⟩ = some (.int .i64 dst) := H3.out.cell 4 rfl
    have c5 : w3.cell? ⟨w.heap.size, 5, none⟩ = some (.int .i64 proto) := H3.out.cell 5 rfl
    have c6 : w3.cell? ⟨w.heap.size, 6, none⟩ = some (.int .i64 sport) := H3.out.cell 6 rfl
    have c7 : w3.cell? ⟨w.heap.size, 7, none⟩ = some (.int .i64 dport) := H3.out.cell 7 rfl
    have c8 : w3.cell? ⟨w.heap.size, 8, none⟩ = some (.int .i64 mark) := H3.out.cell 8 rfl
    have c9 : w3.cell? ⟨w.heap.size, 9, none⟩ = some (.int .i64 0) := H3.out.cell 9 rfl
    have c10 : w3.cell? ⟨w.heap.size, 10, none⟩ = some (.string body) := H3.out.cell 10 rfl
    go_region_with (first | (go_at_call 34; refine (G'.out _ ?_).mono ?_; exact hc.out.below K3.out.drew; rintro e w4 ⟨rfl, b4⟩; have K4 : Hid (Below w.heap.size w w4) := K3.out.drew.trans (b4.mono K3.out.size); have H4 : Hid (Boxed w4 w.heap.size _ _) := Boxed.below (w := w3.drew) H3.out H3.out.under b4; clear b4; have d0 : w4.cell? ⟨w.heap.size, 0, none⟩ = some (.int .i64 tt) := H4.out.cell 0 rfl; have d1 : w4.cell? ⟨w.heap.size, 1, none⟩ = some (.int .i64 frm) := H4.out.cell 1 rfl; have d2 : w4.cell? ⟨w.heap.size, 2, none⟩ = some (.slice a len cap) := H4.out.cell 2 rfl; have d3 : w4.cell? ⟨w.heap.size, 3, none⟩ = some (.int .i64 src) := H4.out.cell 3 rfl; have d4 : w4.cell? ⟨w.heap.size, 4, none⟩ = some (.int .i64 dst) := H4.out.cell 4 rfl; have d5 : w4.cell? ⟨w.heap.size, 5, none⟩ = some (.int .i64 proto) := H4.out.cell 5 rfl; have d6 : w4.cell? ⟨w.heap.size, 6, none⟩ = some (.int .i64 sport) := H4.out.cell 6 rfl; have d7 : w4.cell? ⟨w.heap.size, 7, none⟩ = some (.int .i64 dport) := H4.out.cell 7 rfl; have d8 : w4.cell? ⟨w.heap.size, 8, none⟩ = some (.int .i64 mark) := H4.out.cell 8 rfl; have d9 : w4.cell? ⟨w.heap.size, 9, none⟩ = some (.int .i64 0) := H4.out.cell 9 rfl; have d10 : w4.cell? ⟨w.heap.size, 10, none⟩ = some (.string body) := H4.out.cell 10 rfl) | (go_at_call 35; refine (L'.out _ ?_).mono ?_; exact hc.out.below K4.out; rintro e w5 ⟨rfl, b5⟩; have K5 : Hid (Below w.heap.size w w5) := K4.out.trans (b5.mono K4.out.size); clear b5) | (go_at_call 18; rw [Hx.out]; refine (implSum16 I hsz _).mono ?_; rintro e w6 ⟨rfl, b6⟩; have K6 : Hid (Below w.heap.size w w6) := K5.out.trans (b6.mono K5.out.size); clear b6))
    all_goals (go_wp2; go_ret; exact ⟨by rw [hS.out]; rfl, K6.out⟩)
end Go.Proofs.Ytppgidcebhfjkaa
