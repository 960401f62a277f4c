/-
  The law's own comparison of lists and frames: where both hold the same it answers yes. By the verifier.
-/
import Derived.Test.YtddjflaceokoaaaDoorFrBox
import Derived.RegionTactic
namespace Go.Proofs.YtddjflaceokoaaaDoor
open Go.RowKit

set_option maxHeartbeats 1600000 in
theorem likeInts (a1 a2 : Option Addr) (cap1 cap2 : Nat) (zs : List Int) (w : World) (hT : zs.length ≤ 1048576) (h1 : Hid (IntsAt w a1 zs)) (h2 : Hid (IntsAt w a2 zs)) :
    Calls Tryd.prog 30 #[.slice a1 zs.length cap1, .slice a2 zs.length cap2] w fun e w' => e = .returned (.bool true) ∧ Below w.heap.size w w' := by
  obtain ⟨len, hlen⟩ : ∃ n, zs.length = n := ⟨_, rfl⟩
  rw [hlen] at hT ⊢
  have Hlen : Hid (zs.length = len) := hlen
  clear hlen
  go_enter Tryd.func30, Tryd.ntmps30
  go_wp2
  go_loopw [5] (fun i wr => ∃ k : Nat, k ≤ len ∧ i = .int .i64 k ∧ Hid (Below w.heap.size w wr)) (fun i _ => len - (intOf i).toNat)
  case atStart => exact ⟨0, Nat.zero_le _, rfl, Below.refl _ _⟩
  case round =>
    obtain ⟨k, hk, rfl, hbl⟩ := hrel
    by_cases hlt : k < len
    · obtain ⟨b, off, ha, hb, c1⟩ := h1.out k (by rw [Hlen.out]; exact hlt)
      obtain ⟨b2, off2, ha2, hb2, c2⟩ := h2.out k (by rw [Hlen.out]; exact hlt)
      subst ha ha2
      generalize zs[k]?.getD 0 = z at c1 c2
      have d1 : wr.cell? ⟨b, off + k, none⟩ = some (.int .i64 z) := (hbl.out.cell (p := ⟨b, off + k, none⟩) hb).trans c1
      have d2 : wr.cell? ⟨b2, off2 + k, none⟩ = some (.int .i64 z) := (hbl.out.cell (p := ⟨b2, off2 + k, none⟩) hb2).trans c2
      clear c1 c2
      go_wp2
      go_region
      all_goals
        have hb' : Hid (Below w.heap.size w wr.drew) := hbl.out.drew
        go_wp2
        go_roundw
        case rel => exact ⟨k + 1, by omega, by go_num, hb'⟩
        case measure => simp [intOf]; omega
    · go_wp2
      go_ret
      exact ⟨rfl, hbl.out⟩

set_option maxHeartbeats 6400000 in
set_option maxRecDepth 100000 in
theorem likeFrames (f : Fr) (a1 a2 : Option Addr) (cap1 cap2 : Nat) (w : World) (hT : f.tags.length ≤ 1048576) (h1 : Hid (IntsAt w a1 f.tags)) (h2 : Hid (IntsAt w a2 f.tags)) :
    Calls Tryd.prog 11 #[f.val a1 cap1, f.val a2 cap2] w fun e w' => e = .returned (.bool true) ∧ Below w.heap.size w w' := by
  have F := fun w1 (g1 : Hid (IntsAt w1 a1 f.tags)) (g2 : Hid (IntsAt w1 a2 f.tags)) => likeInts a1 a2 cap1 cap2 f.tags w1 hT g1 g2
  obtain ⟨tt, frm, tags, src, dst, proto, sport, dport, mark, sum, body⟩ := f
  simp only [Fr.val] at F hT h1 h2 ⊢
  obtain ⟨len, hlen⟩ : ∃ n, tags.length = n := ⟨_, rfl⟩
  simp only [hlen] at F hT ⊢
  clear hlen
  have F' : Hid _ := F
  clear F
  have hx := (Boxed.new w #[.int .i64 tt, .int .i64 frm, .slice a1 len cap1, .int .i64 src, .int .i64 dst, .int .i64 proto, .int .i64 sport, .int .i64 dport, .int .i64 mark, .int .i64 sum, .string body] 26).more (.cells #[.int .i64 tt, .int .i64 frm, .slice a2 len cap2, .int .i64 src, .int .i64 dst, .int .i64 proto, .int .i64 sport, .int .i64 dport, .int .i64 mark, .int .i64 sum, .string body] 26)
  have hy := Boxed.new (w.alloc (.cells #[.int .i64 tt, .int .i64 frm, .slice a1 len cap1, .int .i64 src, .int .i64 dst, .int .i64 proto, .int .i64 sport, .int .i64 dport, .int .i64 mark, .int .i64 sum, .string body] 26)) #[.int .i64 tt, .int .i64 frm, .slice a2 len cap2, .int .i64 src, .int .i64 dst, .int .i64 proto, .int .i64 sport, .int .i64 dport, .int .i64 mark, .int .i64 sum, .string body] 26
  rw [World.size_alloc] at hy
  have bel : Below w.heap.size w ((w.alloc (.cells #[.int .i64 tt, .int .i64 frm, .slice a1 len cap1, .int .i64 src, .int .i64 dst, .int .i64 proto, .int .i64 sport, .int .i64 dport, .int .i64 mark, .int .i64 sum, .string body] 26)).alloc (.cells #[.int .i64 tt, .int .i64 frm, .slice a2 len cap2, .int .i64 src, .int .i64 dst, .int .i64 proto, .int .i64 sport, .int .i64 dport, .int .i64 mark, .int .i64 sum, .string body] 26)) := ((Below.refl _ _).alloc (Nat.le_refl _) _).alloc (by simp) _
  have H0 : Hid (Boxed _ _ _ _ ∧ Boxed _ _ _ _ ∧ Below w.heap.size w _) := ⟨hx, hy, bel⟩
  clear hx hy bel
  go_enter Tryd.func11, Tryd.ntmps11
  go_wp2_with fail
  refine (F'.out _ (h1.out.below H0.out.2.2) (h2.out.below H0.out.2.2)).mono ?_
  rintro e w3 ⟨rfl, b3⟩
  have H3 : Hid (Boxed w3 w.heap.size #[.int .i64 tt, .int .i64 frm, .slice a1 len cap1, .int .i64 src, .int .i64 dst, .int .i64 proto, .int .i64 sport, .int .i64 dport, .int .i64 mark, .int .i64 sum, .string body] 26 ∧ Boxed w3 (w.heap.size + 1) #[.int .i64 tt, .int .i64 frm, .slice a2 len cap2, .int .i64 src, .int .i64 dst, .int .i64 proto, .int .i64 sport, .int .i64 dport, .int .i64 mark, .int .i64 sum, .string body] 26 ∧ Below w.heap.size w w3) := ⟨H0.out.1.below H0.out.1.under b3, H0.out.2.1.below H0.out.2.1.under b3, H0.out.2.2.trans (b3.mono H0.out.2.2.size)⟩
  clear b3 H0
  have c0 : w3.cell? ⟨w.heap.size, 0, none⟩ = some (.int .i64 tt) := H3.out.1.cell 0 rfl
  have c1 : w3.cell? ⟨w.heap.size, 1, none⟩ = some (.int .i64 frm) := H3.out.1.cell 1 rfl
  have c2 : w3.cell? ⟨w.heap.size, 2, none⟩ = some (.slice a1 len cap1) := H3.out.1.cell 2 rfl
  have c3 : w3.cell? ⟨w.heap.size, 3, none⟩ = some (.int .i64 src) := H3.out.1.cell 3 rfl
  have c4 : w3.cell? ⟨w.heap.size, 4, none⟩ = some (.int .i64 dst) := H3.out.1.cell 4 rfl
  have c5 : w3.cell? ⟨w.heap.size, 5, none⟩ = some (.int .i64 proto) := H3.out.1.cell 5 rfl
  have c6 : w3.cell? ⟨w.heap.size, 6, none⟩ = some (.int .i64 sport) := H3.out.1.cell 6 rfl
  have c7 : w3.cell? ⟨w.heap.size, 7, none⟩ = some (.int .i64 dport) := H3.out.1.cell 7 rfl
  have c8 : w3.cell? ⟨w.heap.size, 8, none⟩ = some (.int .i64 mark) := H3.out.1.cell 8 rfl
  have c9 : w3.cell? ⟨w.heap.size, 9, none⟩ = some (.int .i64 sum) := H3.out.1.cell 9 rfl
  have c10 : w3.cell? ⟨w.heap.size, 10, none⟩ = some (.string body) := H3.out.1.cell 10 rfl
  have d0 : w3.cell? ⟨w.heap.size + 1, 0, none⟩ = some (.int .i64 tt) := H3.out.2.1.cell 0 rfl
  have d1 : w3.cell? ⟨w.heap.size + 1, 1, none⟩ = some (.int .i64 frm) := H3.out.2.1.cell 1 rfl
  have d2 : w3.cell? ⟨w.heap.size + 1, 2, none⟩ = some (.slice a2 len cap2) := H3.out.2.1.cell 2 rfl
  have d3 : w3.cell? ⟨w.heap.size + 1, 3, none⟩ = some (.int .i64 src) := H3.out.2.1.cell 3 rfl
  have d4 : w3.cell? ⟨w.heap.size + 1, 4, none⟩ = some (.int .i64 dst) := H3.out.2.1.cell 4 rfl
  have d5 : w3.cell? ⟨w.heap.size + 1, 5, none⟩ = some (.int .i64 proto) := H3.out.2.1.cell 5 rfl
  have d6 : w3.cell? ⟨w.heap.size + 1, 6, none⟩ = some (.int .i64 sport) := H3.out.2.1.cell 6 rfl
  have d7 : w3.cell? ⟨w.heap.size + 1, 7, none⟩ = some (.int .i64 dport) := H3.out.2.1.cell 7 rfl
  have d8 : w3.cell? ⟨w.heap.size + 1, 8, none⟩ = some (.int .i64 mark) := H3.out.2.1.cell 8 rfl
  have d9 : w3.cell? ⟨w.heap.size + 1, 9, none⟩ = some (.int .i64 sum) := H3.out.2.1.cell 9 rfl
  have d10 : w3.cell? ⟨w.heap.size + 1, 10, none⟩ = some (.string body) := H3.out.2.1.cell 10 rfl
  go_wp2
  go_ret
  exact ⟨rfl, H3.out.2.2⟩
end Go.Proofs.YtddjflaceokoaaaDoor
