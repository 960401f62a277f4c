/-
  The walk of the model's search for the longest. By the verifier.
-/
import Derived.Test.YtilnjmpnhadidaaRtFitL
import Derived.Test.YtilnjmpnhadidaaM2
namespace Go.Proofs.Ytilnjmpnhadidaa
open Go.RowKit

theorem hop_take (l : List Rt) (addr : Int) (k : Nat) (hk : k < l.length) : (l.take (k + 1)).foldl (hopStep addr) (-1, -1) = hopStep addr ((l.take k).foldl (hopStep addr) (-1, -1)) (rtAt l k) := by
  rw [List.take_succ_eq_append_getElem hk, List.foldl_append, rtAt_lt hk]
  rfl

set_option maxHeartbeats 1600000 in
theorem specL4Hop (a : Option Addr) (cap : Nat) (l : List Rt) (addr : Int) (w : World) (hT : l.length ≤ 1048576) (ha : 0 ≤ addr ∧ addr ≤ 4294967295) (hok : Hid (∀ k, k < l.length → inB 0 32 (rtAt l k).bits = true)) (h : Hid (RtsAt w a l)) :
    Calls Try.prog 43 #[.slice a l.length cap, .int .i64 addr] w fun e w' => e = .returned (.int .i64 (hopL l addr)) ∧ Below w.heap.size w w' := by
  obtain ⟨len, hlen⟩ : ∃ n, l.length = n := ⟨_, rfl⟩
  have HL : Hid (hopL l addr = (l.foldl (hopStep addr) (-1, -1)).2) := rfl
  rw [hlen] at hT ⊢
  have Hlen : Hid (l.length = len) := hlen
  clear hlen
  go_enter Try.func43, Try.ntmps43
  go_wp2
  go_loopw [5, 6, 7] (fun b hp i wr => ∃ (k : Nat) (s : Int × Int), k ≤ len ∧ i = .int .i64 k ∧ b = .int .i64 s.1 ∧ hp = .int .i64 s.2 ∧ Hid ((l.take k).foldl (hopStep addr) (-1, -1) = s ∧ Below w.heap.size w wr)) (fun _ _ i _ => len - (intOf i).toNat)
  case atStart => exact ⟨0, (-1, -1), Nat.zero_le _, rfl, rfl, rfl, rfl, Below.refl _ _⟩
  case round =>
    obtain ⟨k, ⟨s1, s2⟩, hk, rfl, rfl, rfl, H1⟩ := hrel
    by_cases hlt : k < len
    · have R : Hid (RtsAt wr a l) := h.out.below H1.out.2
      obtain ⟨b1, o1, ha1, hb1, -⟩ := R.out k (by rw [Hlen.out]; exact hlt)
      subst ha1
      obtain ⟨c0, c1, c2⟩ := cells_at R.out (k := k) (by rw [Hlen.out]; exact hlt)
      have hs := hop_take l addr k (by rw [Hlen.out]; exact hlt)
      rw [H1.out.1] at hs
      have C := fun w => specFit (net := (rtAt l k).net) (hok.out k (by rw [Hlen.out]; exact hlt)) ha.1 ha.2 w
      unfold hopStep at hs
      generalize rtAt l k = r at c0 c1 c2 hs C
      have Hs : Hid _ := hs
      clear hs
      have B : Hid (Below w.heap.size w (wr.alloc (.cells #[.int .i64 r.net, .int .i64 r.bits, .int .i64 r.hop] 53))) := H1.out.2.alloc H1.out.2.size _
      have hlt' : (k : Int) < (len : Int) := by omega
      clear H1 R
      simp only [] at Hs ⊢
      by_cases hb : s1 < r.bits
      · cases hf : fitB r.net r.bits addr
        · rw [hf] at C
          have Hs2 : Hid (_ = (s1, s2)) := Hs.out.trans (if_neg (by simp [hf]))
          clear Hs hf
          go_wp2_with (go_at_call 77; refine (C _).mono ?_; rintro e w' ⟨rfl, rfl⟩)
          go_roundw
          case rel => exact ⟨k + 1, (s1, s2), by omega, by go_num, rfl, rfl, Hs2.out, B.out⟩
          case measure => simp [intOf]; omega
        · rw [hf] at C
          have Hs2 : Hid (_ = (r.bits, r.hop)) := Hs.out.trans (if_pos ⟨hb, hf⟩)
          clear Hs hf
          go_wp2_with (go_at_call 77; refine (C _).mono ?_; rintro e w' ⟨rfl, rfl⟩)
          go_roundw
          case rel => exact ⟨k + 1, (r.bits, r.hop), by omega, by go_num, rfl, rfl, Hs2.out, B.out⟩
          case measure => simp [intOf]; omega
      · have Hs2 : Hid (_ = (s1, s2)) := Hs.out.trans (if_neg (fun h => hb h.1))
        clear Hs C
        go_wp2
        go_roundw
        case rel => exact ⟨k + 1, (s1, s2), by omega, by go_num, rfl, rfl, Hs2.out, B.out⟩
        case measure => simp [intOf]; omega
    · obtain rfl : k = len := by omega
      go_wp2
      go_ret
      refine ⟨?_, H1.out.2⟩
      have hh := H1.out.1
      rw [List.take_of_length_le (by rw [Hlen.out]; omega)] at hh
      rw [HL.out, hh]
      rfl
end Go.Proofs.Ytilnjmpnhadidaa
