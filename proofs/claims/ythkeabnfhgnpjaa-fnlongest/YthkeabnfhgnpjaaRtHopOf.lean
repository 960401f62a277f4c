/-
  The walks of HopOf, the program's and the model's. By the verifier.
-/
import Derived.Test.YthkeabnfhgnpjaaRtTrieOf
import Derived.Test.YthkeabnfhgnpjaaRtOkS
namespace Go.Proofs.Ythkeabnfhgnpjaa
open Go.RowKit

/-- What HopOf answers. -/
def hopV (l : List Rt) (addr : Int) : Int := if rtsOk l = true ∧ inB 0 4294967295 addr = true then hopL l addr else -1

set_option maxHeartbeats 800000 in
theorem implHop (a : Option Addr) (cap : Nat) (l : List Rt) (addr : Int) (w : World) (hT : l.length ≤ 1048576) (hcap : l.length ≤ cap) (h : Hid (RtsAt w a l)) :
    Calls Try.prog 11 #[.slice a l.length cap, .int .i64 addr] w fun e w' => e = .returned (.int .i64 (hopV l addr)) ∧ Below w.heap.size w w' := by
  have C := fun w h => implOk a cap l w hT h
  have D := fun (w : World) => implUpTo1 4294967295 addr w w.heap.size rfl
  cases hok : rtsOk l
  · have hv : hopV l addr = -1 := by unfold hopV; rw [if_neg (by simp [hok])]
    rw [hv]
    rw [hok] at C
    have C' : Hid _ := C
    clear C D hok hv
    generalize l.length = len at C' ⊢
    go_enter Try.func11, Try.ntmps11
    go_wp2_with fail
    refine (C'.out _ h).mono ?_
    rintro e w1 ⟨rfl, b1⟩
    have B : Hid (Below w.heap.size w w1) := b1
    clear b1
    go_wp2
    go_ret
    exact ⟨rfl, B.out⟩
  · rw [hok] at C
    cases ha : inB 0 4294967295 addr
    · have hv : hopV l addr = -1 := by unfold hopV; rw [if_neg (by simp [ha])]
      rw [hv]
      rw [ha] at D
      have C' : Hid _ := C
      clear C hok hv ha
      generalize l.length = len at C' ⊢
      go_enter Try.func11, Try.ntmps11
      go_wp2_with fail
      refine (C'.out _ h).mono ?_
      rintro e w1 ⟨rfl, b1⟩
      have B : Hid (Below w.heap.size w w1) := b1
      clear b1
      go_wp2_with fail
      refine (D _).mono ?_
      rintro e w' ⟨rfl, rfl⟩
      go_wp2
      go_ret
      exact ⟨rfl, B.out.alloc B.out.size _⟩
    · have hv : hopV l addr = hopL l addr := by unfold hopV; rw [if_pos ⟨hok, ha⟩]
      rw [hv]
      rw [ha] at D
      have ht := trieOk_of hok
      have h64 : l.length ≤ 64 := by
        unfold rtsOk at hok
        rw [Bool.and_eq_true, decide_eq_true_iff] at hok
        exact hok.1
      have ha' := inB_true.1 ha
      have T := fun w h => implTrie 32 0 rfl l a cap 0 w ht h64 hcap h
      have HA : Hid (∀ W v, Answers W v 0 0 (hopL l) → ∃ (g : FuncId) (cb : Array Value), v = .func (.func g) #[] cb ∧ Enters Try.prog g ∧ Calls Try.prog g (#[.int .i64 addr] ++ cb) W fun e w' => e = .returned (.int .i64 (hopL l addr)) ∧ w' = W) := by
        show ∀ W v, Answers W v 0 0 (hopL l) → _
        rintro W v ⟨g, cb, Dm, e, he, _, hc⟩
        refine ⟨g, cb, e, he, hc W addr ha'.1 ha'.2 ?_ fun _ _ => rfl⟩
        have : (2 : Int) ^ (32 - 0) = 4294967296 := by decide
        rw [this]; omega
      generalize hopL l addr = z at HA ⊢
      have C' : Hid _ := C
      have T' : Hid (∀ w, RtsAt w a l → Calls Try.prog 32 #[.slice a l.length cap, .int .i64 0] w fun e w' => (∃ v, e = .returned v ∧ Answers w' v 0 0 (hopL l)) ∧ Below w.heap.size w w') := T
      clear C T hok hv ha ht h64 hT hcap
      generalize l.length = len at C' T' ⊢
      go_enter Try.func11, Try.ntmps11
      go_wp2_with fail
      refine (C'.out _ h).mono ?_
      rintro e w1 ⟨rfl, b1⟩
      have B : Hid (Below w.heap.size w w1) := b1
      clear b1
      go_wp2_with fail
      refine (D _).mono ?_
      rintro e w' ⟨rfl, rfl⟩
      have B2 : Hid (Below w.heap.size w (w1.alloc (.cells #[.int .i64 addr] 2))) := B.out.alloc B.out.size _
      clear B
      generalize w1.alloc (.cells #[.int .i64 addr] 2) = w2 at B2 ⊢
      go_wp2_with fail
      refine (T'.out _ (h.out.below B2.out)).mono ?_
      rintro e w3 ⟨⟨v, rfl, ans⟩, b3⟩
      obtain ⟨g, cb, rfl, eg, hc⟩ := HA.out _ _ ans
      have B3 : Hid (Below w.heap.size w w3) := B2.out.trans (b3.mono B2.out.size)
      have eg' : ∀ args w, (callFunc g args).run Try.prog w = .ok (.enter g args) w := eg
      clear ans b3 B2 eg HA
      go_wp2_with (go_at_fn g; refine hc.mono ?_; rintro e w' ⟨rfl, rfl⟩)
      go_ret
      exact ⟨rfl, B3.out⟩

theorem hop_take (l : List Rt) (addr : Int) (k : Nat) (hk : k < l.length) : (l.take (k + 1)).foldl (hopStep addr) (-1, -1) = hopStep addr ((l.take k).foldl (hopStep addr) (-1, -1)) (rtAt l k) := by
  rw [List.take_succ_eq_append_getElem hk, List.foldl_append, rtAt_lt hk]
  rfl

set_option maxHeartbeats 1600000 in
theorem specL4Hop (a : Option Addr) (cap : Nat) (l : List Rt) (addr : Int) (w : World) (hT : l.length ≤ 1048576) (ha : 0 ≤ addr ∧ addr ≤ 4294967295) (hok : Hid (∀ k, k < l.length → inB 0 32 (rtAt l k).bits = true)) (h : Hid (RtsAt w a l)) :
    Calls Try.prog 35 #[.slice a l.length cap, .int .i64 addr] w fun e w' => e = .returned (.int .i64 (hopL l addr)) ∧ Below w.heap.size w w' := by
  obtain ⟨len, hlen⟩ : ∃ n, l.length = n := ⟨_, rfl⟩
  have HL : Hid (hopL l addr = (l.foldl (hopStep addr) (-1, -1)).2) := rfl
  rw [hlen] at hT ⊢
  have Hlen : Hid (l.length = len) := hlen
  clear hlen
  go_enter Try.func35, Try.ntmps35
  go_wp2
  go_loopw [5, 6, 7] (fun b hp i wr => ∃ (k : Nat) (s : Int × Int), k ≤ len ∧ i = .int .i64 k ∧ b = .int .i64 s.1 ∧ hp = .int .i64 s.2 ∧ Hid ((l.take k).foldl (hopStep addr) (-1, -1) = s ∧ Below w.heap.size w wr)) (fun _ _ i _ => len - (intOf i).toNat)
  case atStart => exact ⟨0, (-1, -1), Nat.zero_le _, rfl, rfl, rfl, rfl, Below.refl _ _⟩
  case round =>
    obtain ⟨k, ⟨s1, s2⟩, hk, rfl, rfl, rfl, H1⟩ := hrel
    by_cases hlt : k < len
    · have R : Hid (RtsAt wr a l) := h.out.below H1.out.2
      obtain ⟨b1, o1, ha1, hb1, -⟩ := R.out k (by rw [Hlen.out]; exact hlt)
      subst ha1
      obtain ⟨c0, c1, c2⟩ := cells_at R.out (k := k) (by rw [Hlen.out]; exact hlt)
      have hs := hop_take l addr k (by rw [Hlen.out]; exact hlt)
      rw [H1.out.1] at hs
      have C := fun w => specFit (net := (rtAt l k).net) (hok.out k (by rw [Hlen.out]; exact hlt)) ha.1 ha.2 w
      unfold hopStep at hs
      generalize rtAt l k = r at c0 c1 c2 hs C
      have Hs : Hid _ := hs
      clear hs
      have B : Hid (Below w.heap.size w (wr.alloc (.cells #[.int .i64 r.net, .int .i64 r.bits, .int .i64 r.hop] 29))) := H1.out.2.alloc H1.out.2.size _
      have hlt' : (k : Int) < (len : Int) := by omega
      clear H1 R
      simp only [] at Hs ⊢
      by_cases hb : s1 < r.bits
      · cases hf : fitB r.net r.bits addr
        · rw [hf] at C
          have Hs2 : Hid (_ = (s1, s2)) := Hs.out.trans (if_neg (by simp [hf]))
          clear Hs hf
          go_wp2_with (go_at_call 39; refine (C _).mono ?_; rintro e w' ⟨rfl, rfl⟩)
          go_roundw
          case rel => exact ⟨k + 1, (s1, s2), by omega, by go_num, rfl, rfl, Hs2.out, B.out⟩
          case measure => simp [intOf]; omega
        · rw [hf] at C
          have Hs2 : Hid (_ = (r.bits, r.hop)) := Hs.out.trans (if_pos ⟨hb, hf⟩)
          clear Hs hf
          go_wp2_with (go_at_call 39; refine (C _).mono ?_; rintro e w' ⟨rfl, rfl⟩)
          go_roundw
          case rel => exact ⟨k + 1, (r.bits, r.hop), by omega, by go_num, rfl, rfl, Hs2.out, B.out⟩
          case measure => simp [intOf]; omega
      · have Hs2 : Hid (_ = (s1, s2)) := Hs.out.trans (if_neg (fun h => hb h.1))
        clear Hs C
        go_wp2
        go_roundw
        case rel => exact ⟨k + 1, (s1, s2), by omega, by go_num, rfl, rfl, Hs2.out, B.out⟩
        case measure => simp [intOf]; omega
    · obtain rfl : k = len := by omega
      go_wp2
      go_ret
      refine ⟨?_, H1.out.2⟩
      have hh := H1.out.1
      rw [List.take_of_length_le (by rw [Hlen.out]; omega)] at hh
      rw [HL.out, hh]
      rfl

set_option maxHeartbeats 800000 in
theorem specHop (a : Option Addr) (cap : Nat) (l : List Rt) (addr : Int) (w : World) (hT : l.length ≤ 1048576) (h : Hid (RtsAt w a l)) :
    Calls Try.prog 13 #[.slice a l.length cap, .int .i64 addr] w fun e w' => e = .returned (.int .i64 (hopV l addr)) ∧ Below w.heap.size w w' := by
  have C := fun w h => specOk a cap l w hT h
  have D := fun (w : World) => specAddr addr w
  cases hok : rtsOk l
  · have hv : hopV l addr = -1 := by unfold hopV; rw [if_neg (by simp [hok])]
    rw [hv]
    rw [hok] at C
    have C' : Hid _ := C
    clear C D hok hv
    generalize l.length = len at C' ⊢
    go_enter Try.func13, Try.ntmps13
    go_wp2_with fail
    refine (C'.out _ h).mono ?_
    rintro e w1 ⟨rfl, b1⟩
    have B : Hid (Below w.heap.size w w1) := b1
    clear b1
    go_wp2
    go_ret
    exact ⟨rfl, B.out⟩
  · rw [hok] at C
    cases ha : inB 0 4294967295 addr
    · have hv : hopV l addr = -1 := by unfold hopV; rw [if_neg (by simp [ha])]
      rw [hv]
      rw [ha] at D
      have C' : Hid _ := C
      clear C hok hv ha
      generalize l.length = len at C' ⊢
      go_enter Try.func13, Try.ntmps13
      go_wp2_with fail
      refine (C'.out _ h).mono ?_
      rintro e w1 ⟨rfl, b1⟩
      have B : Hid (Below w.heap.size w w1) := b1
      clear b1
      go_wp2_with fail
      refine (D _).mono ?_
      rintro e w' ⟨rfl, rfl⟩
      go_wp2
      go_ret
      exact ⟨rfl, B.out⟩
    · have hv : hopV l addr = hopL l addr := by unfold hopV; rw [if_pos ⟨hok, ha⟩]
      rw [hv]
      rw [ha] at D
      have ht := trieOk_of hok
      have hbits : Hid (∀ k, k < l.length → inB 0 32 (rtAt l k).bits = true) := by
        show ∀ k, k < l.length → inB 0 32 (rtAt l k).bits = true
        intro k hk
        rw [rtAt_lt hk, inB_true]
        exact (ok_split (ht.each _ (List.getElem_mem hk)).1).1
      have T := fun w h => specL4Hop a cap l addr w hT (inB_true.1 ha) hbits h
      generalize hopL l addr = z at T ⊢
      have C' : Hid _ := C
      have T' : Hid _ := T
      clear C T hok hv ha ht hbits hT
      generalize l.length = len at C' T' ⊢
      go_enter Try.func13, Try.ntmps13
      go_wp2_with fail
      refine (C'.out _ h).mono ?_
      rintro e w1 ⟨rfl, b1⟩
      have B : Hid (Below w.heap.size w w1) := b1
      clear b1
      go_wp2_with fail
      refine (D _).mono ?_
      rintro e w' ⟨rfl, rfl⟩
      go_wp2_with fail
      refine (T'.out _ (h.out.below B.out)).mono ?_
      rintro e w3 ⟨rfl, b3⟩
      have B3 : Hid (Below w.heap.size w w3) := B.out.trans (b3.mono B.out.size)
      clear b3 B
      go_wp2
      go_ret
      exact ⟨rfl, B3.out⟩
end Go.Proofs.Ythkeabnfhgnpjaa
