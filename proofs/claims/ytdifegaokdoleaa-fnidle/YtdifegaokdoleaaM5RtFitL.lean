import Derived.Test.YtdifegaokdoleaaM2Box
import Derived.Test.YtdifegaokdoleaaRtPlain
import Derived.Test.YtdifegaokdoleaaRuPlain
/-
  The model's way to tell a right net. By the verifier.
-/
namespace Go.Proofs.Ytdifegaokdoleaa
open Go.RowKit

theorem wrap_small {m : Int} (h0 : 0 ≤ m) (h1 : m ≤ 9223372036854775807) : wrap64 m = m := by unfold wrap64; omega
theorem specNet (net bits : Int) (w : World) :
    Calls Try.prog 68 #[.int .i64 net, .int .i64 bits] w fun e w' => e = .returned (.bool (netB net bits)) ∧ w' = w := by
  have Hn : Hid (netB net bits = _) := rfl
  cases hb : inB 0 32 bits
  · have hb' : netB net bits = false := by rw [netB, hb]; rfl
    rw [hb']
    clear Hn hb'
    have C := specIn bits 0 32 w
    rw [hb] at C
    clear hb
    go_enter Try.func68, Try.ntmps68
    go_wp2_with (go_at_call 49; refine C.mono ?_; rintro e w' ⟨rfl, rfl⟩)
    go_ret
    exact ⟨rfl, rfl⟩
  cases hn : inB 0 4294967295 net
  · have hb' : netB net bits = false := by rw [netB, hb, hn]; rfl
    rw [hb']
    clear Hn hb'
    have C := specIn bits 0 32 w
    have D := specAddr net w
    rw [hb] at C
    rw [hn] at D
    clear hb hn
    go_enter Try.func68, Try.ntmps68
    go_wp2_with (first | (go_at_call 49; refine C.mono ?_; rintro e w' ⟨rfl, rfl⟩) | (go_at_call 51; refine D.mono ?_; rintro e w' ⟨rfl, rfl⟩))
    go_ret
    exact ⟨rfl, rfl⟩
  have hnb : netB net bits = decide (net % 2 ^ (32 - bits).toNat = 0) := by rw [netB, hb, hn]; rfl
  have C := specIn bits 0 32 w
  have D := specAddr net w
  rw [hb] at C
  rw [hn] at D
  clear Hn
  obtain ⟨s, hs, rfl⟩ := bits_of hb
  rw [pow_of hs] at hnb
  rw [hnb]
  have hn' := inB_true.1 hn
  clear hb hn hnb
  have hw : wrap64 (2 ^ (32 - (32 - s))) = 2 ^ s := by
    rw [show 32 - (32 - s) = s by omega]
    have := pow_le32 hs
    have := pow_pos' s
    unfold wrap64; omega
  have hm := pow_pos' s
  have hm1 := pow_le32 hs
  generalize (2 : Int) ^ s = m at hw hm hm1 ⊢
  have hm0 : ¬ m = 0 := by omega
  have ht : net.tmod m = net % m := Int.tmod_eq_emod_of_nonneg hn'.1
  go_enter Try.func68, Try.ntmps68
  go_wp2_with (first | (go_at_call 49; refine C.mono ?_; rintro e w' ⟨rfl, rfl⟩) | (go_at_call 51; refine D.mono ?_; rintro e w' ⟨rfl, rfl⟩))
  go_ret
  exact ⟨rfl, rfl⟩
end Go.Proofs.Ytdifegaokdoleaa

/-
  Small joins for routes. By the verifier.
-/
namespace Go.Proofs.Ytdifegaokdoleaa
open Go.RowKit

theorem cell_of_below {w w' : World} {n : Nat} (h : Below n w w') {p : Addr} (hp : p.block < n) {v : Value} (c : w.cell? p = some v) : w'.cell? p = some v := by
  rw [h.cell hp]; exact c
theorem ok_parts {r : Rt} (h : r.ok = true) : inB 0 32 r.bits = true ∧ (0 ≤ r.net ∧ r.net ≤ 4294967295) ∧ r.net % 2 ^ (32 - r.bits).toNat = 0 ∧ (0 ≤ r.hop ∧ r.hop ≤ 99) := by
  unfold Rt.ok netB at h
  simp only [Bool.and_eq_true, decide_eq_true_eq, inB_true] at h
  obtain ⟨⟨h1, h2, h3⟩, h4⟩ := h
  exact ⟨by rw [inB_true]; exact h1, h2, h3, h4⟩
end Go.Proofs.Ytdifegaokdoleaa

/-
  Right rules as plain data, and the model's way to tell one. By the verifier.
-/
namespace Go.Proofs.Ytdifegaokdoleaa
open Go.RowKit

/-- A right rule. -/
def Ru.ok (r : Ru) : Bool := inB 1 999 r.id && (inB 0 99 r.prio && (netB r.snet r.sbits && (netB r.dnet r.dbits && (inB (-1) 255 r.proto && (inB 0 65535 r.high && (inB 0 r.high r.low && inB 0 15 r.cls))))))

set_option maxHeartbeats 3200000 in
set_option maxRecDepth 100000 in
theorem specRule (r : Ru) (w : World) :
    Calls Try.prog 43 #[r.val] w fun e w' => e = .returned (.bool r.ok) ∧ w' = w.alloc (.cells r.cells.toArray 32) := by
  have Hok : Hid (r.ok = (inB 1 999 r.id && (inB 0 99 r.prio && (netB r.snet r.sbits && (netB r.dnet r.dbits && (inB (-1) 255 r.proto && (inB 0 65535 r.high && (inB 0 r.high r.low && inB 0 15 r.cls)))))))) := rfl
  obtain ⟨i, p, sn, sb, dn, db, pr, lo, hi, cl⟩ := r
  generalize Ru.ok _ = ok at Hok ⊢
  simp only [Ru.val, Ru.cells] at Hok ⊢
  have A1 := fun w => specIn i 1 999 w
  have A2 := fun w => specIn p 0 99 w
  have A3 := fun w => specNet sn sb w
  have A4 := fun w => specNet dn db w
  have A5 := fun w => specIn pr (-1) 255 w
  have A6 := fun w => specIn hi 0 65535 w
  have A7 := fun w => specIn lo 0 hi w
  have A8 := fun w => specIn cl 0 15 w
  generalize inB 1 999 i = b1 at A1 Hok
  generalize inB 0 99 p = b2 at A2 Hok
  generalize netB sn sb = b3 at A3 Hok
  generalize netB dn db = b4 at A4 Hok
  generalize inB (-1) 255 pr = b5 at A5 Hok
  generalize inB 0 65535 hi = b6 at A6 Hok
  generalize inB 0 hi lo = b7 at A7 Hok
  generalize inB 0 15 cl = b8 at A8 Hok
  have A1' : Hid _ := A1
  have A2' : Hid _ := A2
  have A3' : Hid _ := A3
  have A4' : Hid _ := A4
  have A5' : Hid _ := A5
  have A6' : Hid _ := A6
  have A7' : Hid _ := A7
  have A8' : Hid _ := A8
  clear A1 A2 A3 A4 A5 A6 A7 A8
  go_enter Try.func43, Try.ntmps43
  go_wp2_with fail
  refine (A1'.out _).mono ?_
  rintro e w' ⟨rfl, rfl⟩
  cases b1
  · go_wp2
    go_ret
    exact ⟨ret_bool (by rw [Hok.out]; rfl), rfl⟩
  go_wp2_with fail
  refine (A2'.out _).mono ?_
  rintro e w' ⟨rfl, rfl⟩
  cases b2
  · go_wp2
    go_ret
    exact ⟨ret_bool (by rw [Hok.out]; rfl), rfl⟩
  go_wp2_with fail
  refine (A3'.out _).mono ?_
  rintro e w' ⟨rfl, rfl⟩
  cases b3
  · go_wp2
    go_ret
    exact ⟨ret_bool (by rw [Hok.out]; rfl), rfl⟩
  go_wp2_with fail
  refine (A4'.out _).mono ?_
  rintro e w' ⟨rfl, rfl⟩
  cases b4
  · go_wp2
    go_ret
    exact ⟨ret_bool (by rw [Hok.out]; rfl), rfl⟩
  go_wp2_with fail
  refine (A5'.out _).mono ?_
  rintro e w' ⟨rfl, rfl⟩
  cases b5
  · go_wp2
    go_ret
    exact ⟨ret_bool (by rw [Hok.out]; rfl), rfl⟩
  go_wp2_with fail
  refine (A6'.out _).mono ?_
  rintro e w' ⟨rfl, rfl⟩
  cases b6
  · go_wp2
    go_ret
    exact ⟨ret_bool (by rw [Hok.out]; rfl), rfl⟩
  go_wp2_with fail
  refine (A7'.out _).mono ?_
  rintro e w' ⟨rfl, rfl⟩
  cases b7
  · go_wp2
    go_ret
    exact ⟨ret_bool (by rw [Hok.out]; rfl), rfl⟩
  go_wp2_with fail
  refine (A8'.out _).mono ?_
  rintro e w' ⟨rfl, rfl⟩
  go_wp2
  go_ret
  exact ⟨ret_bool (by rw [Hok.out]; rfl), rfl⟩
end Go.Proofs.Ytdifegaokdoleaa

/-
  The walks of Fits and of what it asks, the program's and the model's. By the verifier.
-/
namespace Go.Proofs.Ytdifegaokdoleaa
open Go.RowKit

theorem implIn {net bits addr : Int} (hb : inB 0 32 bits = true) (n0 : 0 ≤ net) (n1 : net ≤ 4294967295) (hn : net % 2 ^ (32 - bits).toNat = 0) (a0 : 0 ≤ addr) (a1 : addr ≤ 4294967295) (w : World) :
    Calls Try.prog 77 #[.int .i64 net, .int .i64 bits, .int .i64 addr] w fun e w' => e = .returned (.bool (fitB net bits addr)) ∧ w' = w := by
  unfold fitB
  obtain ⟨s, hs, rfl⟩ := bits_of hb
  rw [pow_of hs] at hn ⊢
  clear hb
  have e32 : 32 - (32 - s) = s := by omega
  have hx : Hid (bits .xor .i64 net addr / 2 ^ (32 - (32 - s)) = 0 ↔ addr / 2 ^ s * 2 ^ s = net) := by
    show (bits .xor .i64 net addr / 2 ^ (32 - (32 - s)) = 0 ↔ addr / 2 ^ s * 2 ^ s = net)
    rw [e32, xor_shift n0 n1 a0 a1, fit_two hn]
  clear hn e32
  go_enter Try.func77, Try.ntmps77
  go_wp2
  go_ret
  exact ⟨ret_bool (by rw [Bool.eq_iff_iff, beq_iff_eq, decide_eq_true_iff]; exact hx.out), rfl⟩

set_option maxHeartbeats 1000000 in
theorem implNet (net bits : Int) (w : World) :
    Calls Try.prog 78 #[.int .i64 net, .int .i64 bits] w fun e w' => e = .returned (.bool (netB net bits)) ∧ Below w.heap.size w w' := by
  have C' := implUpTo1 32 bits w w.heap.size rfl
  have D' := implUpTo1 4294967295 net (w.alloc (.cells #[.int .i64 bits] 2)) (w.heap.size + 1) (by simp)
  cases hb : inB 0 32 bits
  · have hb' : netB net bits = false := by rw [netB, hb]; rfl
    rw [hb']
    rw [hb] at C'
    clear D' hb hb'
    go_enter Try.func78, Try.ntmps78
    go_wp2_with (go_at_call 61; refine C'.mono ?_; rintro e w' ⟨rfl, rfl⟩)
    go_ret
    exact ⟨rfl, (Below.refl _ _).alloc (Nat.le_refl _) _⟩
  rw [hb] at C'
  cases hn : inB 0 4294967295 net
  · have hb' : netB net bits = false := by rw [netB, hb, hn]; rfl
    rw [hb']
    rw [hn] at D'
    clear hb hn hb'
    go_enter Try.func78, Try.ntmps78
    go_wp2_with fail
    refine C'.mono ?_
    rintro e w' ⟨rfl, rfl⟩
    go_wp2_with fail
    refine D'.mono ?_
    rintro e w' ⟨rfl, rfl⟩
    go_wp2
    go_ret
    exact ⟨rfl, bel_alloc ((Below.refl _ _).alloc (Nat.le_refl _) _) (Nat.le_refl _) _⟩
  rw [hn] at D'
  have hnb : netB net bits = decide (net % 2 ^ (32 - bits).toNat = 0) := by rw [netB, hb, hn]; rfl
  obtain ⟨s, hs, rfl⟩ := bits_of hb
  rw [pow_of hs] at hnb
  rw [hnb]
  have hn' := inB_true.1 hn
  have ha := and_mask hs hn'.1 hn'.2
  have hw : wrap64 (2 ^ (32 - (32 - s))) = 2 ^ s := by
    rw [show 32 - (32 - s) = s by omega]
    have := pow_le32 hs
    have := pow_pos' s
    unfold wrap64; omega
  have hm := pow_pos' s
  have hm1 := pow_le32 hs
  clear hb hn hnb
  generalize (2 : Int) ^ s = m at hw hm hm1 ha ⊢
  go_enter Try.func78, Try.ntmps78
  go_wp2_with fail
  refine C'.mono ?_
  rintro e w' ⟨rfl, rfl⟩
  go_wp2_with fail
  refine D'.mono ?_
  rintro e w' ⟨rfl, rfl⟩
  go_wp2

  go_ret
  exact ⟨rfl, bel_alloc ((Below.refl _ _).alloc (Nat.le_refl _) _) (Nat.le_refl _) _⟩
end Go.Proofs.Ytdifegaokdoleaa

/-
  The walk of the model's fit by bits. By the verifier.
-/
namespace Go.Proofs.Ytdifegaokdoleaa
open Go.RowKit

theorem specFit {net bits addr : Int} (hb : inB 0 32 bits = true) (a0 : 0 ≤ addr) (a1 : addr ≤ 4294967295) (w : World) :
    Calls Try.prog 69 #[.int .i64 net, .int .i64 bits, .int .i64 addr] w fun e w' => e = .returned (.bool (fitB net bits addr)) ∧ w' = w := by
  unfold fitB
  obtain ⟨s, hs, rfl⟩ := bits_of hb
  rw [pow_of hs]
  clear hb
  have e32 : 32 - (32 - s) = s := by omega
  have hq : addr / 2 ^ s * 2 ^ s ≤ addr := Int.ediv_mul_le _ (by have := pow_pos' s; omega)
  have hq0 : 0 ≤ addr / 2 ^ s := Int.ediv_nonneg a0 (Int.le_of_lt (pow_pos' s))
  have hq2 : 0 ≤ addr / 2 ^ s * 2 ^ s := Int.mul_nonneg hq0 (Int.le_of_lt (pow_pos' s))
  have hw : wrap64 (addr / 2 ^ (32 - (32 - s)) * 2 ^ (32 - (32 - s))) = addr / 2 ^ s * 2 ^ s := by
    rw [e32]
    exact wrap_small hq2 (by omega)
  generalize addr / 2 ^ s * 2 ^ s = q at hw ⊢
  clear hq hq0 hq2 e32
  go_enter Try.func69, Try.ntmps69
  go_wp2
  go_ret
  exact ⟨rfl, rfl⟩
end Go.Proofs.Ytdifegaokdoleaa
