/-
  The last of so many bits, turned and struck, as plain numbers. By the verifier.
-/
import Derived.Test.YtilnjmpnhadidaaM2
namespace Go.Proofs.Ytilnjmpnhadidaa
open Go.RowKit

/-- A net cut to its first bits. -/
def cutV (net : Int) (k : Nat) : Int := net / 2 ^ (32 - k) * 2 ^ (32 - k)
/-- The one that differs in the last bit. -/
def twinV (net : Int) (s : Nat) : Int := if net / 2 ^ s % 2 = 0 then net + 2 ^ s else net - 2 ^ s
theorem xor_mod2 (a b : Nat) : (a ^^^ b) % 2 = (a + b) % 2 := by
  have h := @Nat.xor_mod_two_eq_one a b
  omega
theorem xor_one (m : Nat) : m ^^^ 1 = if m % 2 = 0 then m + 1 else m - 1 := by
  have h1 : (m ^^^ 1) / 2 = m / 2 := by rw [Nat.xor_div_two]; simp
  have h2 : (m ^^^ 1) % 2 = (m + 1) % 2 := by rw [xor_mod2]
  split <;> omega
theorem xor_low (m : Nat) : m ^^^ (m % 2) = m / 2 * 2 := by
  have h1 : (m ^^^ (m % 2)) / 2 = m / 2 := by rw [Nat.xor_div_two, show m % 2 / 2 = 0 by omega]; simp
  have h2 : (m ^^^ (m % 2)) % 2 = (m + m % 2) % 2 := by rw [xor_mod2]
  omega
theorem natpow (s : Nat) : ((2 ^ s : Nat) : Int) = (2 : Int) ^ s := by simp
theorem xor_last {net : Int} {s : Nat} (hs : s ≤ 32) (n0 : 0 ≤ net) (n1 : net ≤ 4294967295) (hm : net % 2 ^ s = 0) : bits .xor .i64 net (2 ^ s) = twinV net s := by
  obtain ⟨x, rfl⟩ := Int.eq_ofNat_of_zero_le n0
  have e := natpow s
  have p1 := pow_le32 hs
  have p0 := pow_pos' s
  obtain ⟨m, hx⟩ : ∃ m, x = m * 2 ^ s := by
    refine ⟨x / 2 ^ s, ?_⟩
    have h := Nat.div_add_mod x (2 ^ s)
    have h2 : x % 2 ^ s = 0 := by
      have : ((x % 2 ^ s : Nat) : Int) = 0 := by rw [Int.natCast_emod, e]; exact hm
      omega
    rw [h2, Nat.mul_comm] at h
    omega
  have hp : 0 < 2 ^ s := Nat.two_pow_pos s
  have hdiv : x / 2 ^ s = m := by rw [hx]; exact Nat.mul_div_cancel _ hp
  have hxor : x ^^^ 2 ^ s = (m ^^^ 1) * 2 ^ s := by
    have h1 : x = m <<< s := by rw [hx, Nat.shiftLeft_eq]
    have h2 : 2 ^ s = 1 <<< s := by rw [Nat.shiftLeft_eq, Nat.one_mul]
    conv => lhs; rw [h1, h2]
    rw [← Nat.shiftLeft_xor_distrib, Nat.shiftLeft_eq]
  have hlt : x < 2 ^ 33 := by omega
  have hz : x ^^^ 2 ^ s < 2 ^ 33 := Nat.xor_lt_two_pow hlt (Nat.pow_lt_pow_right (by decide) (by omega))
  have key : bits .xor .i64 (x : Int) ((2 : Int) ^ s) = ((x ^^^ 2 ^ s : Nat) : Int) := by
    show IntKind.i64.wrap ((BitVec.ofInt 64 (x : Int) ^^^ BitVec.ofInt 64 ((2 : Int) ^ s)).toNat : Nat) = _
    rw [BitVec.toNat_xor, BitVec.toNat_ofInt, BitVec.toNat_ofInt, IntKind.wrap_i64]
    rw [show (((x : Int) % ((2 ^ 64 : Nat) : Int)).toNat) = x by omega, show ((((2 : Int) ^ s) % ((2 ^ 64 : Nat) : Int)).toNat) = 2 ^ s by omega]
    omega
  rw [key, hxor, xor_one]
  unfold twinV
  have hdi : (x : Int) / 2 ^ s = (m : Int) := by rw [← e, ← Int.natCast_ediv, hdiv]
  rw [hdi]
  have hxi : (x : Int) = m * 2 ^ s := by rw [hx]; simp
  by_cases hm2 : m % 2 = 0
  · rw [if_pos hm2, if_pos (by omega), hxi]
    rw [Int.natCast_mul, e]
    have : ((m + 1 : Nat) : Int) = (m : Int) + 1 := by simp
    rw [this, Int.add_mul, Int.one_mul]
  · rw [if_neg hm2, if_neg (by omega), hxi]
    rw [Int.natCast_mul, e]
    have : ((m - 1 : Nat) : Int) = (m : Int) - 1 := by omega
    rw [this, Int.sub_mul, Int.one_mul]
theorem andNot_last {net : Int} {s : Nat} (hs : s ≤ 32) (n0 : 0 ≤ net) (n1 : net ≤ 4294967295) (hm : net % 2 ^ s = 0) : bits .andNot .i64 net (2 ^ s) = net / 2 ^ (s + 1) * 2 ^ (s + 1) := by
  obtain ⟨x, rfl⟩ := Int.eq_ofNat_of_zero_le n0
  have e := natpow s
  have p1 := pow_le32 hs
  have p0 := pow_pos' s
  obtain ⟨m, hx⟩ : ∃ m, x = m * 2 ^ s := by
    refine ⟨x / 2 ^ s, ?_⟩
    have h := Nat.div_add_mod x (2 ^ s)
    have h2 : x % 2 ^ s = 0 := by
      have : ((x % 2 ^ s : Nat) : Int) = 0 := by rw [Int.natCast_emod, e]; exact hm
      omega
    rw [h2, Nat.mul_comm] at h
    omega
  have hp : 0 < 2 ^ s := Nat.two_pow_pos s
  have hand : x &&& 2 ^ s = (m % 2) * 2 ^ s := by
    have h1 : x = m <<< s := by rw [hx, Nat.shiftLeft_eq]
    have h2 : 2 ^ s = 1 <<< s := by rw [Nat.shiftLeft_eq, Nat.one_mul]
    conv => lhs; rw [h1, h2]
    rw [← Nat.shiftLeft_and_distrib, Nat.shiftLeft_eq, Nat.and_one_is_mod]
  have hxor : x ^^^ (x &&& 2 ^ s) = m / 2 * 2 * 2 ^ s := by
    rw [hand]
    have h1 : x = m <<< s := by rw [hx, Nat.shiftLeft_eq]
    have h2 : (m % 2) * 2 ^ s = (m % 2) <<< s := by rw [Nat.shiftLeft_eq]
    rw [h1, h2, ← Nat.shiftLeft_xor_distrib, Nat.shiftLeft_eq, xor_low]
  have hle : m / 2 * 2 * 2 ^ s ≤ x := by rw [hx]; exact Nat.mul_le_mul_right _ (by omega)
  have bv : ∀ a b : BitVec 64, a &&& ~~~b = a ^^^ (a &&& b) := by
    intro a b
    apply BitVec.eq_of_getElem_eq
    intro i hi
    simp only [BitVec.getElem_and, BitVec.getElem_not, BitVec.getElem_xor]
    cases a[i] <;> cases b[i] <;> rfl
  have key : bits .andNot .i64 (x : Int) ((2 : Int) ^ s) = ((x ^^^ (x &&& 2 ^ s) : Nat) : Int) := by
    show IntKind.i64.wrap ((BitVec.ofInt 64 (x : Int) &&& ~~~ BitVec.ofInt 64 ((2 : Int) ^ s)).toNat : Nat) = _
    rw [bv, BitVec.toNat_xor, BitVec.toNat_and, BitVec.toNat_ofInt, BitVec.toNat_ofInt, IntKind.wrap_i64]
    rw [show (((x : Int) % ((2 ^ 64 : Nat) : Int)).toNat) = x by omega, show ((((2 : Int) ^ s) % ((2 ^ 64 : Nat) : Int)).toNat) = 2 ^ s by omega]
    omega
  rw [key, hxor]
  have hd : x / 2 ^ (s + 1) = m / 2 := by
    rw [Nat.pow_succ, ← Nat.div_div_eq_div_mul, hx, Nat.mul_div_cancel _ hp]
  have hdi : (x : Int) / 2 ^ (s + 1) = ((m / 2 : Nat) : Int) := by
    rw [← natpow (s + 1), ← Int.natCast_ediv, hd]
  rw [hdi, Int.pow_succ]
  rw [Int.natCast_mul, Int.natCast_mul, e, Int.mul_assoc, Int.mul_comm ((2 : Nat) : Int)]
  rfl
theorem cut_mod (net : Int) (k : Nat) : cutV net k % 2 ^ (32 - k) = 0 := by unfold cutV; exact Int.mul_emod_left _ _
theorem cut_in {net : Int} (n0 : 0 ≤ net) (n1 : net ≤ 4294967295) (k : Nat) : 0 ≤ cutV net k ∧ cutV net k ≤ 4294967295 := by
  unfold cutV
  have p0 := pow_pos' (32 - k)
  have h1 := Int.ediv_mul_le net (b := 2 ^ (32 - k)) (by omega)
  have h2 : 0 ≤ net / 2 ^ (32 - k) := Int.ediv_nonneg n0 (by omega)
  have h3 := Int.mul_nonneg h2 (Int.le_of_lt p0)
  exact ⟨h3, by omega⟩
/-- One bit less. -/
theorem cut_up {net : Int} (n0 : 0 ≤ net) (n1 : net ≤ 4294967295) {k : Nat} (hk : k < 32) : bits .andNot .i64 (cutV net (k + 1)) (2 ^ (32 - (k + 1))) = cutV net k := by
  have hc := cut_in n0 n1 (k + 1)
  rw [andNot_last (by omega) hc.1 hc.2 (cut_mod net (k + 1)), show 32 - (k + 1) + 1 = 32 - k by omega]
  have p0 := pow_pos' (32 - (k + 1))
  have hh : (2 : Int) ^ (32 - k) = 2 ^ (32 - (k + 1)) * 2 := by rw [show 32 - k = 32 - (k + 1) + 1 by omega, Int.pow_succ]
  unfold cutV
  congr 1
  rw [hh, ← Int.ediv_ediv_of_nonneg (Int.le_of_lt p0), ← Int.ediv_ediv_of_nonneg (Int.le_of_lt p0), Int.mul_ediv_cancel _ (by omega)]
theorem cut_own {r : Rt} (h : r.ok = true) : cutV r.net r.bits.toNat = r.net := by
  obtain ⟨h1, h2, h3, _⟩ := ok_split h
  unfold cutV
  rw [show 32 - r.bits.toNat = (32 - r.bits).toNat by omega]
  have := Int.mul_ediv_add_emod r.net (2 ^ (32 - r.bits).toNat)
  rw [h3, Int.mul_comm] at this
  omega
end Go.Proofs.Ytilnjmpnhadidaa
