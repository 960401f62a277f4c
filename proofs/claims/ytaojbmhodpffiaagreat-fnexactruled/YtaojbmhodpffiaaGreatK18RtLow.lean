import Derived.Test.YtaojbmhodpffiaaGreatK16Nums
import Derived.Test.YtaojbmhodpffiaaGreatK7RtPlain
import Derived.Test.YtaojbmhodpffiaaGreatK8GtSpot
import Derived.Test.YtaojbmhodpffiaaGreatK6NdPlain
import Derived.Test.YtaojbmhodpffiaaGreatK17RwFn
import Derived.Test.YtaojbmhodpffiaaGreatK14FsFn
/-
  The model's way to tell a right net. By the verifier.
-/
namespace Go.Proofs.YtaojbmhodpffiaaGreat
open Go.RowKit

theorem specNet (net bits : Int) (w : World) :
    Calls Tryz.prog 135 #[.int .i64 net, .int .i64 bits] w fun e w' => e = .returned (.bool (netB net bits)) ∧ w' = w := by
  have Hn : Hid (netB net bits = _) := rfl
  cases hb : inB 0 32 bits
  · have hb' : netB net bits = false := by rw [netB, hb]; rfl
    rw [hb']
    clear Hn hb'
    have C := specIn bits 0 32 w
    rw [hb] at C
    clear hb
    go_enter Tryz.func135, Tryz.ntmps135
    go_wp2_with (go_at_call 36; refine C.mono ?_; rintro e w' ⟨rfl, rfl⟩)
    go_ret
    exact ⟨rfl, rfl⟩
  cases hn : inB 0 4294967295 net
  · have hb' : netB net bits = false := by rw [netB, hb, hn]; rfl
    rw [hb']
    clear Hn hb'
    have C := specIn bits 0 32 w
    have D := specAddr net w
    rw [hb] at C
    rw [hn] at D
    clear hb hn
    go_enter Tryz.func135, Tryz.ntmps135
    go_wp2_with (first | (go_at_call 36; refine C.mono ?_; rintro e w' ⟨rfl, rfl⟩) | (go_at_call 167; refine D.mono ?_; rintro e w' ⟨rfl, rfl⟩))
    go_ret
    exact ⟨rfl, rfl⟩
  have hnb : netB net bits = decide (net % 2 ^ (32 - bits).toNat = 0) := by rw [netB, hb, hn]; rfl
  have C := specIn bits 0 32 w
  have D := specAddr net w
  rw [hb] at C
  rw [hn] at D
  clear Hn
  obtain ⟨s, hs, rfl⟩ := bits_of hb
  rw [pow_of hs] at hnb
  rw [hnb]
  have hn' := inB_true.1 hn
  clear hb hn hnb
  have hw : wrap64 (2 ^ (32 - (32 - s))) = 2 ^ s := by
    rw [show 32 - (32 - s) = s by omega]
    have := pow_le32 hs
    have := pow_pos' s
    unfold wrap64; omega
  have hm := pow_pos' s
  have hm1 := pow_le32 hs
  generalize (2 : Int) ^ s = m at hw hm hm1 ⊢
  have hm0 : ¬ m = 0 := by omega
  have ht : net.tmod m = net % m := Int.tmod_eq_emod_of_nonneg hn'.1
  go_enter Tryz.func135, Tryz.ntmps135
  go_wp2_with (first | (go_at_call 36; refine C.mono ?_; rintro e w' ⟨rfl, rfl⟩) | (go_at_call 167; refine D.mono ?_; rintro e w' ⟨rfl, rfl⟩))
  go_ret
  exact ⟨rfl, rfl⟩
end Go.Proofs.YtaojbmhodpffiaaGreat

/-
  Right rules as plain data, and the model's way to tell one. By the verifier.
-/
namespace Go.Proofs.YtaojbmhodpffiaaGreat
open Go.RowKit

/-- A right rule. -/
def Ru.ok (r : Ru) : Bool := inB 1 999 r.id && (inB 0 99 r.prio && (netB r.snet r.sbits && (netB r.dnet r.dbits && (inB (-1) 255 r.proto && (inB 0 65535 r.high && (inB 0 r.high r.low && inB 0 15 r.cls))))))

set_option maxHeartbeats 3200000 in
set_option maxRecDepth 100000 in
theorem specRule (r : Ru) (w : World) :
    Calls Tryz.prog 86 #[r.val] w fun e w' => e = .returned (.bool r.ok) ∧ w' = w.alloc (.cells r.cells.toArray 120) := by
  have Hok : Hid (r.ok = (inB 1 999 r.id && (inB 0 99 r.prio && (netB r.snet r.sbits && (netB r.dnet r.dbits && (inB (-1) 255 r.proto && (inB 0 65535 r.high && (inB 0 r.high r.low && inB 0 15 r.cls)))))))) := rfl
  obtain ⟨i, p, sn, sb, dn, db, pr, lo, hi, cl⟩ := r
  generalize Ru.ok _ = ok at Hok ⊢
  simp only [Ru.val, Ru.cells] at Hok ⊢
  have A1 := fun w => specIn i 1 999 w
  have A2 := fun w => specIn p 0 99 w
  have A3 := fun w => specNet sn sb w
  have A4 := fun w => specNet dn db w
  have A5 := fun w => specIn pr (-1) 255 w
  have A6 := fun w => specIn hi 0 65535 w
  have A7 := fun w => specIn lo 0 hi w
  have A8 := fun w => specIn cl 0 15 w
  generalize inB 1 999 i = b1 at A1 Hok
  generalize inB 0 99 p = b2 at A2 Hok
  generalize netB sn sb = b3 at A3 Hok
  generalize netB dn db = b4 at A4 Hok
  generalize inB (-1) 255 pr = b5 at A5 Hok
  generalize inB 0 65535 hi = b6 at A6 Hok
  generalize inB 0 hi lo = b7 at A7 Hok
  generalize inB 0 15 cl = b8 at A8 Hok
  have A1' : Hid _ := A1
  have A2' : Hid _ := A2
  have A3' : Hid _ := A3
  have A4' : Hid _ := A4
  have A5' : Hid _ := A5
  have A6' : Hid _ := A6
  have A7' : Hid _ := A7
  have A8' : Hid _ := A8
  clear A1 A2 A3 A4 A5 A6 A7 A8
  go_enter Tryz.func86, Tryz.ntmps86
  go_wp2_with fail
  refine (A1'.out _).mono ?_
  rintro e w' ⟨rfl, rfl⟩
  cases b1
  · go_wp2
    go_ret
    exact ⟨ret_bool (by rw [Hok.out]; rfl), rfl⟩
  go_wp2_with fail
  refine (A2'.out _).mono ?_
  rintro e w' ⟨rfl, rfl⟩
  cases b2
  · go_wp2
    go_ret
    exact ⟨ret_bool (by rw [Hok.out]; rfl), rfl⟩
  go_wp2_with fail
  refine (A3'.out _).mono ?_
  rintro e w' ⟨rfl, rfl⟩
  cases b3
  · go_wp2
    go_ret
    exact ⟨ret_bool (by rw [Hok.out]; rfl), rfl⟩
  go_wp2_with fail
  refine (A4'.out _).mono ?_
  rintro e w' ⟨rfl, rfl⟩
  cases b4
  · go_wp2
    go_ret
    exact ⟨ret_bool (by rw [Hok.out]; rfl), rfl⟩
  go_wp2_with fail
  refine (A5'.out _).mono ?_
  rintro e w' ⟨rfl, rfl⟩
  cases b5
  · go_wp2
    go_ret
    exact ⟨ret_bool (by rw [Hok.out]; rfl), rfl⟩
  go_wp2_with fail
  refine (A6'.out _).mono ?_
  rintro e w' ⟨rfl, rfl⟩
  cases b6
  · go_wp2
    go_ret
    exact ⟨ret_bool (by rw [Hok.out]; rfl), rfl⟩
  go_wp2_with fail
  refine (A7'.out _).mono ?_
  rintro e w' ⟨rfl, rfl⟩
  cases b7
  · go_wp2
    go_ret
    exact ⟨ret_bool (by rw [Hok.out]; rfl), rfl⟩
  go_wp2_with fail
  refine (A8'.out _).mono ?_
  rintro e w' ⟨rfl, rfl⟩
  go_wp2
  go_ret
  exact ⟨ret_bool (by rw [Hok.out]; rfl), rfl⟩
end Go.Proofs.YtaojbmhodpffiaaGreat

/-
  Right rules, in plain words. By the verifier.
-/
namespace Go.Proofs.YtaojbmhodpffiaaGreat
open Go.RowKit

/-- Right, and behind the one ahead. -/
def goodR (l : List Ru) (i : Nat) : Bool := (ruAt l i).ok && (decide (i = 0) || decide ((ruAt l (i - 1)).id < (ruAt l i).id))
/-- The first k are. -/
def goodRs (l : List Ru) (k : Nat) : Bool := (List.range k).all (goodR l)
theorem goodRs_succ (l : List Ru) (k : Nat) : goodRs l (k + 1) = (goodRs l k && goodR l k) := by simp [goodRs, List.range_succ]
theorem goodRs_hit {l : List Ru} {k n : Nat} (h : k < n) (g : goodR l k = false) : goodRs l n = false := by
  unfold goodRs
  rw [List.all_eq_false]
  exact ⟨k, List.mem_range.2 h, by simp [g]⟩
/-- Right rules. -/
def rusOk (l : List Ru) : Bool := decide (l.length ≤ 40) && goodRs l l.length
end Go.Proofs.YtaojbmhodpffiaaGreat

/-
  Purses as plain data: when one is right, filled, spent, and when there is so much. By the verifier.
-/
namespace Go.Proofs.YtaojbmhodpffiaaGreat
open Go.RowKit

/-- A right purse. -/
def Pz.ok (p : Pz) : Bool := inB 0 1000 p.rate && (inB 1 100000 p.burst && (inB 0 p.burst p.level && inB 0 1099511627776 p.tm))
theorem Pz.ok_iff {p : Pz} : p.ok = true ↔ (0 ≤ p.rate ∧ p.rate ≤ 1000) ∧ (1 ≤ p.burst ∧ p.burst ≤ 100000) ∧ (0 ≤ p.level ∧ p.level ≤ p.burst) ∧ (0 ≤ p.tm ∧ p.tm ≤ 1099511627776) := by
  unfold Pz.ok
  simp only [Bool.and_eq_true, inB_true]
/-- Filled, at a time that is right. -/
def Pz.fill (p : Pz) (now : Int) : Pz := ⟨p.rate, p.burst, min p.burst (p.level + p.rate * (now - p.tm)), now⟩
def Pz.may (p : Pz) (now n : Int) : Bool := decide (0 ≤ n) && decide (n ≤ (p.fill now).level)
/-- The time at which there is so much. -/
def Pz.whenL (p : Pz) (n : Int) : Int := if n ≤ p.level then p.tm else if p.rate = 0 ∨ p.burst < n then -1 else if 1099511627776 < p.tm + (n - p.level + p.rate - 1) / p.rate then -1 else p.tm + (n - p.level + p.rate - 1) / p.rate
def Pz.when (p : Pz) (n : Int) : Int := if p.ok = true ∧ 0 ≤ n then p.whenL n else -1
end Go.Proofs.YtaojbmhodpffiaaGreat

/-
  Trees as plain data: which are right, the path of a node, filled, paid, when there is so much. By the verifier.
-/
namespace Go.Proofs.YtaojbmhodpffiaaGreat
open Go.RowKit

/-- Is it right at its place? -/
def Nd.fits (x : Nd) (k : Nat) (t0 : Int) : Bool := x.pz.ok && (decide (x.pz.tm = t0) && (if k = 0 then decide (x.up = -1) else (decide (0 ≤ x.up) && decide (x.up < (k : Int)))))
def treeB (l : List Nd) (k : Nat) : Bool := (ndAt l k).fits k (ndAt l 0).pz.tm
/-- A right tree. -/
def tok (l : List Nd) : Bool := decide (1 ≤ l.length) && (decide (l.length ≤ 12) && (List.range l.length).all (treeB l))
theorem tok_iff {l : List Nd} : tok l = true ↔ 1 ≤ l.length ∧ l.length ≤ 12 ∧ ∀ k, k < l.length → treeB l k = true := by
  unfold tok
  simp only [Bool.and_eq_true, decide_eq_true_eq, List.all_eq_true, List.mem_range]
/-- So much less. -/
def Nd.less (x : Nd) (size : Int) : Nd := ⟨x.up, ⟨x.pz.rate, x.pz.burst, x.pz.level - size, x.pz.tm⟩⟩
end Go.Proofs.YtaojbmhodpffiaaGreat

/-
  Steers as plain data: when one is right, stirred, hit, and stirred many times. By the verifier.
-/
namespace Go.Proofs.YtaojbmhodpffiaaGreat
open Go.RowKit

/-- A right steer. -/
def Sr.ok (p : Sr) : Bool := inB 1 1000 p.target && (inB 0 100000 p.old && inB 0 1048576 p.prob)
theorem Sr.ok_iff {p : Sr} : p.ok = true ↔ (1 ≤ p.target ∧ p.target ≤ 1000) ∧ (0 ≤ p.old ∧ p.old ≤ 100000) ∧ (0 ≤ p.prob ∧ p.prob ≤ 1048576) := by
  unfold Sr.ok
  simp only [Bool.and_eq_true, inB_true]
/-- What is added, ahead of the divisor. -/
def Sr.add (p : Sr) (d : Int) : Int := (d - p.target) * 2 + (d - p.old) * 20
def Sr.hit (p : Sr) (x : Int) : Bool := p.ok && (inB 0 1048575 x && decide (x < p.prob))
end Go.Proofs.YtaojbmhodpffiaaGreat

/-
  Which gates are right, in plain words. By the verifier.
-/
namespace Go.Proofs.YtaojbmhodpffiaaGreat
open Go.RowKit

/-- All but its leaves. -/
def Gt.head (g : Gt) : Bool := g.ln.ok && (rtsOk g.routes && (rusOk g.rules && (tok g.tree && (decide (1 ≤ g.leaves.length) && (decide (g.leaves.length ≤ 8) && (g.rows.ok && (decide (g.rows.lists.length = g.leaves.length) && (decide (g.steers.length = g.leaves.length) && (g.fair.ok && (decide (g.fair.flows.length = g.leaves.length) && (inB 1 1000000 g.next && inB 0 1048575 g.draw)))))))))))
/-- An Item of a leaf. -/
def Gt.itemB (g : Gt) (i k : Nat) : Bool := decide ((itAt (izAt g.rows.lists i) k).id < g.next) && decide (g.ln.takes (itAt (izAt g.rows.lists i) k).size = (fwAt g.fair.flows i).sizes[k]?.getD 0)
/-- A leaf. -/
def Gt.leafB (g : Gt) (i : Nat) : Bool := decide (0 ≤ g.leaves[i]?.getD 0) && (decide (g.leaves[i]?.getD 0 < (g.tree.length : Int)) && ((decide (i = 0) || decide (g.leaves[i - 1]?.getD 0 < g.leaves[i]?.getD 0)) && ((srAt g.steers i).ok && (decide ((fwAt g.fair.flows i).sizes.length = (izAt g.rows.lists i).length) && (List.range (izAt g.rows.lists i).length).all (g.itemB i)))))
def Gt.ok (g : Gt) : Bool := g.head && (List.range g.leaves.length).all g.leafB
theorem Gt.ok_iff {g : Gt} : g.ok = true ↔ g.head = true ∧ ∀ i, i < g.leaves.length → g.leafB i = true := by
  unfold Gt.ok
  simp only [Bool.and_eq_true, List.all_eq_true, List.mem_range]
end Go.Proofs.YtaojbmhodpffiaaGreat

/-
  The walk of a right route, the model's. By the verifier.
-/
namespace Go.Proofs.YtaojbmhodpffiaaGreat
open Go.RowKit

theorem specRoute (r : Rt) (w : World) :
    Calls Tryz.prog 85 #[r.val] w fun e w' => e = .returned (.bool r.ok) ∧ w' = w.alloc (.cells #[.int .i64 r.net, .int .i64 r.bits, .int .i64 r.hop] 116) := by
  unfold Rt.ok Rt.val
  obtain ⟨net, bits, hop⟩ := r
  simp only []
  have C := fun w => specNet net bits w
  have D := fun w => specIn hop 0 99 w
  cases hn : netB net bits
  · rw [hn] at C
    clear D hn
    go_enter Tryz.func85, Tryz.ntmps85
    go_wp2_with (go_at_call 135; refine (C _).mono ?_; rintro e w' ⟨rfl, rfl⟩)
    go_ret
    exact ⟨rfl, rfl⟩
  · rw [hn] at C
    clear hn
    generalize inB 0 99 hop = b at D ⊢
    go_enter Tryz.func85, Tryz.ntmps85
    go_wp2_with (first | (go_at_call 135; refine (C _).mono ?_; rintro e w' ⟨rfl, rfl⟩) | (go_at_call 36; refine (D _).mono ?_; rintro e w' ⟨rfl, rfl⟩))
    go_ret
    exact ⟨rfl, rfl⟩

end Go.Proofs.YtaojbmhodpffiaaGreat

/-
  Small joins for routes. By the verifier.
-/
namespace Go.Proofs.YtaojbmhodpffiaaGreat
open Go.RowKit

theorem cell_of_below {w w' : World} {n : Nat} (h : Below n w w') {p : Addr} (hp : p.block < n) {v : Value} (c : w.cell? p = some v) : w'.cell? p = some v := by
  rw [h.cell hp]; exact c
theorem ok_parts {r : Rt} (h : r.ok = true) : inB 0 32 r.bits = true ∧ (0 ≤ r.net ∧ r.net ≤ 4294967295) ∧ r.net % 2 ^ (32 - r.bits).toNat = 0 ∧ (0 ≤ r.hop ∧ r.hop ≤ 99) := by
  unfold Rt.ok netB at h
  simp only [Bool.and_eq_true, decide_eq_true_eq, inB_true] at h
  obtain ⟨⟨h1, h2, h3⟩, h4⟩ := h
  exact ⟨by rw [inB_true]; exact h1, h2, h3, h4⟩
end Go.Proofs.YtaojbmhodpffiaaGreat
