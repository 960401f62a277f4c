import Derived.Test.YtgebghkcikmfaaaGreatDoorQJ1FrInner
import Derived.Test.YtgebghkcikmfaaaGreatDoorQJ2RuMatch
import Derived.Test.YtgebghkcikmfaaaGreatDoorQJ19RtOkS
import Derived.Test.YtgebghkcikmfaaaGreatDoorQJ11GtFacts
import Derived.Test.YtgebghkcikmfaaaGreatDoorQJ0NumUp
import Derived.Shelf.Abstract
import Derived.Test.YtgebghkcikmfaaaGreatDoorQJ9RuApp
import Derived.Laws.CopyRow
import Derived.Laws.CopyOwn
import Derived.Laws.Rows
import Derived.Laws.Tables
/-
  The walks of Fits and of what it asks, the program's and the model's. By the verifier.
-/
namespace Go.Proofs.YtgebghkcikmfaaaGreatDoor
open Go.RowKit

set_option maxHeartbeats 1000000 in
theorem implNet (net bits : Int) (w : World) :
    Calls Tryz.prog 260 #[.int .i64 net, .int .i64 bits] w fun e w' => e = .returned (.bool (netB net bits)) ∧ Below w.heap.size w w' := by
  have C' := implUpTo1 32 bits w w.heap.size rfl
  have D' := implUpTo1 4294967295 net (w.alloc (.cells #[.int .i64 bits] 2)) (w.heap.size + 1) (by simp)
  cases hb : inB 0 32 bits
  · have hb' : netB net bits = false := by rw [netB, hb]; rfl
    rw [hb']
    rw [hb] at C'
    clear D' hb hb'
    go_enter Tryz.func260, Tryz.ntmps260
    go_wp2_with (go_at_call 94; refine C'.mono ?_; rintro e w' ⟨rfl, rfl⟩)
    go_ret
    exact ⟨rfl, (Below.refl _ _).alloc (Nat.le_refl _) _⟩
  rw [hb] at C'
  cases hn : inB 0 4294967295 net
  · have hb' : netB net bits = false := by rw [netB, hb, hn]; rfl
    rw [hb']
    rw [hn] at D'
    clear hb hn hb'
    go_enter Tryz.func260, Tryz.ntmps260
    go_wp2_with fail
    refine C'.mono ?_
    rintro e w' ⟨rfl, rfl⟩
    go_wp2_with fail
    refine D'.mono ?_
    rintro e w' ⟨rfl, rfl⟩
    go_wp2
    go_ret
    exact ⟨rfl, bel_alloc ((Below.refl _ _).alloc (Nat.le_refl _) _) (Nat.le_refl _) _⟩
  rw [hn] at D'
  have hnb : netB net bits = decide (net % 2 ^ (32 - bits).toNat = 0) := by rw [netB, hb, hn]; rfl
  obtain ⟨s, hs, rfl⟩ := bits_of hb
  rw [pow_of hs] at hnb
  rw [hnb]
  have hn' := inB_true.1 hn
  have ha := and_mask hs hn'.1 hn'.2
  have hw : wrap64 (2 ^ (32 - (32 - s))) = 2 ^ s := by
    rw [show 32 - (32 - s) = s by omega]
    have := pow_le32 hs
    have := pow_pos' s
    unfold wrap64; omega
  have hm := pow_pos' s
  have hm1 := pow_le32 hs
  clear hb hn hnb
  generalize (2 : Int) ^ s = m at hw hm hm1 ha ⊢
  go_enter Tryz.func260, Tryz.ntmps260
  go_wp2_with fail
  refine C'.mono ?_
  rintro e w' ⟨rfl, rfl⟩
  go_wp2_with fail
  refine D'.mono ?_
  rintro e w' ⟨rfl, rfl⟩
  go_wp2

  go_ret
  exact ⟨rfl, bel_alloc ((Below.refl _ _).alloc (Nat.le_refl _) _) (Nat.le_refl _) _⟩
end Go.Proofs.YtgebghkcikmfaaaGreatDoor

/-
  Whether an address lies in a net, by the program. By the verifier.
-/
namespace Go.Proofs.YtgebghkcikmfaaaGreatDoor
open Go.RowKit

theorem implIn {net bits addr : Int} (hb : inB 0 32 bits = true) (n0 : 0 ≤ net) (n1 : net ≤ 4294967295) (hn : net % 2 ^ (32 - bits).toNat = 0) (a0 : 0 ≤ addr) (a1 : addr ≤ 4294967295) (w : World) :
    Calls Tryz.prog 282 #[.int .i64 net, .int .i64 bits, .int .i64 addr] w fun e w' => e = .returned (.bool (fitB net bits addr)) ∧ w' = w := by
  unfold fitB
  obtain ⟨s, hs, rfl⟩ := bits_of hb
  rw [pow_of hs] at hn ⊢
  clear hb
  have e32 : 32 - (32 - s) = s := by omega
  have hx : Hid (bits .xor .i64 net addr / 2 ^ (32 - (32 - s)) = 0 ↔ addr / 2 ^ s * 2 ^ s = net) := by
    show (bits .xor .i64 net addr / 2 ^ (32 - (32 - s)) = 0 ↔ addr / 2 ^ s * 2 ^ s = net)
    rw [e32, xor_shift n0 n1 a0 a1, fit_two hn]
  clear hn e32
  go_enter Tryz.func282, Tryz.ntmps282
  go_wp2
  go_ret
  exact ⟨ret_bool (by rw [Bool.eq_iff_iff, beq_iff_eq, decide_eq_true_iff]; exact hx.out), rfl⟩
end Go.Proofs.YtgebghkcikmfaaaGreatDoor

/-
  The walks of a right route and of Fits, the program's and the model's. By the verifier.
-/
namespace Go.Proofs.YtgebghkcikmfaaaGreatDoor
open Go.RowKit

theorem implRoute (r : Rt) (w : World) :
    Calls Tryz.prog 212 #[r.val] w fun e w' => e = .returned (.bool r.ok) ∧ Below w.heap.size w w' := by
  unfold Rt.ok Rt.val
  obtain ⟨net, bits, hop⟩ := r
  simp only []
  have C := fun w => implNet net bits w
  cases hn : netB net bits
  · rw [hn] at C
    clear hn
    go_enter Tryz.func212, Tryz.ntmps212
    go_wp2_with fail
    refine (C _).mono ?_
    rintro e w1 ⟨rfl, b1⟩
    have B : Hid (Below w.heap.size w w1) := ((Below.refl _ w).alloc (Nat.le_refl _) _).trans (b1.mono (by simp))
    clear b1 C
    go_wp2
    go_ret
    exact ⟨rfl, B.out⟩
  · rw [hn] at C
    clear hn
    have D := fun (w : World) => implUpTo1 99 hop w w.heap.size rfl
    generalize inB 0 99 hop = b at D ⊢
    go_enter Tryz.func212, Tryz.ntmps212
    go_wp2_with fail
    refine (C _).mono ?_
    rintro e w1 ⟨rfl, b1⟩
    have B : Hid (Below w.heap.size w w1) := ((Below.refl _ w).alloc (Nat.le_refl _) _).trans (b1.mono (by simp))
    have c2 : w1.cell? ⟨w.heap.size, 2, none⟩ = some (.int .i64 hop) := cell_of_below b1 (by simp) (by simp)
    clear b1 C
    go_wp2_with fail
    refine (D _).mono ?_
    rintro e w' ⟨rfl, rfl⟩
    go_wp2
    go_ret
    exact ⟨rfl, B.out.alloc B.out.size _⟩
end Go.Proofs.YtgebghkcikmfaaaGreatDoor

/-
  The walks of bitAt, of slices.IndexFunc at the program's own closure, and of firstWithBit. By the verifier.
-/
namespace Go.Proofs.YtgebghkcikmfaaaGreatDoor
open Go.RowKit

theorem implBit {n : Int} (n0 : 0 ≤ n) (n1 : n ≤ 4294967295) (d : Nat) (hd : d ≤ 31) (w : World) :
    Calls Tryz.prog 248 #[.int .i64 n, .int .i64 (d : Int)] w fun e w' => e = .returned (.int .i64 (bitV n d)) ∧ w' = w := by
  have q0 : 0 ≤ n / 2 ^ (31 - d) := Int.ediv_nonneg n0 (Int.le_of_lt (pow_pos' _))
  have q1 : n / 2 ^ (31 - d) ≤ n := Int.ediv_le_self _ n0
  have hm := and_mask (s := 1) (by omega) q0 (by omega)
  have e1 : (2 : Int) ^ 1 - 1 = 1 := by decide
  have e2 : (2 : Int) ^ 1 = 2 := by decide
  rw [e1, e2] at hm
  have hv : Hid (bitV n d = n / 2 ^ (31 - d) % 2) := rfl
  clear e1 e2
  go_enter Tryz.func248, Tryz.ntmps248
  go_wp2
  go_ret
  exact ⟨by first | rfl | (rw [hv.out]; rfl), rfl⟩

/-- The program's closure: is the bit at a depth 1? -/
theorem implIsOne (r : Rt) (hr : 0 ≤ r.net ∧ r.net ≤ 4294967295) (d : Nat) (hd : d ≤ 31) (B : Nat) (w : World) (hB : B < w.heap.size) (hc : w.cell? ⟨B, 0, none⟩ = some (.int .i64 (d : Int))) :
    Calls Tryz.prog 284 #[r.val, .pointer (some ⟨B, 0, none⟩)] w fun e w' => e = .returned (.bool (bitV r.net d == 1)) ∧ Below w.heap.size w w' := by
  have C := fun w => implBit hr.1 hr.2 d hd w
  unfold Rt.val
  obtain ⟨net, bits, hop⟩ := r
  simp only [] at C hr ⊢
  generalize bitV net d = b at C ⊢
  have hne : B ≠ w.heap.size := by omega
  go_enter Tryz.func284, Tryz.ntmps284
  go_wp2_with (go_at_call 248; refine (C _).mono ?_; rintro e w' ⟨rfl, rfl⟩)
  go_ret
  exact ⟨rfl, (Below.refl _ _).alloc (Nat.le_refl _) _⟩

/-- Where the first with a bit 1 is. -/
def FirstOne (l : List Rt) (d : Nat) (k : Nat) : Prop := k ≤ l.length ∧ (∀ i, i < k → bitV (rtAt l i).net d = 0) ∧ (k < l.length → bitV (rtAt l k).net d = 1)

set_option maxHeartbeats 1600000 in
theorem implIndex (a : Option Addr) (cap : Nat) (l : List Rt) (d : Nat) (hd : d ≤ 31) (B : Nat) (w : World) (hT : l.length ≤ 64) (h : Hid (RtsAt w a l)) (hok : Hid (∀ k, k < l.length → 0 ≤ (rtAt l k).net ∧ (rtAt l k).net ≤ 4294967295)) (hB : B < w.heap.size) (hc : w.cell? ⟨B, 0, none⟩ = some (.int .i64 (d : Int))) :
    Calls Tryz.prog 283 #[.slice a l.length cap, .func (.func 284) #[] #[.pointer (some ⟨B, 0, none⟩)]] w fun e w' => (∃ k : Nat, FirstOne l d k ∧ e = .returned (.int .i64 (if k < l.length then (k : Int) else -1))) ∧ Below w.heap.size w w' := by
  have HB : Hid (B < w.heap.size ∧ w.cell? ⟨B, 0, none⟩ = some (.int .i64 (d : Int))) := ⟨hB, hc⟩
  clear hB hc
  have eg : ∀ args w, (callFunc 284 args).run Tryz.prog w = .ok (.enter 284 args) w := enters_of Tryz.func284 (by kernel_rfl) rfl
  obtain ⟨len, hlen⟩ : ∃ n, l.length = n := ⟨_, rfl⟩
  have Hlen : Hid (l.length = len) := hlen
  have HF : Hid (∀ k, FirstOne l d k ↔ (k ≤ len ∧ (∀ i, i < k → bitV (rtAt l i).net d = 0) ∧ (k < len → bitV (rtAt l k).net d = 1))) := by
    show ∀ k, FirstOne l d k ↔ _
    intro k; unfold FirstOne; rw [hlen]
  rw [hlen] at hT ⊢
  clear hlen
  go_enter Tryz.func283, Tryz.ntmps283
  go_wp2
  go_loopw [8] (fun i wr => ∃ k : Nat, k ≤ len ∧ i = .int .i64 k ∧ Hid ((∀ i, i < k → bitV (rtAt l i).net d = 0) ∧ Below w.heap.size w wr)) (fun i _ => len - (intOf i).toNat)
  case atStart => exact ⟨0, Nat.zero_le _, rfl, fun i hi => absurd hi (Nat.not_lt_zero _), Below.refl _ _⟩
  case round =>
    obtain ⟨k, hk, rfl, H1⟩ := hrel
    by_cases hlt : k < len
    · have R : Hid (RtsAt wr a l) := h.out.below H1.out.2
      obtain ⟨b1, o1, ha1, hb1, -⟩ := R.out k (by rw [Hlen.out]; exact hlt)
      subst ha1
      obtain ⟨c0, c1, c2⟩ := cells_at R.out (k := k) (by rw [Hlen.out]; exact hlt)
      have C := fun w hB hc => implIsOne (rtAt l k) (hok.out k (by rw [Hlen.out]; exact hlt)) d hd B w hB hc
      unfold Rt.val at C
      have HC := C wr (Nat.lt_of_lt_of_le HB.out.1 H1.out.2.size) (cell_of_below H1.out.2 HB.out.1 HB.out.2)
      obtain ⟨z, hz⟩ : ∃ z, bitV (rtAt l k).net d = z := ⟨_, rfl⟩
      have Hz : Hid _ := hz
      rw [hz] at HC
      have hz2 := bitV_in (rtAt l k).net d
      rw [hz] at hz2
      clear C hz
      have hlt' : (k : Int) < (len : Int) := by omega
      rcases hz2 with rfl | rfl
      · generalize rtAt l k = r at c0 c1 c2 HC
        go_wp2_with fail
        refine HC.mono ?_
        rintro e w' ⟨rfl, hb'⟩
        have B2 : Hid ((∀ i, i < k + 1 → bitV (rtAt l i).net d = 0) ∧ Below w.heap.size w w') := by
          refine ⟨fun i hi => ?_, H1.out.2.trans (hb'.mono H1.out.2.size)⟩
          by_cases e : i = k
          · rw [e]; exact Hz.out
          · exact H1.out.1 i (by omega)
        clear hb' H1 HC R
        go_wp2
        go_roundw
        case rel => exact ⟨k + 1, by omega, by go_num, B2⟩
        case measure => simp [intOf]; omega
      · generalize rtAt l k = r at c0 c1 c2 HC
        go_wp2_with fail
        refine HC.mono ?_
        rintro e w' ⟨rfl, hb'⟩
        have B2 : Hid (Below w.heap.size w w') := H1.out.2.trans (hb'.mono H1.out.2.size)
        have hF : Hid (FirstOne l d k) := (HF.out k).2 ⟨hk, H1.out.1, fun _ => Hz.out⟩
        clear hb' H1 HC R
        go_wp2
        go_ret
        exact ⟨⟨k, hF.out, by rw [if_pos hlt]; rfl⟩, B2.out⟩
    · obtain rfl : k = len := by omega
      have hF : Hid (FirstOne l d k) := (HF.out k).2 ⟨hk, H1.out.1, fun h => absurd h (Nat.lt_irrefl _)⟩
      go_wp2
      go_ret
      exact ⟨⟨k, hF.out, by rw [if_neg (Nat.lt_irrefl _)]; rfl⟩, H1.out.2⟩

set_option maxHeartbeats 800000 in
theorem implFirst (a : Option Addr) (cap : Nat) (l : List Rt) (d : Nat) (hd : d ≤ 31) (w : World) (hT : l.length ≤ 64) (h : Hid (RtsAt w a l)) (hok : Hid (∀ k, k < l.length → 0 ≤ (rtAt l k).net ∧ (rtAt l k).net ≤ 4294967295)) :
    Calls Tryz.prog 246 #[.slice a l.length cap, .int .i64 (d : Int)] w fun e w' => (∃ k : Nat, FirstOne l d k ∧ e = .returned (.int .i64 (k : Int))) ∧ Below w.heap.size w w' := by
  have hmf : ∀ (fn : Fn) (first cap : Array Value) (w : World), (Instr.makeFunc fn first cap).run Tryz.prog w = .ok (.func fn first cap) w := fun _ _ _ _ => rfl
  have C := implIndex a cap l d hd w.heap.size (w.alloc (.cells #[.int .i64 (d : Int)] 2)) hT (h.out.alloc _) hok (by simp) (by simp)
  have HF : Hid (∀ k, FirstOne l d k → k ≤ l.length) := fun k h => h.1
  generalize l.length = len at C hT HF ⊢
  go_enter Tryz.func246, Tryz.ntmps246
  go_wp2_with fail
  refine C.mono ?_
  rintro e w' ⟨⟨k, hF, rfl⟩, hb⟩
  have hkl := HF.out k hF
  have B : Hid (FirstOne l d k ∧ Below w.heap.size w w') := ⟨hF, ((Below.refl _ w).alloc (Nat.le_refl _) _).trans (hb.mono (by simp))⟩
  clear hF hb C
  by_cases hk : k < len
  · rw [if_pos hk]
    go_wp2
    go_ret
    exact ⟨⟨k, B.out.1, rfl⟩, B.out.2⟩
  · rw [if_neg hk]
    obtain rfl : k = len := by omega
    go_wp2
    go_ret
    exact ⟨⟨k, B.out.1, rfl⟩, B.out.2⟩
end Go.Proofs.YtgebghkcikmfaaaGreatDoor

/-
  The closures that a trie is made of: what each answers, wherever what it has captured lies unturned. By the verifier.
-/
namespace Go.Proofs.YtgebghkcikmfaaaGreatDoor
open Go.RowKit

/-- A pair of branches that are not laid yet. -/
def zeroTwo : Obj := .cells #[.nilFunc, .nilFunc] 277
/-- A closure that tells the hop of every address that begins with p, as long as what it has captured lies as it lay. -/
def Answers (w : World) (v : Value) (d : Nat) (p : Int) (h : Int → Int) : Prop :=
  ∃ (g : FuncId) (cb : Array Value) (D : Nat → Prop), v = .func (.func g) #[] cb ∧ Enters Tryz.prog g ∧ (∀ k, D k → k < w.heap.size ∧ w.heap[k]? ≠ some zeroTwo) ∧
    ∀ (W : World) (addr : Int), 0 ≤ addr → addr ≤ 4294967295 → addr / 2 ^ (32 - d) = p → (∀ k, D k → W.heap[k]? = w.heap[k]?) → Calls Tryz.prog g (#[.int .i64 addr] ++ cb) W fun e w' => e = .returned (.int .i64 (h addr)) ∧ w' = W
theorem Answers.other {w w' : World} {v : Value} {d : Nat} {p : Int} {h : Int → Int} (x : Answers w v d p h) (hs : w.heap.size ≤ w'.heap.size) (hk : ∀ k, k < w.heap.size → w.heap[k]? ≠ some zeroTwo → w'.heap[k]? = w.heap[k]?) : Answers w' v d p h := by
  obtain ⟨g, cb, D, e, he, hD, hc⟩ := x
  refine ⟨g, cb, D, e, he, fun k hk' => ?_, fun W addr a0 a1 ap hW => hc W addr a0 a1 ap fun k hk' => ?_⟩
  · obtain ⟨h1, h2⟩ := hD k hk'
    exact ⟨by omega, by rw [hk k h1 h2]; exact h2⟩
  · obtain ⟨h1, h2⟩ := hD k hk'
    rw [hW k hk', hk k h1 h2]
theorem Answers.below {w w' : World} {v : Value} {d : Nat} {p : Int} {h : Int → Int} (x : Answers w v d p h) (b : Below w.heap.size w w') : Answers w' v d p h :=
  x.other b.size fun k hk _ => b.block k hk
theorem cell_same {w W : World} {B off : Nat} {v : Value} (h : W.heap[B]? = w.heap[B]?) (c : w.cell? ⟨B, off, none⟩ = some v) : W.cell? ⟨B, off, none⟩ = some v := by
  rw [World.cell?_of_block (w := w) (w' := W) (a := ⟨B, off, none⟩) h]; exact c

theorem noneAnswers (w : World) (d : Nat) (p : Int) : Answers w (.func (.func 244) #[] #[]) d p (hopL []) := by
  refine ⟨_, _, fun _ => False, rfl, enters_of Tryz.func244 (by kernel_rfl) rfl, fun _ h => h.elim, fun W addr _ _ _ _ => ?_⟩
  show Calls Tryz.prog 244 #[.int .i64 addr] W _
  go_enter Tryz.func244, Tryz.ntmps244
  go_wp2
  go_ret
  exact ⟨rfl, rfl⟩

theorem implOneClosure (r : Rt) (hr : r.ok = true) (B : Nat) (addr : Int) (a0 : 0 ≤ addr) (a1 : addr ≤ 4294967295) (w : World) (c0 : w.cell? ⟨B, 0, none⟩ = some (.int .i64 r.net)) (c1 : w.cell? ⟨B, 1, none⟩ = some (.int .i64 r.bits)) (c2 : w.cell? ⟨B, 2, none⟩ = some (.int .i64 r.hop)) :
    Calls Tryz.prog 281 #[.int .i64 addr, .pointer (some ⟨B, 0, none⟩)] w fun e w' => e = .returned (.int .i64 (hopL [r] addr)) ∧ w' = w := by
  rw [hop_one r addr hr]
  obtain ⟨k1, k2, k3, _⟩ := ok_parts hr
  have C := fun w => implIn k1 k2.1 k2.2 k3 a0 a1 w
  clear hr k1 k2 k3
  cases hf : fitB r.net r.bits addr
  · rw [hf] at C
    rw [if_neg (by simp)]
    clear hf
    go_enter Tryz.func281, Tryz.ntmps281
    go_wp2_with (go_at_call 282; refine (C _).mono ?_; rintro e w' ⟨rfl, rfl⟩)
    go_ret
    exact ⟨rfl, rfl⟩
  · rw [hf] at C
    rw [if_pos rfl]
    clear hf
    go_enter Tryz.func281, Tryz.ntmps281
    go_wp2_with (go_at_call 282; refine (C _).mono ?_; rintro e w' ⟨rfl, rfl⟩)
    go_ret
    exact ⟨rfl, rfl⟩

theorem implOne (r : Rt) (hr : r.ok = true) (d : Nat) (p : Int) (w : World) :
    Calls Tryz.prog 245 #[r.val] w fun e w' => (∃ v, e = .returned v ∧ Answers w' v d p (hopL [r])) ∧ Below w.heap.size w w' := by
  have hmf : ∀ (fn : Fn) (first cap : Array Value) (w : World), (Instr.makeFunc fn first cap).run Tryz.prog w = .ok (.func fn first cap) w := fun _ _ _ _ => rfl
  have A : Hid (Answers (w.alloc (.cells #[.int .i64 r.net, .int .i64 r.bits, .int .i64 r.hop] 132)) (.func (.func 281) #[] #[.pointer (some ⟨w.heap.size, 0, none⟩)]) d p (hopL [r])) := by
    refine ⟨_, _, fun k => k = w.heap.size, rfl, enters_of Tryz.func281 (by kernel_rfl) rfl, fun k hk => ?_, fun W addr a0 a1 _ hW => ?_⟩
    · subst hk
      refine ⟨by simp, ?_⟩
      have hbx := Boxed.new w #[.int .i64 r.net, .int .i64 r.bits, .int .i64 r.hop] 132
      unfold Boxed at hbx
      rw [hbx]
      simp [zeroTwo]
    · have e := hW _ rfl
      exact implOneClosure r hr w.heap.size addr a0 a1 W (cell_same e (by simp)) (cell_same e (by simp)) (cell_same e (by simp))
  unfold Rt.val
  obtain ⟨net, bits, hop⟩ := r
  simp only [] at A ⊢
  go_enter Tryz.func245, Tryz.ntmps245
  go_wp2
  go_ret
  exact ⟨⟨_, rfl, A.out⟩, (Below.refl _ _).alloc (Nat.le_refl _) _⟩

set_option maxHeartbeats 800000 in
theorem implTwoClosure (d : Nat) (hd : d ≤ 31) (own : Int) (B7 B3 B5 : Nat) (g0 g1 : FuncId) (cb0 cb1 : Array Value) (e0 : Enters Tryz.prog g0) (e1 : Enters Tryz.prog g1) (addr : Int) (a0 : 0 ≤ addr) (a1 : addr ≤ 4294967295) (h0 h1 : Int) (w : World)
    (c70 : w.cell? ⟨B7, 0, none⟩ = some (.func (.func g0) #[] cb0)) (c71 : w.cell? ⟨B7, 1, none⟩ = some (.func (.func g1) #[] cb1)) (c3 : w.cell? ⟨B3, 0, none⟩ = some (.int .i64 (d : Int))) (c5 : w.cell? ⟨B5, 0, none⟩ = some (.int .i64 own))
    (C0 : bitV addr d = 0 → Calls Tryz.prog g0 (#[.int .i64 addr] ++ cb0) w fun e w' => e = .returned (.int .i64 h0) ∧ w' = w) (C1 : bitV addr d = 1 → Calls Tryz.prog g1 (#[.int .i64 addr] ++ cb1) w fun e w' => e = .returned (.int .i64 h1) ∧ w' = w) :
    Calls Tryz.prog 247 #[.int .i64 addr, .pointer (some ⟨B7, 0, none⟩), .pointer (some ⟨B3, 0, none⟩), .pointer (some ⟨B5, 0, none⟩)] w fun e w' => e = .returned (.int .i64 (if bitV addr d = 0 then (if h0 = -1 then own else h0) else (if h1 = -1 then own else h1))) ∧ w' = w := by
  have C := fun w => implBit a0 a1 d hd w
  have eg0 : ∀ args w, (callFunc g0 args).run Tryz.prog w = .ok (.enter g0 args) w := e0
  have eg1 : ∀ args w, (callFunc g1 args).run Tryz.prog w = .ok (.enter g1 args) w := e1
  rcases bitV_in addr d with hb | hb
  · rw [if_pos hb]
    rw [hb] at C
    have C0' := C0 hb
    clear C1 C0 hb e0 e1
    by_cases hh : h0 = -1
    · rw [if_pos hh]
      subst hh
      go_enter Tryz.func247, Tryz.ntmps247
      go_wp2_with (first | (go_at_call 248; refine (C _).mono ?_; rintro e w' ⟨rfl, rfl⟩) | (go_at_fn g0; refine C0'.mono ?_; rintro e w' ⟨rfl, rfl⟩))
      go_ret
      exact ⟨rfl, rfl⟩
    · rw [if_neg hh]
      go_enter Tryz.func247, Tryz.ntmps247
      go_wp2_with (first | (go_at_call 248; refine (C _).mono ?_; rintro e w' ⟨rfl, rfl⟩) | (go_at_fn g0; refine C0'.mono ?_; rintro e w' ⟨rfl, rfl⟩))
      go_ret
      exact ⟨rfl, rfl⟩
  · rw [if_neg (by omega)]
    rw [hb] at C
    have C1' := C1 hb
    clear C1 C0 hb e0 e1
    by_cases hh : h1 = -1
    · rw [if_pos hh]
      subst hh
      go_enter Tryz.func247, Tryz.ntmps247
      go_wp2_with (first | (go_at_call 248; refine (C _).mono ?_; rintro e w' ⟨rfl, rfl⟩) | (go_at_fn g1; refine C1'.mono ?_; rintro e w' ⟨rfl, rfl⟩))
      go_ret
      exact ⟨rfl, rfl⟩
    · rw [if_neg hh]
      go_enter Tryz.func247, Tryz.ntmps247
      go_wp2_with (first | (go_at_call 248; refine (C _).mono ?_; rintro e w' ⟨rfl, rfl⟩) | (go_at_fn g1; refine C1'.mono ?_; rintro e w' ⟨rfl, rfl⟩))
      go_ret
      exact ⟨rfl, rfl⟩
end Go.Proofs.YtgebghkcikmfaaaGreatDoor

/-
  The walk of the program's way to tell a right rule. By the verifier, by program.
-/
namespace Go.Proofs.YtgebghkcikmfaaaGreatDoor
open Go.RowKit

/-- As the program asks. -/
theorem Ru.ok_asks (r : Ru) : r.ok = (decide (1 ≤ r.id) && (inB 0 999 r.id && (inB 0 99 r.prio && (netB r.snet r.sbits && (netB r.dnet r.dbits && ((decide (r.proto = -1) || inB 0 255 r.proto) && (inB 0 r.high r.low && (inB 0 65535 r.high && inB 0 15 r.cls)))))))) := by
  rw [Bool.eq_iff_iff]
  unfold Ru.ok
  simp only [Bool.and_eq_true, Bool.or_eq_true, inB_true, decide_eq_true_eq]
  generalize (netB r.snet r.sbits = true) = p
  generalize (netB r.dnet r.dbits = true) = q
  constructor
  · rintro ⟨h1, h2, h3, h4, h5, h6, h7, h8⟩
    exact ⟨by omega, by omega, h2, h3, h4, by omega, h7, h6, h8⟩
  · rintro ⟨h0, h1, h2, h3, h4, h5, h6, h7, h8⟩
    exact ⟨by omega, h2, h3, h4, by omega, h7, h6, h8⟩

set_option maxHeartbeats 6400000 in
set_option maxRecDepth 100000 in
theorem implRule (r : Ru) (w : World) :
    Calls Tryz.prog 265 #[r.val] w fun e w' => e = .returned (.bool r.ok) ∧ Below w.heap.size w w' := by
  have Hok : Hid _ := r.ok_asks
  obtain ⟨i, p, sn, sb, dn, db, pr, lo, hi, cl⟩ := r
  generalize Ru.ok _ = ok at Hok ⊢
  simp only [Ru.val] at Hok ⊢
  have X0 : Hid (Below w.heap.size w (w.alloc (.cells #[.int .i64 i, .int .i64 p, .int .i64 sn, .int .i64 sb, .int .i64 dn, .int .i64 db, .int .i64 pr, .int .i64 lo, .int .i64 hi, .int .i64 cl] 136)) ∧ Boxed (w.alloc (.cells #[.int .i64 i, .int .i64 p, .int .i64 sn, .int .i64 sb, .int .i64 dn, .int .i64 db, .int .i64 pr, .int .i64 lo, .int .i64 hi, .int .i64 cl] 136)) w.heap.size #[.int .i64 i, .int .i64 p, .int .i64 sn, .int .i64 sb, .int .i64 dn, .int .i64 db, .int .i64 pr, .int .i64 lo, .int .i64 hi, .int .i64 cl] 136) := ⟨(Below.refl _ _).alloc (Nat.le_refl _) _, Boxed.new _ _ _⟩
  by_cases h0 : 1 ≤ i
  rotate_left
  · have e : Hid (ok = false) := by show ok = false; rw [Hok.out, decide_eq_false h0]; rfl
    clear Hok
    go_enter Tryz.func265, Tryz.ntmps265
    go_wp2
    go_ret
    exact ⟨ret_bool e.out.symm, X0.out.1⟩
  have A1 := fun (w : World) (B : Nat) (hB : B = w.heap.size) => implUpTo1 999 i w B hB
  have A2 := fun (w : World) (B : Nat) (hB : B = w.heap.size) => implUpTo1 99 p w B hB
  have A3 := fun (w : World) => implNet sn sb w
  have A4 := fun (w : World) => implNet dn db w
  have A5 := fun (w : World) (B : Nat) (hB : B = w.heap.size) => implUpTo1 255 pr w B hB
  have A6 := fun (w : World) (B : Nat) (hB : B = w.heap.size) => implUpTo1 hi lo w B hB
  have A7 := fun (w : World) (B : Nat) (hB : B = w.heap.size) => implUpTo1 65535 hi w B hB
  have A8 := fun (w : World) (B : Nat) (hB : B = w.heap.size) => implUpTo1 15 cl w B hB
  generalize inB 0 999 i = b1 at A1 Hok
  generalize inB 0 99 p = b2 at A2 Hok
  generalize netB sn sb = b3 at A3 Hok
  generalize netB dn db = b4 at A4 Hok
  generalize inB 0 255 pr = b5 at A5 Hok
  generalize inB 0 hi lo = b6 at A6 Hok
  generalize inB 0 65535 hi = b7 at A7 Hok
  generalize inB 0 15 cl = b8 at A8 Hok
  have A1' : Hid _ := A1
  have A2' : Hid _ := A2
  have A3' : Hid _ := A3
  have A4' : Hid _ := A4
  have A5' : Hid _ := A5
  have A6' : Hid _ := A6
  have A7' : Hid _ := A7
  have A8' : Hid _ := A8
  clear A1 A2 A3 A4 A5 A6 A7 A8
  rw [decide_eq_true h0] at Hok
  go_enter Tryz.func265, Tryz.ntmps265
  go_wp2_with fail
  refine (A1'.out _ _ (by simp)).mono ?_
  rintro e w' ⟨rfl, rfl⟩
  have X1 : Hid (Below w.heap.size w ((w.alloc (.cells #[.int .i64 i, .int .i64 p, .int .i64 sn, .int .i64 sb, .int .i64 dn, .int .i64 db, .int .i64 pr, .int .i64 lo, .int .i64 hi, .int .i64 cl] 136)).alloc (.cells #[.int .i64 i] 2)) ∧ Boxed ((w.alloc (.cells #[.int .i64 i, .int .i64 p, .int .i64 sn, .int .i64 sb, .int .i64 dn, .int .i64 db, .int .i64 pr, .int .i64 lo, .int .i64 hi, .int .i64 cl] 136)).alloc (.cells #[.int .i64 i] 2)) w.heap.size #[.int .i64 i, .int .i64 p, .int .i64 sn, .int .i64 sb, .int .i64 dn, .int .i64 db, .int .i64 pr, .int .i64 lo, .int .i64 hi, .int .i64 cl] 136) := ⟨X0.out.1.alloc X0.out.1.size _, X0.out.2.more _⟩
  generalize (w.alloc (.cells #[.int .i64 i, .int .i64 p, .int .i64 sn, .int .i64 sb, .int .i64 dn, .int .i64 db, .int .i64 pr, .int .i64 lo, .int .i64 hi, .int .i64 cl] 136)).alloc (.cells #[.int .i64 i] 2) = w1 at X1 ⊢
  clear X0
  cases b1
  · go_wp2
    go_ret
    exact ⟨ret_bool (by rw [Hok.out]; simp), X1.out.1⟩
  have c1_1 : w1.cell? ⟨w.heap.size, 1, none⟩ = some (.int .i64 p) := X1.out.2.cell 1 rfl
  go_wp2_with fail
  refine (A2'.out _ _ (by simp)).mono ?_
  rintro e w' ⟨rfl, rfl⟩
  have X2 : Hid (Below w.heap.size w (w1.alloc (.cells #[.int .i64 p] 2)) ∧ Boxed (w1.alloc (.cells #[.int .i64 p] 2)) w.heap.size #[.int .i64 i, .int .i64 p, .int .i64 sn, .int .i64 sb, .int .i64 dn, .int .i64 db, .int .i64 pr, .int .i64 lo, .int .i64 hi, .int .i64 cl] 136) := ⟨X1.out.1.alloc X1.out.1.size _, X1.out.2.more _⟩
  generalize w1.alloc (.cells #[.int .i64 p] 2) = w2 at X2 ⊢
  clear X1
  cases b2
  · go_wp2
    go_ret
    exact ⟨ret_bool (by rw [Hok.out]; simp), X2.out.1⟩
  have c2_2 : w2.cell? ⟨w.heap.size, 2, none⟩ = some (.int .i64 sn) := X2.out.2.cell 2 rfl
  have c2_3 : w2.cell? ⟨w.heap.size, 3, none⟩ = some (.int .i64 sb) := X2.out.2.cell 3 rfl
  go_wp2_with fail
  refine (A3'.out _).mono ?_
  rintro e w3 ⟨rfl, hb⟩
  have X3 : Hid (Below w.heap.size w w3 ∧ Boxed w3 w.heap.size #[.int .i64 i, .int .i64 p, .int .i64 sn, .int .i64 sb, .int .i64 dn, .int .i64 db, .int .i64 pr, .int .i64 lo, .int .i64 hi, .int .i64 cl] 136) := ⟨X2.out.1.trans (hb.mono X2.out.1.size), X2.out.2.below X2.out.2.under hb⟩
  clear hb
  clear X2
  cases b3
  · go_wp2
    go_ret
    exact ⟨ret_bool (by rw [Hok.out]; simp), X3.out.1⟩
  have c3_4 : w3.cell? ⟨w.heap.size, 4, none⟩ = some (.int .i64 dn) := X3.out.2.cell 4 rfl
  have c3_5 : w3.cell? ⟨w.heap.size, 5, none⟩ = some (.int .i64 db) := X3.out.2.cell 5 rfl
  go_wp2_with fail
  refine (A4'.out _).mono ?_
  rintro e w4 ⟨rfl, hb⟩
  have X4 : Hid (Below w.heap.size w w4 ∧ Boxed w4 w.heap.size #[.int .i64 i, .int .i64 p, .int .i64 sn, .int .i64 sb, .int .i64 dn, .int .i64 db, .int .i64 pr, .int .i64 lo, .int .i64 hi, .int .i64 cl] 136) := ⟨X3.out.1.trans (hb.mono X3.out.1.size), X3.out.2.below X3.out.2.under hb⟩
  clear hb
  clear X3
  cases b4
  · go_wp2
    go_ret
    exact ⟨ret_bool (by rw [Hok.out]; simp), X4.out.1⟩
  have c4_6 : w4.cell? ⟨w.heap.size, 6, none⟩ = some (.int .i64 pr) := X4.out.2.cell 6 rfl
  have c4_7 : w4.cell? ⟨w.heap.size, 7, none⟩ = some (.int .i64 lo) := X4.out.2.cell 7 rfl
  have c4_8 : w4.cell? ⟨w.heap.size, 8, none⟩ = some (.int .i64 hi) := X4.out.2.cell 8 rfl
  by_cases hp : pr = -1
  · have O2 : Hid (ok = (b6 && (b7 && b8))) := by show ok = _; rw [Hok.out, decide_eq_true hp]; simp
    clear Hok
    have Hok := O2
    subst hp
    have X5 := X4
    clear X4 A5' O2
    have d5_7 : w4.cell? ⟨w.heap.size, 7, none⟩ = some (.int .i64 lo) := X5.out.2.cell 7 rfl
    have d5_8 : w4.cell? ⟨w.heap.size, 8, none⟩ = some (.int .i64 hi) := X5.out.2.cell 8 rfl
    go_wp2_with fail
    refine (A6'.out _ _ (by simp)).mono ?_
    rintro e w' ⟨rfl, rfl⟩
    have X6 : Hid (Below w.heap.size w (w4.alloc (.cells #[.int .i64 lo] 2)) ∧ Boxed (w4.alloc (.cells #[.int .i64 lo] 2)) w.heap.size #[.int .i64 i, .int .i64 p, .int .i64 sn, .int .i64 sb, .int .i64 dn, .int .i64 db, .int .i64 (-1), .int .i64 lo, .int .i64 hi, .int .i64 cl] 136) := ⟨X5.out.1.alloc X5.out.1.size _, X5.out.2.more _⟩
    generalize w4.alloc (.cells #[.int .i64 lo] 2) = w6 at X6 ⊢
    clear X5
    cases b6
    · go_wp2
      go_ret
      exact ⟨ret_bool (by rw [Hok.out]; simp), X6.out.1⟩
    have c6_8 : w6.cell? ⟨w.heap.size, 8, none⟩ = some (.int .i64 hi) := X6.out.2.cell 8 rfl
    go_wp2_with fail
    refine (A7'.out _ _ (by simp)).mono ?_
    rintro e w' ⟨rfl, rfl⟩
    have X7 : Hid (Below w.heap.size w (w6.alloc (.cells #[.int .i64 hi] 2)) ∧ Boxed (w6.alloc (.cells #[.int .i64 hi] 2)) w.heap.size #[.int .i64 i, .int .i64 p, .int .i64 sn, .int .i64 sb, .int .i64 dn, .int .i64 db, .int .i64 (-1), .int .i64 lo, .int .i64 hi, .int .i64 cl] 136) := ⟨X6.out.1.alloc X6.out.1.size _, X6.out.2.more _⟩
    generalize w6.alloc (.cells #[.int .i64 hi] 2) = w7 at X7 ⊢
    clear X6
    cases b7
    · go_wp2
      go_ret
      exact ⟨ret_bool (by rw [Hok.out]; simp), X7.out.1⟩
    have c7_9 : w7.cell? ⟨w.heap.size, 9, none⟩ = some (.int .i64 cl) := X7.out.2.cell 9 rfl
    go_wp2_with fail
    refine (A8'.out _ _ (by simp)).mono ?_
    rintro e w' ⟨rfl, rfl⟩
    have X8 : Hid (Below w.heap.size w (w7.alloc (.cells #[.int .i64 cl] 2)) ∧ Boxed (w7.alloc (.cells #[.int .i64 cl] 2)) w.heap.size #[.int .i64 i, .int .i64 p, .int .i64 sn, .int .i64 sb, .int .i64 dn, .int .i64 db, .int .i64 (-1), .int .i64 lo, .int .i64 hi, .int .i64 cl] 136) := ⟨X7.out.1.alloc X7.out.1.size _, X7.out.2.more _⟩
    generalize w7.alloc (.cells #[.int .i64 cl] 2) = w8 at X8 ⊢
    clear X7
    go_wp2
    go_ret
    exact ⟨ret_bool (by rw [Hok.out]; simp), X8.out.1⟩
  have hp2 : (pr == -1) = false := by simp [hp]
  have O2 : Hid (ok = (b5 && (b6 && (b7 && b8)))) := by show ok = _; rw [Hok.out, decide_eq_false hp]; simp
  clear Hok
  have Hok := O2
  go_wp2_with fail
  refine (A5'.out _ _ (by simp)).mono ?_
  rintro e w' ⟨rfl, rfl⟩
  have X5 : Hid (Below w.heap.size w (w4.alloc (.cells #[.int .i64 pr] 2)) ∧ Boxed (w4.alloc (.cells #[.int .i64 pr] 2)) w.heap.size #[.int .i64 i, .int .i64 p, .int .i64 sn, .int .i64 sb, .int .i64 dn, .int .i64 db, .int .i64 pr, .int .i64 lo, .int .i64 hi, .int .i64 cl] 136) := ⟨X4.out.1.alloc X4.out.1.size _, X4.out.2.more _⟩
  generalize w4.alloc (.cells #[.int .i64 pr] 2) = w5 at X5 ⊢
  clear X4
  cases b5
  · go_wp2
    go_ret
    exact ⟨ret_bool (by rw [Hok.out]; simp), X5.out.1⟩
  have c5_7 : w5.cell? ⟨w.heap.size, 7, none⟩ = some (.int .i64 lo) := X5.out.2.cell 7 rfl
  have c5_8 : w5.cell? ⟨w.heap.size, 8, none⟩ = some (.int .i64 hi) := X5.out.2.cell 8 rfl
  go_wp2_with fail
  refine (A6'.out _ _ (by simp)).mono ?_
  rintro e w' ⟨rfl, rfl⟩
  have X6 : Hid (Below w.heap.size w (w5.alloc (.cells #[.int .i64 lo] 2)) ∧ Boxed (w5.alloc (.cells #[.int .i64 lo] 2)) w.heap.size #[.int .i64 i, .int .i64 p, .int .i64 sn, .int .i64 sb, .int .i64 dn, .int .i64 db, .int .i64 pr, .int .i64 lo, .int .i64 hi, .int .i64 cl] 136) := ⟨X5.out.1.alloc X5.out.1.size _, X5.out.2.more _⟩
  generalize w5.alloc (.cells #[.int .i64 lo] 2) = w6 at X6 ⊢
  clear X5
  cases b6
  · go_wp2
    go_ret
    exact ⟨ret_bool (by rw [Hok.out]; simp), X6.out.1⟩
  have c6_8 : w6.cell? ⟨w.heap.size, 8, none⟩ = some (.int .i64 hi) := X6.out.2.cell 8 rfl
  go_wp2_with fail
  refine (A7'.out _ _ (by simp)).mono ?_
  rintro e w' ⟨rfl, rfl⟩
  have X7 : Hid (Below w.heap.size w (w6.alloc (.cells #[.int .i64 hi] 2)) ∧ Boxed (w6.alloc (.cells #[.int .i64 hi] 2)) w.heap.size #[.int .i64 i, .int .i64 p, .int .i64 sn, .int .i64 sb, .int .i64 dn, .int .i64 db, .int .i64 pr, .int .i64 lo, .int .i64 hi, .int .i64 cl] 136) := ⟨X6.out.1.alloc X6.out.1.size _, X6.out.2.more _⟩
  generalize w6.alloc (.cells #[.int .i64 hi] 2) = w7 at X7 ⊢
  clear X6
  cases b7
  · go_wp2
    go_ret
    exact ⟨ret_bool (by rw [Hok.out]; simp), X7.out.1⟩
  have c7_9 : w7.cell? ⟨w.heap.size, 9, none⟩ = some (.int .i64 cl) := X7.out.2.cell 9 rfl
  go_wp2_with fail
  refine (A8'.out _ _ (by simp)).mono ?_
  rintro e w' ⟨rfl, rfl⟩
  have X8 : Hid (Below w.heap.size w (w7.alloc (.cells #[.int .i64 cl] 2)) ∧ Boxed (w7.alloc (.cells #[.int .i64 cl] 2)) w.heap.size #[.int .i64 i, .int .i64 p, .int .i64 sn, .int .i64 sb, .int .i64 dn, .int .i64 db, .int .i64 pr, .int .i64 lo, .int .i64 hi, .int .i64 cl] 136) := ⟨X7.out.1.alloc X7.out.1.size _, X7.out.2.more _⟩
  generalize w7.alloc (.cells #[.int .i64 cl] 2) = w8 at X8 ⊢
  clear X7
  go_wp2
  go_ret
  exact ⟨ret_bool (by rw [Hok.out]; simp), X8.out.1⟩
end Go.Proofs.YtgebghkcikmfaaaGreatDoor

/-
  The walks of slices.IndexFunc and slices.ContainsFunc on rules, for whatever function tells yes or no. By the verifier.
-/
namespace Go.Proofs.YtgebghkcikmfaaaGreatDoor
open Go.RowKit Go.Shelf

/-- A function that tells yes or no of a rule, as long as what it looks at lies as it lay. -/
structure RuTells (W0 : World) (D : Nat → Prop) (g : FuncId) (fs cb : Array Value) (Q : Ru → Prop) (p : Ru → Bool) : Prop where
  enters : Enters Tryz.prog g
  under : ∀ k, D k → k < W0.heap.size
  tells : ∀ (W : World) (r : Ru), Q r → (∀ k, D k → W.heap[k]? = W0.heap[k]?) → Calls Tryz.prog g (fs ++ #[r.val] ++ cb) W fun e w' => e = .returned (.bool (p r)) ∧ Below W.heap.size W w'
set_option maxHeartbeats 1600000 in
set_option maxRecDepth 100000 in
theorem implIndexU (a : Option Addr) (cap : Nat) (l : List Ru) (g : FuncId) (fs cb : Array Value) (D : Nat → Prop) (Q : Ru → Prop) (p : Ru → Bool) (w : World) (hT : l.length ≤ 1048576) (h : Hid (RusAt w a l)) (hq : Hid (∀ r ∈ l, Q r)) (ht : Hid (RuTells w D g fs cb Q p)) :
    Calls Tryz.prog 251 #[.slice a l.length cap, .func (.func g) fs cb] w fun e w' => e = .returned (.int .i64 (if l.findIdx p < l.length then (l.findIdx p : Int) else -1)) ∧ Below w.heap.size w w' := by
  have eg : ∀ args w, (callFunc g args).run Tryz.prog w = .ok (.enter g args) w := ht.out.enters
  obtain ⟨len, hlen⟩ : ∃ n, l.length = n := ⟨_, rfl⟩
  have Hlen : Hid (l.length = len) := hlen
  obtain ⟨N, hN⟩ : ∃ N, l.findIdx p = N := ⟨_, rfl⟩
  have HN : Hid (l.findIdx p = N) := hN
  have hNl : N ≤ len := by rw [← hN, ← hlen]; exact List.findIdx_le_length
  rw [hlen] at hT ⊢
  rw [hN]
  clear hlen hN
  go_enter Tryz.func251, Tryz.ntmps251
  go_wp2
  go_loopw [8] (fun i wr => ∃ k : Nat, k ≤ N ∧ i = .int .i64 k ∧ Hid (Below w.heap.size w wr)) (fun i _ => len - (intOf i).toNat)
  case atStart => exact ⟨0, Nat.zero_le _, rfl, Below.refl _ _⟩
  case round =>
    obtain ⟨k, hk, rfl, H1⟩ := hrel
    by_cases hlt : k < len
    · have R : Hid (RusAt wr a l) := h.out.below H1.out
      obtain ⟨b1, o1, ha1, hb1, -⟩ := R.out k (by rw [Hlen.out]; exact hlt)
      subst ha1
      obtain ⟨c0, c1, c2, c3, c4, c5, c6, c7, c8, c9⟩ := R.out.cells (k := k) (by rw [Hlen.out]; exact hlt)
      have hmem : ruAt l k ∈ l := by rw [ruAt_lt (by rw [Hlen.out]; exact hlt)]; exact List.getElem_mem _
      have HC := ht.out.tells wr (ruAt l k) (hq.out _ hmem) fun j hj => H1.out.block j (ht.out.under j hj)
      unfold Ru.val at HC
      have hlt' : (k : Int) < (len : Int) := by omega
      by_cases hkN : k = N
      · have hp : p (ruAt l k) = true := by
          rw [ruAt_lt (by rw [Hlen.out]; exact hlt)]
          have := List.findIdx_getElem (p := p) (xs := l) (w := by rw [HN.out, Hlen.out, ← hkN]; exact hlt)
          simpa only [HN.out, ← hkN] using this
        rw [hp] at HC
        clear hmem hp R
        generalize ruAt l k = r at c0 c1 c2 c3 c4 c5 c6 c7 c8 c9 HC
        subst hkN
        go_wp2_with fail
        refine HC.mono ?_
        rintro e w' ⟨rfl, hb'⟩
        have B2 : Hid (Below w.heap.size w w') := H1.out.trans (hb'.mono H1.out.size)
        clear hb' H1 HC c0 c1 c2 c3 c4 c5 c6 c7 c8 c9
        go_wp2
        go_ret
        exact ⟨by first | rfl | (rw [if_pos hlt]; rfl), B2.out⟩
      · have hp : p (ruAt l k) = false := by
          rw [ruAt_lt (by rw [Hlen.out]; exact hlt)]
          have := List.not_of_lt_findIdx (p := p) (xs := l) (i := k) (by rw [HN.out]; omega)
          simpa using this
        rw [hp] at HC
        clear hmem hp R
        generalize ruAt l k = r at c0 c1 c2 c3 c4 c5 c6 c7 c8 c9 HC
        go_wp2_with fail
        refine HC.mono ?_
        rintro e w' ⟨rfl, hb'⟩
        have B2 : Hid (Below w.heap.size w w') := H1.out.trans (hb'.mono H1.out.size)
        clear hb' H1 HC c0 c1 c2 c3 c4 c5 c6 c7 c8 c9
        go_wp2
        go_roundw
        case rel => exact ⟨k + 1, by omega, by go_num, B2⟩
        case measure => simp [intOf]; omega
    · obtain rfl : k = len := by omega
      obtain rfl : k = N := by omega
      go_wp2
      go_ret
      exact ⟨by first | rfl | (rw [if_neg (Nat.lt_irrefl _)]; rfl), H1.out⟩

theorem any_idx {α : Type} (l : List α) (p : α → Bool) : decide (l.findIdx p < l.length) = l.any p := by
  rw [Bool.eq_iff_iff, decide_eq_true_iff, List.findIdx_lt_length, List.any_eq_true]

set_option maxHeartbeats 1600000 in
theorem implContainsU (a : Option Addr) (cap : Nat) (l : List Ru) (g : FuncId) (fs cb : Array Value) (D : Nat → Prop) (Q : Ru → Prop) (p : Ru → Bool) (w : World) (hT : l.length ≤ 1048576) (h : Hid (RusAt w a l)) (hq : Hid (∀ r ∈ l, Q r)) (ht : Hid (RuTells w D g fs cb Q p)) :
    Calls Tryz.prog 263 #[.slice a l.length cap, .func (.func g) fs cb] w fun e w' => e = .returned (.bool (l.any p)) ∧ Below w.heap.size w w' := by
  have I := fun (w : World) h ht => implIndexU a cap l g fs cb D Q p w hT h hq ht
  have Ha : Hid (decide (l.findIdx p < l.length) = l.any p) := any_idx l p
  generalize l.any p = b at Ha ⊢
  by_cases hlt : l.findIdx p < l.length
  · rw [if_pos hlt] at I
    rw [decide_eq_true hlt] at Ha
    generalize l.findIdx p = N at I hlt
    generalize l.length = len at I hlt hT ⊢
    have I' : Hid _ := I
    clear I hlt
    have hp : (0 : Int) ≤ (N : Int) := by omega
    go_enter Tryz.func263, Tryz.ntmps263
    go_wp2_with fail
    refine (I'.out _ h ht).mono ?_
    rintro e w' ⟨rfl, hb⟩
    have B2 : Hid (Below w.heap.size w w') := hb
    clear hb
    go_wp2
    go_ret
    exact ⟨ret_bool (by rw [← Ha.out]), B2.out⟩
  · rw [if_neg hlt] at I
    rw [decide_eq_false hlt] at Ha
    generalize l.length = len at I hT ⊢
    have I' : Hid _ := I
    clear I hlt
    go_enter Tryz.func263, Tryz.ntmps263
    go_wp2_with fail
    refine (I'.out _ h ht).mono ?_
    rintro e w' ⟨rfl, hb⟩
    have B2 : Hid (Below w.heap.size w w') := hb
    clear hb
    go_wp2
    go_ret
    exact ⟨ret_bool (by rw [← Ha.out]), B2.out⟩
end Go.Proofs.YtgebghkcikmfaaaGreatDoor

/-
  The walks of the program's RulesOk and of what it asks. By the verifier.
-/
namespace Go.Proofs.YtgebghkcikmfaaaGreatDoor
open Go.RowKit Go.Shelf

set_option maxHeartbeats 1600000 in
theorem implNotOk (r : Ru) (w : World) :
    Calls Tryz.prog 264 #[r.val] w fun e w' => e = .returned (.bool (!r.ok)) ∧ Below w.heap.size w w' := by
  have C := fun w => implRule r w
  generalize r.ok = ok at C ⊢
  obtain ⟨i, p, sn, sb, dn, db, pr, lo, hi, cl⟩ := r
  simp only [Ru.val] at C ⊢
  have C' : Hid _ := C
  clear C
  have hB : Hid (Below w.heap.size w (w.alloc (.cells #[.int .i64 i, .int .i64 p, .int .i64 sn, .int .i64 sb, .int .i64 dn, .int .i64 db, .int .i64 pr, .int .i64 lo, .int .i64 hi, .int .i64 cl] 136))) := (Below.refl _ _).alloc (Nat.le_refl _) _
  go_enter Tryz.func264, Tryz.ntmps264
  go_wp2_with fail
  refine (C'.out _).mono ?_
  rintro e w1 ⟨rfl, b1⟩
  have B : Hid (Below w.heap.size w w1) := hB.out.trans (b1.mono hB.out.size)
  clear b1 hB
  go_wp2
  go_ret
  exact ⟨rfl, B.out⟩
theorem notOkTells (w : World) : RuTells w (fun _ => False) 264 #[] #[] (fun _ => True) (fun r => !r.ok) :=
  ⟨enters_of Tryz.func264 (by kernel_rfl) rfl, fun _ h => h.elim, fun W r _ _ => implNotOk r W⟩

set_option maxHeartbeats 1600000 in
theorem implEach (a : Option Addr) (cap : Nat) (l : List Ru) (w : World) (hT : l.length ≤ 1048576) (h : Hid (RusAt w a l)) :
    Calls Tryz.prog 214 #[.slice a l.length cap] w fun e w' => e = .returned (.bool (l.all Ru.ok)) ∧ Below w.heap.size w w' := by
  have C := fun w h => implContainsU a cap l 264 #[] #[] (fun _ => False) (fun _ => True) (fun r => !r.ok) w hT h (fun _ _ => trivial) (notOkTells w)
  have Ha : Hid ((!(l.any fun r => !r.ok)) = l.all Ru.ok) := by
    show _ = _
    rw [List.all_eq_not_any_not]
  generalize (l.any fun r => !r.ok) = b at C Ha
  generalize l.all Ru.ok = b2 at Ha ⊢
  generalize l.length = len at C ⊢
  have C' : Hid _ := C
  clear C
  go_enter Tryz.func214, Tryz.ntmps214
  go_wp2_with fail
  refine (C'.out _ h).mono ?_
  rintro e w1 ⟨rfl, b1⟩
  have B : Hid (Below w.heap.size w w1) := b1
  clear b1
  go_wp2
  go_ret
  exact ⟨ret_bool Ha.out, B.out⟩

/-- Each of the first k behind the one ahead of it. -/
def riseK (l : List Ru) (k : Nat) : Bool := (List.range k).all fun i => decide (i = 0) || decide ((ruAt l (i - 1)).id < (ruAt l i).id)
theorem riseK_succ (l : List Ru) (k : Nat) : riseK l (k + 1) = (riseK l k && (decide (k = 0) || decide ((ruAt l (k - 1)).id < (ruAt l k).id))) := by simp [riseK, List.range_succ]
theorem riseK_hit {l : List Ru} {k n : Nat} (h : k < n) (g : (decide (k = 0) || decide ((ruAt l (k - 1)).id < (ruAt l k).id)) = false) : riseK l n = false := by
  unfold riseK
  rw [List.all_eq_false]
  exact ⟨k, List.mem_range.2 h, by simp [g]⟩
theorem goodRs_each (l : List Ru) : goodRs l l.length = (l.all Ru.ok && riseK l l.length) := by
  have hall : l.all Ru.ok = (List.range l.length).all fun i => (ruAt l i).ok := by
    rw [Bool.eq_iff_iff, List.all_eq_true, List.all_eq_true]
    constructor
    · intro h i hi
      rw [ruAt_lt (List.mem_range.1 hi)]
      exact h _ (List.getElem_mem _)
    · intro h r hr
      obtain ⟨i, hi, rfl⟩ := List.mem_iff_getElem.1 hr
      have := h i (List.mem_range.2 hi)
      rwa [ruAt_lt hi] at this
  rw [hall]
  unfold goodRs riseK goodR
  induction (List.range l.length) with
  | nil => rfl
  | cons x xs ih =>
    simp only [List.all_cons, ih]
    cases (ruAt l x).ok <;> cases (decide (x = 0) || decide ((ruAt l (x - 1)).id < (ruAt l x).id)) <;> simp

set_option maxHeartbeats 1600000 in
theorem implRise (a : Option Addr) (cap : Nat) (l : List Ru) (w : World) (hT : l.length ≤ 40) (h : Hid (RusAt w a l)) :
    Calls Tryz.prog 215 #[.slice a l.length cap] w fun e w' => e = .returned (.bool (riseK l l.length)) ∧ Below w.heap.size w w' := by
  obtain ⟨len, hlen⟩ : ∃ n, l.length = n := ⟨_, rfl⟩
  rw [hlen] at hT ⊢
  have Hlen : Hid (l.length = len) := hlen
  clear hlen
  have e : Hid (len = 0 → riseK l len = true) := by rintro rfl; rfl
  go_enter Tryz.func215, Tryz.ntmps215
  go_wp2
  go_loopw [3] (fun i wr => ∃ k : Nat, 1 ≤ k ∧ (k ≤ len ∨ len = 0 ∧ k = 1) ∧ i = .int .i64 k ∧ Hid (riseK l k = true) ∧ Hid (Below w.heap.size w wr)) (fun i _ => len - (intOf i).toNat)
  case atStart => exact ⟨1, Nat.le_refl _, by omega, rfl, by show riseK l 1 = true; simp [riseK], Below.refl _ _⟩
  case round =>
    obtain ⟨k, hk1, hk, rfl, hg, hb⟩ := hrel
    by_cases hlt : k < len
    · have R : Hid (RusAt wr a l) := h.out.below hb.out
      obtain ⟨j, rfl⟩ : ∃ j, k = j + 1 := ⟨k - 1, by omega⟩
      obtain ⟨b1, o1, ha1, hb1, -⟩ := R.out (j + 1) (by rw [Hlen.out]; exact hlt)
      subst ha1
      have c0 := (R.out.drew.cells (k := j + 1) (by rw [Hlen.out]; exact hlt)).1
      have d0 := (R.out.drew.cells (k := j) (by rw [Hlen.out]; omega)).1
      have Hn : Hid _ := riseK_succ l (j + 1)
      have Hh : Hid _ := fun g => riseK_hit (l := l) (k := j + 1) (n := len) hlt g
      have hlt' : (j : Int) + 1 < (len : Int) := by omega
      have hj0 : (0 : Int) ≤ (j : Int) := by omega
      have hjl : (j : Int) < (len : Int) := by omega
      simp only [Nat.add_sub_cancel] at Hn Hh
      by_cases hL : (ruAt l j).id < (ruAt l (j + 1)).id
      · have hgood : Hid (riseK l (j + 1 + 1) = true) := by
          show riseK l (j + 1 + 1) = true
          rw [Hn.out, hg.out, decide_eq_true hL]; simp
        clear Hn Hh R
        generalize (ruAt l (j + 1)).id = x at c0 hL
        generalize (ruAt l j).id = y at d0 hL
        go_wp2
        go_region
        all_goals
          go_wp2
          go_roundw
          case rel => exact ⟨j + 1 + 1, by omega, by omega, by go_num, hgood, hb.out.trans ((Below.refl _ _).drew.mono hb.out.size)⟩
          case measure => simp [intOf]; omega
      · have hbad : Hid (riseK l len = false) := Hh.out (by rw [decide_eq_false hL]; simp)
        clear Hn Hh R
        generalize (ruAt l (j + 1)).id = x at c0 hL
        generalize (ruAt l j).id = y at d0 hL
        go_wp2
        go_region
        all_goals
          go_wp2
          go_ret
          exact ⟨ret_bool hbad.out.symm, hb.out.trans ((Below.refl _ _).drew.mono hb.out.size)⟩
    · have hfin : Hid (riseK l len = true) := by
        show riseK l len = true
        by_cases h0 : len = 0
        · exact e.out h0
        · obtain rfl : k = len := by omega
          exact hg.out
      go_wp2
      go_ret
      exact ⟨ret_bool hfin.out.symm, hb.out⟩

set_option maxHeartbeats 1600000 in
theorem implRules (a : Option Addr) (cap : Nat) (l : List Ru) (w : World) (hT : l.length ≤ 1048576) (h : Hid (RusAt w a l)) :
    Calls Tryz.prog 151 #[.slice a l.length cap] w fun e w' => e = .returned (.bool (rusOk l)) ∧ Below w.heap.size w w' := by
  have Hok : Hid (rusOk l = (decide (l.length ≤ 40) && (l.all Ru.ok && riseK l l.length))) := by show rusOk l = _; unfold rusOk; rw [goodRs_each]
  have C := fun w h => implEach a cap l w hT h
  have D := fun (w : World) (h40 : l.length ≤ 40) h => implRise a cap l w h40 h
  generalize l.all Ru.ok = b1 at Hok C
  generalize riseK l l.length = b2 at Hok D
  generalize rusOk l = ok at Hok ⊢
  generalize l.length = len at *
  have C' : Hid _ := C
  have D' : Hid _ := D
  clear C D
  by_cases h40 : len ≤ 40
  · have h40' : (len : Int) ≤ 40 := by omega
    rw [decide_eq_true h40] at Hok
    go_enter Tryz.func151, Tryz.ntmps151
    go_wp2_with fail
    refine (C'.out _ h).mono ?_
    rintro e w1 ⟨rfl, q1⟩
    have B : Hid (Below w.heap.size w w1) := q1
    clear q1
    cases b1
    · go_wp2
      go_ret
      exact ⟨ret_bool (by rw [Hok.out]; rfl), B.out⟩
    · go_wp2_with fail
      refine (D'.out _ h40 (h.out.below B.out)).mono ?_
      rintro e w2 ⟨rfl, q2⟩
      have B2 : Hid (Below w.heap.size w w2) := B.out.trans (q2.mono B.out.size)
      clear q2
      go_wp2
      go_ret
      exact ⟨ret_bool (by rw [Hok.out]; rfl), B2.out⟩
  · have h40' : ¬ (len : Int) ≤ 40 := by omega
    rw [decide_eq_false h40] at Hok
    go_enter Tryz.func151, Tryz.ntmps151
    go_wp2
    go_ret
    exact ⟨ret_bool (by rw [Hok.out]; rfl), Below.refl _ _⟩
end Go.Proofs.YtgebghkcikmfaaaGreatDoor

/-
  The walks of the program's way to tell which covers which. By the verifier.
-/
namespace Go.Proofs.YtgebghkcikmfaaaGreatDoor
open Go.RowKit

theorem implNetCov {net bits : Int} (hn : netB net bits = true) {inner ib : Int} (a0 : 0 ≤ inner) (a1 : inner ≤ 4294967295) (w : World) :
    Calls Tryz.prog 252 #[.int .i64 net, .int .i64 bits, .int .i64 inner, .int .i64 ib] w fun e w' => e = .returned (.bool (decide (bits ≤ ib) && fitB net bits inner)) ∧ w' = w := by
  have C := fun w => implIn (netB_parts hn).1 (netB_parts hn).2.1 (netB_parts hn).2.2 (by unfold netB at hn; simp only [Bool.and_eq_true, decide_eq_true_eq] at hn; exact hn.2.2) a0 a1 w
  generalize fitB net bits inner = b at C ⊢
  clear hn a0 a1
  by_cases h : bits ≤ ib
  · rw [decide_eq_true h]
    go_enter Tryz.func252, Tryz.ntmps252
    go_wp2_with (go_at_call 282; refine (C _).mono ?_; rintro e w' ⟨rfl, rfl⟩)
    go_ret
    exact ⟨rfl, rfl⟩
  · rw [decide_eq_false h]
    go_enter Tryz.func252, Tryz.ntmps252
    go_wp2
    go_ret
    exact ⟨rfl, rfl⟩

/-- Both nets are addresses. -/
def Ru.inn (b : Ru) : Prop := (0 ≤ b.snet ∧ b.snet ≤ 4294967295) ∧ (0 ≤ b.dnet ∧ b.dnet ≤ 4294967295)
/-- As the program asks. -/
def Ru.cov (a b : Ru) : Bool := (decide (a.sbits ≤ b.sbits) && fitB a.snet a.sbits b.snet) && ((decide (a.dbits ≤ b.dbits) && fitB a.dnet a.dbits b.dnet) && ((decide (a.proto = -1) || decide (a.proto = b.proto)) && (decide (a.low ≤ b.low) && decide (b.high ≤ a.high))))
theorem Ru.ok_proto {a : Ru} (h : a.ok = true) : a.proto < 0 ↔ a.proto = -1 := by
  unfold Ru.ok at h
  simp only [Bool.and_eq_true, inB_true] at h
  obtain ⟨_, _, _, _, h5, _⟩ := h
  omega
/-- The narrowest one of a frame. -/
def onlyR (f : Fr) : Ru := ⟨0, 0, f.src, 32, f.dst, 32, f.proto, f.dport, f.dport, 0⟩
theorem only_inn {f : Fr} (h : f.ok = true) : (onlyR f).inn := by
  have b := Fr.ok_true.1 h
  exact ⟨b.2.2.2.1, b.2.2.2.2.1⟩
theorem Ru.cov_hits {a : Ru} (h : a.ok = true) (f : Fr) : a.cov (onlyR f) = a.hits f := by
  have hp := Ru.ok_proto h
  have h1 := inB_true.1 (netB_parts (Ru.ok_nets h).1).1
  have h2 := inB_true.1 (netB_parts (Ru.ok_nets h).2).1
  unfold Ru.cov Ru.hits onlyR
  rw [Bool.eq_iff_iff]
  simp only [Bool.and_eq_true, Bool.or_eq_true, decide_eq_true_eq, inB_true]
  rw [hp]
  constructor
  · rintro ⟨⟨_, h2⟩, ⟨_, h4⟩, h5, h6, h7⟩
    exact ⟨h2, h4, h5, h6, h7⟩
  · rintro ⟨h3, h4, h5, h6, h7⟩
    exact ⟨⟨h1.2, h3⟩, ⟨h2.2, h4⟩, h5, h6, h7⟩

set_option maxHeartbeats 3200000 in
set_option maxRecDepth 100000 in
theorem implCovers (a b : Ru) (ha : a.ok = true) (hb : b.inn) (w : World) :
    Calls Tryz.prog 201 #[a.val, b.val] w fun e w' => e = .returned (.bool (a.cov b)) ∧ w' = (w.alloc (.cells a.cells.toArray 136)).alloc (.cells b.cells.toArray 136) := by
  have A1 := fun w => implNetCov (Ru.ok_nets ha).1 (ib := b.sbits) hb.1.1 hb.1.2 w
  have A2 := fun w => implNetCov (Ru.ok_nets ha).2 (ib := b.dbits) hb.2.1 hb.2.2 w
  have Hok : Hid (a.cov b = ((decide (a.sbits ≤ b.sbits) && fitB a.snet a.sbits b.snet) && ((decide (a.dbits ≤ b.dbits) && fitB a.dnet a.dbits b.dnet) && ((decide (a.proto = -1) || decide (a.proto = b.proto)) && (decide (a.low ≤ b.low) && decide (b.high ≤ a.high)))))) := rfl
  generalize (decide (a.sbits ≤ b.sbits) && fitB a.snet a.sbits b.snet) = f1 at A1 Hok
  generalize (decide (a.dbits ≤ b.dbits) && fitB a.dnet a.dbits b.dnet) = f2 at A2 Hok
  clear ha hb
  obtain ⟨ai, ap, asn, asb, adn, adb, apr, alo, ahi, acl⟩ := a
  obtain ⟨bi, bp, bsn, bsb, bdn, bdb, bpr, blo, bhi, bcl⟩ := b
  generalize Ru.cov _ _ = ok at Hok ⊢
  simp only [Ru.val, Ru.cells] at Hok A1 A2 ⊢
  have A1' : Hid _ := A1
  have A2' : Hid _ := A2
  clear A1 A2
  go_enter Tryz.func201, Tryz.ntmps201
  go_wp2_with fail
  refine (A1'.out _).mono ?_
  rintro e w' ⟨rfl, rfl⟩
  cases f1
  · go_wp2
    go_ret
    exact ⟨ret_bool (by rw [Hok.out]; rfl), rfl⟩
  go_wp2_with fail
  refine (A2'.out _).mono ?_
  rintro e w' ⟨rfl, rfl⟩
  cases f2
  · go_wp2
    go_ret
    exact ⟨ret_bool (by rw [Hok.out]; rfl), rfl⟩
  have O2 : Hid (ok = ((decide (apr = -1) || decide (apr = bpr)) && (decide (alo ≤ blo) && decide (bhi ≤ ahi)))) := by show ok = _; rw [Hok.out]; rfl
  clear Hok A1' A2'
  by_cases h6 : apr = -1
  · have O3 : Hid (ok = (decide (alo ≤ blo) && decide (bhi ≤ ahi))) := by show ok = _; rw [O2.out, decide_eq_true h6]; rfl
    clear O2
    subst h6
    by_cases h4 : alo ≤ blo
    · have O4 : Hid (ok = decide (bhi ≤ ahi)) := by show ok = _; rw [O3.out, decide_eq_true h4]; rfl
      go_wp2
      go_ret
      exact ⟨ret_bool (by rw [O4.out]), rfl⟩
    · have O4 : Hid (ok = false) := by show ok = _; rw [O3.out, decide_eq_false h4]; rfl
      go_wp2
      go_ret
      exact ⟨ret_bool (by rw [O4.out]), rfl⟩
  · have h8 : (apr == -1) = false := by simp [h6]
    by_cases h7 : apr = bpr
    · have O3 : Hid (ok = (decide (alo ≤ blo) && decide (bhi ≤ ahi))) := by show ok = _; rw [O2.out, decide_eq_true h7]; simp
      clear O2
      subst h7
      by_cases h4 : alo ≤ blo
      · have O4 : Hid (ok = decide (bhi ≤ ahi)) := by show ok = _; rw [O3.out, decide_eq_true h4]; rfl
        go_wp2
        go_ret
        exact ⟨ret_bool (by rw [O4.out]), rfl⟩
      · have O4 : Hid (ok = false) := by show ok = _; rw [O3.out, decide_eq_false h4]; rfl
        go_wp2
        go_ret
        exact ⟨ret_bool (by rw [O4.out]), rfl⟩
    · have O3 : Hid (ok = false) := by show ok = _; rw [O2.out, decide_eq_false h6, decide_eq_false h7]; rfl
      have h9 : (apr == bpr) = false := by simp [h7]
      clear O2
      go_wp2
      go_ret
      exact ⟨ret_bool O3.out.symm, rfl⟩
theorem implCov (a b : Ru) (ha : a.ok = true) (hb : b.inn) (w : World) :
    Calls Tryz.prog 201 #[a.val, b.val] w fun e w' => e = .returned (.bool (a.cov b)) ∧ Below w.heap.size w w' :=
  (implCovers a b ha hb w).mono fun e w' (q : _ ∧ w' = _) => ⟨q.1, by rw [q.2]; exact ((Below.refl _ w).alloc (Nat.le_refl _) _).alloc (by simp) _⟩
end Go.Proofs.YtgebghkcikmfaaaGreatDoor

/-
  The walk of slices.DeleteFunc on records (Rule) of the call's own. By the verifier, by program.
-/
namespace Go.Proofs.YtgebghkcikmfaaaGreatDoor
open Go.RowKit Go.Shelf

theorem ru_zero_one (n : Nat) : ∀ v ∈ (Builtin.zeroCells (Value.agg #[.int .i64 0, .int .i64 0, .int .i64 0, .int .i64 0, .int .i64 0, .int .i64 0, .int .i64 0, .int .i64 0, .int .i64 0, .int .i64 0]).cells n).toList, v.oneCell' = true := by
  intro v hv
  have e : (Value.agg #[.int .i64 0, .int .i64 0, .int .i64 0, .int .i64 0, .int .i64 0, .int .i64 0, .int .i64 0, .int .i64 0, .int .i64 0, .int .i64 0]).cells = #[.int .i64 0, .int .i64 0, .int .i64 0, .int .i64 0, .int .i64 0, .int .i64 0, .int .i64 0, .int .i64 0, .int .i64 0, .int .i64 0] := rfl
  rw [e] at hv
  unfold Builtin.zeroCells at hv
  simp only [Array.toList_map, List.mem_map] at hv
  obtain ⟨i, _, rfl⟩ := hv
  obtain ⟨j, hj, hj3⟩ : ∃ j, i % 10 = j ∧ j < 10 := ⟨_, rfl, Nat.mod_lt _ (by omega)⟩
  show ((#[Value.int .i64 0, .int .i64 0, .int .i64 0, .int .i64 0, .int .i64 0, .int .i64 0, .int .i64 0, .int .i64 0, .int .i64 0, .int .i64 0] : Array Value)[i % 10]!).oneCell' = true
  rw [hj]
  match j, hj3 with
  | 0, _ => rfl
  | 1, _ => rfl
  | 2, _ => rfl
  | 3, _ => rfl
  | 4, _ => rfl
  | 5, _ => rfl
  | 6, _ => rfl
  | 7, _ => rfl
  | 8, _ => rfl
  | 9, _ => rfl
theorem ru_row_cut {base : Nat} {w : World} {g n cap m : Nat} {L : List Ru} (hl : L.length = n) (h : RuRow base w (.slice (some ⟨g, 0, none⟩) n cap) L) (hm : m ≤ n) : RuRow base w (.slice (some ⟨g, 0, none⟩) m cap) (L.take m) := by
  have hlm : (L.take m).length = m := by rw [List.length_take, hl]; omega
  unfold RuRow at h ⊢
  rw [hl] at h
  rw [hlm]
  refine ⟨by rw [rucells_length, hlm], ?_⟩
  rcases h.2 with ⟨e, _⟩ | ⟨g', cap', cur, e, h1, h2, h3, h4, h5, h6⟩
  · cases e
  · cases e
    refine .inr ⟨g, cap, cur, rfl, h1, h2, by omega, h4, h5, ?_⟩
    have e2 : rucells L = rucells (L.take m) ++ rucells (L.drop m) := by rw [← rucells_append, List.take_append_drop]
    have h7 := congrArg (List.take (m * 10)) h6
    rw [List.take_take, Nat.min_eq_left (by omega), e2, List.take_append_of_le_length (by rw [rucells_length, hlm]; exact Nat.le_refl _)] at h7
    rw [h7]
    exact List.take_of_length_le (by rw [rucells_length, hlm]; exact Nat.le_refl _)
theorem ru_row_wipe {base : Nat} {w : World} {g n cap m : Nat} {L : List Ru} (hl : L.length = n) (h : RuRow base w (.slice (some ⟨g, 0, none⟩) n cap) L) (hm : m < n) :
    ∃ w', (∀ ty c, (Builtin.clear_ #[40] ty #[.slice (some ⟨g, m * 10, none⟩) (n - m) c]).run Tryz.prog w = .ok (.tuple #[]) w') ∧ RuRow base w' (.slice (some ⟨g, 0, none⟩) m cap) (L.take m) ∧ Below base w w' := by
  have hlm : (L.take m).length = m := by rw [List.length_take, hl]; omega
  have hc := ru_row_cut hl h (Nat.le_of_lt hm)
  unfold RuRow at h
  rw [hl] at h
  rcases h.2 with ⟨e, _⟩ | ⟨g', cap', cur, e, h1, h2, h3, h4, h5, h6⟩
  · cases e
  · cases e
    obtain ⟨q, hq⟩ : ∃ q, n - m = q + 1 := ⟨n - m - 1, by omega⟩
    have hz : (Builtin.zeroCells (Value.agg #[.int .i64 0, .int .i64 0, .int .i64 0, .int .i64 0, .int .i64 0, .int .i64 0, .int .i64 0, .int .i64 0, .int .i64 0, .int .i64 0]).cells (q + 1)).toList.length = (q + 1) * 10 := by
      rw [Array.length_toList, size_zeroCells]
      rfl
    have hst := run_storeCells_at Tryz.prog g (m * 10) 136 (Builtin.zeroCells (Value.agg #[.int .i64 0, .int .i64 0, .int .i64 0, .int .i64 0, .int .i64 0, .int .i64 0, .int .i64 0, .int .i64 0, .int .i64 0, .int .i64 0]).cells (q + 1)).toList 0 cur w h2 (by rw [hz, h5]; omega) (ru_zero_one _)
    refine ⟨w.setRow g (cur.toList.take (m * 10 + 0) ++ (Builtin.zeroCells (Value.agg #[.int .i64 0, .int .i64 0, .int .i64 0, .int .i64 0, .int .i64 0, .int .i64 0, .int .i64 0, .int .i64 0, .int .i64 0, .int .i64 0]).cells (q + 1)).toList ++ cur.toList.drop (m * 10 + 0 + (Builtin.zeroCells (Value.agg #[.int .i64 0, .int .i64 0, .int .i64 0, .int .i64 0, .int .i64 0, .int .i64 0, .int .i64 0, .int .i64 0, .int .i64 0, .int .i64 0]).cells (q + 1)).toList.length)).toArray, fun ty c => ?_, ?_, below_setRow (Below.refl _ w) h1 _⟩
    · rw [hq]
      simp [Builtin.clear_, run_underlying Tryz.underlying40, Tryz.zeroValue136, hst]
    · unfold RuRow at hc ⊢
      rw [hlm] at hc ⊢
      refine ⟨by rw [rucells_length, hlm], .inr ⟨g, cap, _, rfl, h1, setRow_heap _ _ _ _ _ _ h2, by omega, h4, ?_, ?_⟩⟩
      · simp only [List.size_toArray, List.length_append, List.length_take, List.length_drop, Array.length_toList, h5]
        rw [← Array.length_toList, hz]
        omega
      · rcases hc.2 with ⟨e, _⟩ | ⟨g', cap', cur', e, _, h2', _, _, _, h6'⟩
        · cases e
        · cases e
          rw [h2] at h2'
          cases h2'
          rw [List.append_assoc, List.take_append_of_le_length (by simp [h5]; omega), Nat.add_zero, List.take_take, Nat.min_self]
          exact h6'

/-- Those that are left of the first k. -/
def ruLeftK (l : List Ru) (p : Ru → Bool) (k : Nat) : List Ru := (l.take k).filter fun r => !p r
theorem ruLeftK_succ {l : List Ru} {p : Ru → Bool} {k : Nat} (hk : k < l.length) : ruLeftK l p (k + 1) = if p (ruAt l k) = true then ruLeftK l p k else ruLeftK l p k ++ [ruAt l k] := by
  unfold ruLeftK
  rw [List.take_succ_eq_append_getElem hk, List.filter_append, ruAt_lt hk]
  cases h : p l[k] <;> simp [h]
theorem ruLeftK_idx {l : List Ru} {p : Ru → Bool} : ruLeftK l p (l.findIdx p) = l.take (l.findIdx p) := by
  unfold ruLeftK
  rw [List.filter_eq_self]
  intro r hr
  obtain ⟨i, hi, rfl⟩ := List.mem_iff_getElem.1 hr
  rw [List.length_take] at hi
  have := List.not_of_lt_findIdx (p := p) (xs := l) (i := i) (by omega)
  rw [List.getElem_take]
  simpa using this
theorem ru_filter_none {l : List Ru} {p : Ru → Bool} (h : ¬ l.findIdx p < l.length) : l.filter (fun r => !p r) = l := by
  have := ruLeftK_idx (l := l) (p := p)
  unfold ruLeftK at this
  rw [List.take_of_length_le (by omega)] at this
  exact this

set_option maxHeartbeats 6400000 in
set_option maxRecDepth 100000 in
theorem implDeleteRu (base : Nat) (a : Option Addr) (cap : Nat) (l : List Ru) (fn : FuncId) (fs cb : Array Value) (D : Nat → Prop) (Q : Ru → Prop) (p : Ru → Bool) (w : World) (hT : l.length ≤ 1048576) (hb : base ≤ w.heap.size) (h : Hid (RuRow base w (.slice a l.length cap) l)) (hq : Hid (∀ r ∈ l, Q r)) (hD : Hid (∀ k, D k → k < base)) (ht : Hid (RuTells w D fn fs cb Q p)) :
    Calls Tryz.prog 198 #[.slice a l.length cap, .func (.func fn) fs cb] w fun e w' => (∃ v', e = .returned v' ∧ RuRow base w' v' (l.filter fun r => !p r)) ∧ Below base w w' := by
  have I := implIndexU a cap l fn fs cb D Q p w hT h.out.at hq ht
  have eg : ∀ args w, (callFunc fn args).run Tryz.prog w = .ok (.enter fn args) w := ht.out.enters
  obtain ⟨N, hN⟩ : ∃ N, l.findIdx p = N := ⟨_, rfl⟩
  have HN : Hid (l.findIdx p = N) := hN
  obtain ⟨len, hlen⟩ : ∃ n, l.length = n := ⟨_, rfl⟩
  have Hlen : Hid (l.length = len) := hlen
  rw [hN, hlen] at I
  by_cases hlt : N < len
  · rw [if_pos hlt] at I
    obtain ⟨g, rfl⟩ : ∃ g, a = some ⟨g, 0, none⟩ := by
      rcases h.out.2 with ⟨e, hn⟩ | ⟨g, cap', cur, e, _⟩
      · omega
      · exact ⟨g, by cases e; rfl⟩
    have hg := h.out.lt g rfl
    have hcap := h.out.cap
    rw [hlen] at hT hcap ⊢
    have HR0 : Hid (RuRow base w (.slice (some ⟨g, 0, none⟩) len cap) l) := by rw [← hlen]; exact h
    clear hlen hN h
    go_enter Tryz.func198, Tryz.ntmps198
    go_wp2_with fail
    refine I.mono ?_
    rintro e w1 ⟨rfl, b1⟩
    have HS : Hid (RuRow base w1 (.slice (some ⟨g, 0, none⟩) len cap) l ∧ Below base w w1) := ⟨HR0.out.below (fun k hk => (HR0.out.lt k hk).2) b1, b1.mono hb⟩
    clear b1 I HR0
    have hN0 : ((N : Int) == -1) = false := by rw [beq_eq_false_iff_ne]; omega
    go_wp2
    go_loopw [5, 6] (fun i j wr => ∃ k m : Nat, k ≤ len ∧ m < k ∧ i = .int .i64 m ∧ j = .int .i64 k ∧ Hid ((ruLeftK l p k).length = m ∧ RuRow base wr (.slice (some ⟨g, 0, none⟩) len cap) (ruLeftK l p k ++ l.drop m) ∧ Below base w wr)) (fun _ j _ => len - (intOf j).toNat)
    case atStart =>
      refine ⟨N + 1, N, by omega, by omega, rfl, by go_num, ?_⟩
      have hp : p (ruAt l N) = true := by
        have hl' : N < l.length := by rw [Hlen.out]; exact hlt
        rw [ruAt_lt hl']
        have := List.findIdx_getElem (p := p) (xs := l) (w := by rw [HN.out]; exact hl')
        simpa only [HN.out] using this
      have e1 : ruLeftK l p (N + 1) = l.take N := by
        rw [ruLeftK_succ (by rw [Hlen.out]; exact hlt), if_pos hp]
        have := ruLeftK_idx (l := l) (p := p)
        rwa [HN.out] at this
      refine ⟨by rw [e1, List.length_take, Hlen.out]; omega, ?_, HS.out.2⟩
      rw [e1, List.take_append_drop]
      exact HS.out.1
    case round =>
      obtain ⟨k, m, hk, hmk, rfl, rfl, H1⟩ := hrel
      have hll : (ruLeftK l p k ++ l.drop m).length = len := by rw [List.length_append, H1.out.1, List.length_drop, Hlen.out]; omega
      by_cases hkl : k < len
      · have R : RusAt wr (some ⟨g, 0, none⟩) (ruLeftK l p k ++ l.drop m) := by
          have := H1.out.2.1
          rw [← hll] at this
          exact this.at
        have hat : ruAt (ruLeftK l p k ++ l.drop m) k = ruAt l k := by
          unfold ruAt
          rw [List.getElem?_append_right (by rw [H1.out.1]; omega), H1.out.1, List.getElem?_drop, show m + (k - m) = k by omega]
        obtain ⟨c0, c1, c2, c3, c4, c5, c6, c7, c8, c9⟩ := R.cells (k := k) (by rw [hll]; exact hkl)
        rw [hat] at c0 c1 c2 c3 c4 c5 c6 c7 c8 c9
        simp only [Nat.zero_add] at c0 c1 c2 c3 c4 c5 c6 c7 c8 c9
        have hmem : ruAt l k ∈ l := by rw [ruAt_lt (by rw [Hlen.out]; exact hkl)]; exact List.getElem_mem _
        have hs := ruLeftK_succ (l := l) (p := p) (k := k) (by rw [Hlen.out]; exact hkl)
        have HT := fun (x : World) (hx : Below base wr x) => ht.out.tells x (ruAt l k) (hq.out _ hmem) fun j hj => ((H1.out.2.2.trans hx).block j (hD.out j hj))
        unfold Ru.val at HT
        have HT' : Hid _ := HT
        have hkl' : (k : Int) < (len : Int) := by omega
        have hml : (m : Int) < (len : Int) := by omega
        have hbw : base ≤ wr.heap.size := Nat.le_trans hb H1.out.2.2.size
        clear HT hmem hat R
        cases hp : p (ruAt l k)
        · rw [hp] at hs HT'
          simp only [Bool.false_eq_true, if_false] at hs
          have Hs : Hid _ := hs
          clear hs hp
          generalize ruAt l k = r at c0 c1 c2 c3 c4 c5 c6 c7 c8 c9 Hs HT'
          go_wp2_with fail
          refine (HT'.out _ ((Below.refl _ _).alloc hbw _)).mono ?_
          rintro e w4 ⟨rfl, b4⟩
          have B4 : Below base wr w4 := ((Below.refl _ wr).alloc hbw _).trans (b4.mono (by simp; omega))
          have X4 : Boxed w4 wr.heap.size #[.int .i64 r.id, .int .i64 r.prio, .int .i64 r.snet, .int .i64 r.sbits, .int .i64 r.dnet, .int .i64 r.dbits, .int .i64 r.proto, .int .i64 r.low, .int .i64 r.high, .int .i64 r.cls] 136 := (Boxed.new wr _ _).below (by simp) b4
          have R4 : RuRow base w4 (.slice (some ⟨g, 0, none⟩) len cap) (ruLeftK l p k ++ l.drop m) := (H1.out.2.1.alloc _).below (n := (wr.alloc (.cells #[.int .i64 r.id, .int .i64 r.prio, .int .i64 r.snet, .int .i64 r.sbits, .int .i64 r.dnet, .int .i64 r.dbits, .int .i64 r.proto, .int .i64 r.low, .int .i64 r.high, .int .i64 r.cls] 136)).heap.size) (fun k hk => ((H1.out.2.1.alloc (.cells #[.int .i64 r.id, .int .i64 r.prio, .int .i64 r.snet, .int .i64 r.sbits, .int .i64 r.dnet, .int .i64 r.dbits, .int .i64 r.proto, .int .i64 r.low, .int .i64 r.high, .int .i64 r.cls] 136)).lt k hk).2) b4
          have hR := R4
          unfold RuRow at hR
          rw [hll] at hR
          have hP := RuRow.put hR m r
          have ex : ∀ j, j < len * 10 → ∃ v, w4.cell? ⟨g, j, none⟩ = some v := by
            intro j hj
            rw [hR.cellAt j hj]
            exact ⟨_, List.getElem?_eq_getElem (by rw [rucells_length, hll]; exact hj)⟩
          obtain ⟨y0, hy0⟩ := ex (m * 10) (by omega)
          obtain ⟨y1, hy1⟩ := ex (m * 10 + 1) (by omega)
          obtain ⟨y2, hy2⟩ := ex (m * 10 + 2) (by omega)
          obtain ⟨y3, hy3⟩ := ex (m * 10 + 3) (by omega)
          obtain ⟨y4, hy4⟩ := ex (m * 10 + 4) (by omega)
          obtain ⟨y5, hy5⟩ := ex (m * 10 + 5) (by omega)
          obtain ⟨y6, hy6⟩ := ex (m * 10 + 6) (by omega)
          obtain ⟨y7, hy7⟩ := ex (m * 10 + 7) (by omega)
          obtain ⟨y8, hy8⟩ := ex (m * 10 + 8) (by omega)
          obtain ⟨y9, hy9⟩ := ex (m * 10 + 9) (by omega)
          have z0 := hR.frozenAt (m * 10)
          have z1 := hR.frozenAt (m * 10 + 1)
          have z2 := hR.frozenAt (m * 10 + 2)
          have z3 := hR.frozenAt (m * 10 + 3)
          have z4 := hR.frozenAt (m * 10 + 4)
          have z5 := hR.frozenAt (m * 10 + 5)
          have z6 := hR.frozenAt (m * 10 + 6)
          have z7 := hR.frozenAt (m * 10 + 7)
          have z8 := hR.frozenAt (m * 10 + 8)
          have z9 := hR.frozenAt (m * 10 + 9)
          have x0 : w4.cell? ⟨wr.heap.size, 0, none⟩ = some (.int .i64 r.id) := X4.cell 0 rfl
          have x1 : w4.cell? ⟨wr.heap.size, 1, none⟩ = some (.int .i64 r.prio) := X4.cell 1 rfl
          have x2 : w4.cell? ⟨wr.heap.size, 2, none⟩ = some (.int .i64 r.snet) := X4.cell 2 rfl
          have x3 : w4.cell? ⟨wr.heap.size, 3, none⟩ = some (.int .i64 r.sbits) := X4.cell 3 rfl
          have x4 : w4.cell? ⟨wr.heap.size, 4, none⟩ = some (.int .i64 r.dnet) := X4.cell 4 rfl
          have x5 : w4.cell? ⟨wr.heap.size, 5, none⟩ = some (.int .i64 r.dbits) := X4.cell 5 rfl
          have x6 : w4.cell? ⟨wr.heap.size, 6, none⟩ = some (.int .i64 r.proto) := X4.cell 6 rfl
          have x7 : w4.cell? ⟨wr.heap.size, 7, none⟩ = some (.int .i64 r.low) := X4.cell 7 rfl
          have x8 : w4.cell? ⟨wr.heap.size, 8, none⟩ = some (.int .i64 r.high) := X4.cell 8 rfl
          have x9 : w4.cell? ⟨wr.heap.size, 9, none⟩ = some (.int .i64 r.cls) := X4.cell 9 rfl
          have hset : (ruLeftK l p k ++ l.drop m).set m r = ruLeftK l p (k + 1) ++ l.drop (m + 1) := by
            rw [Hs.out, List.set_append_right _ _ (by rw [H1.out.1]; exact Nat.le_refl _), H1.out.1, Nat.sub_self]
            rw [List.drop_eq_getElem_cons (show m < l.length by rw [Hlen.out]; omega), List.set_cons_zero]
            simp
          rw [hset] at hP
          have hlen2 : (ruLeftK l p (k + 1)).length = m + 1 := by rw [Hs.out, List.length_append, H1.out.1]; rfl
          have H2 : Hid ((ruLeftK l p (k + 1)).length = m + 1 ∧ RuRow base ((((((((((w4.setCell ⟨g, m * 10, none⟩ (.int .i64 r.id)).setCell ⟨g, m * 10 + 1, none⟩ (.int .i64 r.prio)).setCell ⟨g, m * 10 + 2, none⟩ (.int .i64 r.snet)).setCell ⟨g, m * 10 + 3, none⟩ (.int .i64 r.sbits)).setCell ⟨g, m * 10 + 4, none⟩ (.int .i64 r.dnet)).setCell ⟨g, m * 10 + 5, none⟩ (.int .i64 r.dbits)).setCell ⟨g, m * 10 + 6, none⟩ (.int .i64 r.proto)).setCell ⟨g, m * 10 + 7, none⟩ (.int .i64 r.low)).setCell ⟨g, m * 10 + 8, none⟩ (.int .i64 r.high)).setCell ⟨g, m * 10 + 9, none⟩ (.int .i64 r.cls)) (.slice (some ⟨g, 0, none⟩) len cap) (ruLeftK l p (k + 1) ++ l.drop (m + 1)) ∧ Below base w ((((((((((w4.setCell ⟨g, m * 10, none⟩ (.int .i64 r.id)).setCell ⟨g, m * 10 + 1, none⟩ (.int .i64 r.prio)).setCell ⟨g, m * 10 + 2, none⟩ (.int .i64 r.snet)).setCell ⟨g, m * 10 + 3, none⟩ (.int .i64 r.sbits)).setCell ⟨g, m * 10 + 4, none⟩ (.int .i64 r.dnet)).setCell ⟨g, m * 10 + 5, none⟩ (.int .i64 r.dbits)).setCell ⟨g, m * 10 + 6, none⟩ (.int .i64 r.proto)).setCell ⟨g, m * 10 + 7, none⟩ (.int .i64 r.low)).setCell ⟨g, m * 10 + 8, none⟩ (.int .i64 r.high)).setCell ⟨g, m * 10 + 9, none⟩ (.int .i64 r.cls))) := by
            refine ⟨hlen2, ?_, (((((((((((H1.out.2.2.trans B4).setCell hg.1 _).setCell hg.1 _).setCell hg.1 _).setCell hg.1 _).setCell hg.1 _).setCell hg.1 _).setCell hg.1 _).setCell hg.1 _).setCell hg.1 _).setCell hg.1 _)⟩
            unfold RuRow
            rw [show (ruLeftK l p (k + 1) ++ l.drop (m + 1)).length = len by rw [List.length_append, hlen2, List.length_drop, Hlen.out]; omega]
            exact hP
          clear B4 X4 R4 hR hP ex b4 HT' Hs hset hlen2 H1 hll c0 c1 c2 c3 c4 c5 c6 c7 c8 c9
          go_wp2
          go_roundw
          case rel => exact ⟨k + 1, m + 1, by omega, by omega, by go_num, by go_num, H2⟩
          case measure => simp [intOf]; omega
        · rw [hp] at hs HT'
          simp only [if_true] at hs
          have H2 : Hid ((ruLeftK l p (k + 1)).length = m) := by show (ruLeftK l p (k + 1)).length = m; rw [hs]; exact H1.out.1
          have Hs : Hid _ := hs
          clear hs hp
          generalize ruAt l k = r at c0 c1 c2 c3 c4 c5 c6 c7 c8 c9 HT'
          go_wp2_with fail
          refine (HT'.out _ ((Below.refl _ _).alloc hbw _)).mono ?_
          rintro e w4 ⟨rfl, b4⟩
          have H3 : Hid ((ruLeftK l p (k + 1)).length = m ∧ RuRow base w4 (.slice (some ⟨g, 0, none⟩) len cap) (ruLeftK l p (k + 1) ++ l.drop m) ∧ Below base w w4) := by
            refine ⟨H2.out, ?_, H1.out.2.2.trans (((Below.refl _ wr).alloc hbw _).trans (b4.mono (by simp; omega)))⟩
            rw [Hs.out]
            exact (H1.out.2.1.alloc _).below (n := (wr.alloc (.cells #[.int .i64 r.id, .int .i64 r.prio, .int .i64 r.snet, .int .i64 r.sbits, .int .i64 r.dnet, .int .i64 r.dbits, .int .i64 r.proto, .int .i64 r.low, .int .i64 r.high, .int .i64 r.cls] 136)).heap.size) (fun k hk => ((H1.out.2.1.alloc (.cells #[.int .i64 r.id, .int .i64 r.prio, .int .i64 r.snet, .int .i64 r.sbits, .int .i64 r.dnet, .int .i64 r.dbits, .int .i64 r.proto, .int .i64 r.low, .int .i64 r.high, .int .i64 r.cls] 136)).lt k hk).2) b4
          clear b4 HT' Hs H1 H2 hll c0 c1 c2 c3 c4 c5 c6 c7 c8 c9
          go_wp2
          go_roundw
          case rel => exact ⟨k + 1, m, by omega, by omega, rfl, by go_num, H3⟩
          case measure => simp [intOf]; omega
      · obtain rfl : k = len := by omega
        obtain ⟨w5, hcl, r5, b5⟩ := ru_row_wipe hll H1.out.2.1 hmk
        have hfin : Hid (RuRow base w5 (.slice (some ⟨g, 0, none⟩) m cap) (l.filter fun r => !p r) ∧ Below base w w5) := by
          refine ⟨?_, H1.out.2.2.trans b5⟩
          have e1 : ruLeftK l p k = l.filter fun r => !p r := by unfold ruLeftK; rw [List.take_of_length_le (by rw [Hlen.out]; exact Nat.le_refl _)]
          rw [← e1]
          rw [List.take_append_of_le_length (by rw [H1.out.1]; exact Nat.le_refl _), List.take_of_length_le (by rw [H1.out.1]; exact Nat.le_refl _)] at r5
          exact r5
        have hmc : m ≤ cap := by omega
        have hne : (cap = m) = False := by simp; omega
        clear r5 b5 H1 hll
        go_wp2
        go_ret
        exact ⟨⟨_, rfl, hfin.out.1⟩, hfin.out.2⟩
  · rw [if_neg hlt] at I
    have hf := ru_filter_none (l := l) (p := p) (by rw [hN, hlen]; exact hlt)
    rw [hf]
    rw [hlen] at hT ⊢
    have HR0 : Hid (RuRow base w (.slice a len cap) l) := by rw [← hlen]; exact h
    clear hf hlen hN h
    go_enter Tryz.func198, Tryz.ntmps198
    go_wp2_with fail
    refine I.mono ?_
    rintro e w1 ⟨rfl, b1⟩
    have HS : Hid (RuRow base w1 (.slice a len cap) l ∧ Below base w w1) := ⟨HR0.out.below (fun k hk => (HR0.out.lt k hk).2) b1, b1.mono hb⟩
    clear b1 I HR0
    go_wp2
    go_ret
    exact ⟨⟨_, rfl, HS.out.1⟩, HS.out.2⟩
end Go.Proofs.YtgebghkcikmfaaaGreatDoor
