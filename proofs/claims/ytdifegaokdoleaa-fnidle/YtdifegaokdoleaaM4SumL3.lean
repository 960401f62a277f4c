import Derived.Test.YtdifegaokdoleaaFrInner
import Derived.Laws.BytesString
import Derived.Laws.Concat
import Derived.Test.YtdifegaokdoleaaRows
import Derived.WalkKit
import Derived.WalkSpells
import Derived.WalkLawsBesides
import Derived.RowKit3
import Derived.Below
import Derived.Test.YtdifegaokdoleaaM3FrRow
/-
  Bytes of the call's own as a text; a list of bytes behind another one. By the verifier.
-/
namespace Go.Proofs.Ytdifegaokdoleaa
open Go.RowKit

theorem Row.form {base : Nat} {w : World} {v : Value} {xs : List Int} (h : Row base w v xs) (hx : 0 < xs.length) : ∃ g cap, v = .slice (some ⟨g, 0, none⟩) xs.length cap := by
  rcases h.2 with ⟨rfl, hn⟩ | ⟨g, cap, cur, rfl, _⟩
  · omega
  · exact ⟨_, _, rfl⟩
theorem foldl_strB (ns : List Int) : ns.foldl (fun r n => r.push (UInt8.ofNat n.toNat)) ByteArray.empty = strB ns := by
  have : ∀ (ns : List Int) (r : ByteArray), ns.foldl (fun r n => r.push (UInt8.ofNat n.toNat)) r = ⟨r.data ++ (ns.map fun n => UInt8.ofNat n.toNat).toArray⟩ := by
    intro ns
    induction ns with
    | nil => intro r; simp
    | cons n ns ih =>
      intro r
      rw [List.foldl_cons, ih]
      apply ByteArray.ext
      show (r.data.push _) ++ _ = _
      simp
  rw [this]; simp [strB, ByteArray.empty, ByteArray.emptyWithCapacity]; rfl
theorem Row.bytes {base : Nat} {w : World} {xs : List Int} {g cap : Nat} (h : Row base w (.slice (some ⟨g, 0, none⟩) xs.length cap) xs) :
    (Conv.bytesToString (.slice (some ⟨g, 0, none⟩) xs.length cap)).run Try.prog w = .ok (.string (strB xs)) w := by
  have hl := run_loadCells_list (P := Try.prog) w ⟨g, 0, none⟩ (xs.map (Value.int .u8)) (World.ownsRow.cells h rfl)
  rw [List.length_map] at hl
  rw [run_bytesToString w ⟨g, 0, none⟩ xs.length cap xs hl, foldl_strB]
theorem Row.conv {base : Nat} {w : World} {xs : List Int} {g cap : Nat} (h : Row base w (.slice (some ⟨g, 0, none⟩) xs.length cap) xs) :
    (convert 22 9 (.slice (some ⟨g, 0, none⟩) xs.length cap)).run Try.prog w = .ok (.string (strB xs)) w := by
  rw [run_convert_bytes_string w 22 9 5 _ _ _ Try.underlying22 Try.underlying5 Try.underlying9, h.bytes]
theorem strB_append (a b : List Int) : strB (a ++ b) = strB a ++ strB b := by
  apply ByteArray.ext
  simp [strB]
theorem strB_bytesB (s : ByteArray) : strB (bytesB s) = s := by
  apply ByteArray.ext
  have e : ((fun n : Int => UInt8.ofNat n.toNat) ∘ fun b : UInt8 => (b.toNat : Int)) = id := by
    funext b; simp
  simp [strB, bytesB, e]
theorem strB_size (a : List Int) : (strB a).size = a.length := by
  show (List.toArray _).size = _
  simp
theorem Fr.show_ok {f : Fr} (h : f.ok = true) : f.show = strB f.head ++ f.body := by simp [Fr.show, h]
theorem Fr.show_no {f : Fr} (h : f.ok = false) : f.show = ByteArray.empty := by simp [Fr.show, h]
theorem Fr.show_two {f : Fr} (h : f.ok = true) : strB ((f.outer ++ [2]) ++ (f.mid ++ bytesB f.body)) = f.show := by
  rw [Fr.show_ok h, ← List.append_assoc, strB_append, strB_bytesB]; rfl

/-- A list of bytes of the call's own behind another, as a step of a region that draws. -/
theorem step_appN {ops : Array Oper} {o : Oper} {a : Act} {w : World} {K : Act → World → Prop} {Q : Exit → Act → World → Prop} {E : Prop} (hgd : o.guard = none) (s x : Operand)
    (ho : o.op = .call { callee := .builtin .append, args := #[s, x], argTypes := #[22, 22] })
    (base base' : Nat) (v : Value) (xs ys : List Int) (g c : Nat) (hs : a.eval s = v) (hrow : Row base w v xs) (hx : a.eval x = .slice (some ⟨g, 0, none⟩) ys.length c) (hys : Row base' w (.slice (some ⟨g, 0, none⟩) ys.length c) ys)
    (hlen : xs.length + ys.length ≤ 1000000) (hb : base ≤ w.heap.size)
    (h : ∀ v' w', Row base w' v' (xs ++ ys) → Below base w w' → K (a.put o.dst v') w') :
    if Region.wanted o (yielded ops a.tmps) = true then Oper.wp Try.prog o a w K Q else E := by
  have hw : Region.wanted o (yielded ops a.tmps) = true := by simp [Region.wanted, hgd]
  rw [if_pos hw]
  obtain ⟨i0, hi, hz0, hz1, hz2⟩ := info_parts info5
  obtain ⟨v', w', hrun, h1, h2, _⟩ := run_append_own (P := Try.prog) w base 22 o.type 5 i0 (.int .u8 0) 1 1 Try.underlying22 hi hz0 hz1 hz2 rfl (by decide) v _ _ hrow ⟨g, 0, none⟩ ys.length c (ys.map (Value.int .u8)) (by simp)
    (World.ownsRow.cells hys rfl) (by intro u hu; simp only [List.mem_map] at hu; obtain ⟨y, _, rfl⟩ := hu; rfl) (by unfold maxLen; omega) (by omega) hb
  unfold Oper.wp
  simp [execOp, ho, resolve, invoke, builtin, hs, hx, hrun, Result.andThen]
  exact h v' w' (row_more rfl h1) ((Below.refl base w).grown h2 hb (fun k hk => Row.block hrow k hk))

end Go.Proofs.Ytdifegaokdoleaa

/-
  The sum of a text as plain data; the walks of the model's l3Fold and Sum16. By the verifier.
-/
namespace Go.Proofs.Ytdifegaokdoleaa
open Go.RowKit

/-- Two sums in one. -/
def fold16 (a b : Int) : Int := if 65535 < a + b then a + b - 65535 else a + b
theorem fold16_in {a b : Int} (a0 : 0 ≤ a) (a1 : a ≤ 65535) (b0 : 0 ≤ b) (b1 : b ≤ 65535) : 0 ≤ fold16 a b ∧ fold16 a b ≤ 65535 := by
  unfold fold16
  split <;> omega
/-- The byte at p; 0 behind the end. -/
def byteAt (text : ByteArray) (p : Nat) : Int := if h : p < text.size then ((text[p]'h).toNat : Int) else 0
theorem byteAt_in (text : ByteArray) (p : Nat) : 0 ≤ byteAt text p ∧ byteAt text p ≤ 255 := by
  unfold byteAt
  split
  · rename_i h
    have := (text[p]'h).toNat_lt
    omega
  · omega
/-- The pairs ahead of j, folded. -/
def sumTo (text : ByteArray) : Nat → Int
  | 0 => 0
  | j + 1 => fold16 (sumTo text j) (byteAt text (2 * j) * 256 + byteAt text (2 * j + 1))
theorem sumTo_in (text : ByteArray) (j : Nat) : 0 ≤ sumTo text j ∧ sumTo text j ≤ 65535 := by
  induction j with
  | zero => exact ⟨Int.le_refl _, by show (0 : Int) ≤ 65535; decide⟩
  | succ j ih =>
    have a := byteAt_in text (2 * j)
    have b := byteAt_in text (2 * j + 1)
    exact fold16_in ih.1 ih.2 (by omega) (by omega)
/-- The sum of a text. -/
def sum16 (text : ByteArray) : Int := 65535 - sumTo text ((text.size + 1) / 2)
theorem sum16_in (text : ByteArray) : 0 ≤ sum16 text ∧ sum16 text ≤ 65535 := by
  have := sumTo_in text ((text.size + 1) / 2)
  unfold sum16
  omega

theorem specFold16 (a b : Int) (a0 : 0 ≤ a) (a1 : a ≤ 65535) (b0 : 0 ≤ b) (b1 : b ≤ 65535) (w : World) :
    Calls Try.prog 88 #[.int .i64 a, .int .i64 b] w fun e w' => e = .returned (.int .i64 (fold16 a b)) ∧ w' = w := by
  unfold fold16
  by_cases h : 65535 < a + b
  · rw [if_pos h]
    go_enter Try.func88, Try.ntmps88
    go_wp2
    go_ret
    exact ⟨rfl, rfl⟩
  · rw [if_neg h]
    go_enter Try.func88, Try.ntmps88
    go_wp2
    go_ret
    exact ⟨rfl, rfl⟩

set_option maxHeartbeats 1600000 in
theorem specSum16 (text : ByteArray) (hsz : text.size ≤ 1048576) (w : World) :
    Calls Try.prog 83 #[.string text] w fun e w' => e = .returned (.int .i64 (sum16 text)) ∧ w' = w := by
  go_enter Try.func83, Try.ntmps83
  go_wp2
  go_loop [3, 4] (fun n i => ∃ j : Nat, j ≤ (text.size + 1) / 2 ∧ i = .int .i64 (2 * (j : Int)) ∧ n = .int .i64 (sumTo text j)) (fun _ i => text.size + 1 - (intOf i).toNat)
  case atStart => exact ⟨0, Nat.zero_le _, by simp, rfl⟩
  case round =>
    obtain ⟨j, hj, rfl, rfl⟩ := hrel
    obtain ⟨n0, n1⟩ := sumTo_in text j
    by_cases hlt : 2 * j < text.size
    · have hin' : 2 * (j : Int) < text.size := by omega
      have hs : Hid (sumTo text (j + 1) = fold16 (sumTo text j) (byteAt text (2 * j) * 256 + byteAt text (2 * j + 1))) := rfl
      have e0 : byteAt text (2 * j) = ((text[2 * j]'hlt).toNat : Int) := by unfold byteAt; rw [dif_pos hlt]
      have hx := (text[2 * j]'hlt).toNat_lt
      by_cases hl1 : 2 * j + 1 < text.size
      · have hin1 : 2 * (j : Int) + 1 < text.size := by omega
        have e1 : byteAt text (2 * j + 1) = ((text[2 * j + 1]'hl1).toNat : Int) := by unfold byteAt; rw [dif_pos hl1]
        have hy := (text[2 * j + 1]'hl1).toNat_lt
        rw [e0, e1] at hs
        generalize sumTo text j = n at hs n0 n1 ⊢
        go_wp2_with fail
        refine (specFold16 _ _ n0 n1 (by omega) (by omega) _).mono ?_
        rintro e w' ⟨rfl, rfl⟩
        go_wp2
        go_round
        case rel => exact ⟨j + 1, by omega, by go_num, by rw [hs.out]⟩
        case measure => simp [intOf]; omega
      · have hin1 : ¬ 2 * (j : Int) + 1 < text.size := by omega
        have e1 : byteAt text (2 * j + 1) = 0 := by unfold byteAt; rw [dif_neg hl1]
        rw [e0, e1, Int.add_zero] at hs
        generalize sumTo text j = n at hs n0 n1 ⊢
        go_wp2_with fail
        refine (specFold16 _ _ n0 n1 (by omega) (by omega) _).mono ?_
        rintro e w' ⟨rfl, rfl⟩
        go_wp2
        go_round
        case rel => exact ⟨j + 1, by omega, by go_num, by rw [hs.out]⟩
        case measure => simp [intOf]; omega
    · have he : j = (text.size + 1) / 2 := by omega
      have hs : Hid (sum16 text = 65535 - sumTo text j) := by subst he; rfl
      generalize sumTo text j = n at hs n0 n1 ⊢
      go_wp2
      go_ret
      exact ⟨by rw [hs.out]; rfl, rfl⟩
end Go.Proofs.Ytdifegaokdoleaa

/-
  The walk of the model's l3Sum: the sum that a frame's Sum must be. By the verifier.
-/
namespace Go.Proofs.Ytdifegaokdoleaa
open Go.RowKit

/-- The frame with Sum 0. -/
def Fr.zeroSum (f : Fr) : Fr := { f with sum := 0 }
/-- What is summed: what it is shown as from Src on. -/
def Fr.inner (f : Fr) : ByteArray := strB (f.mid ++ bytesB f.body)
/-- What Sum must be. -/
def Fr.sumOf (f : Fr) : Int := sum16 f.zeroSum.inner
theorem Fr.sumOf_in (f : Fr) : 0 ≤ f.sumOf ∧ f.sumOf ≤ 65535 := sum16_in _

set_option maxHeartbeats 1600000 in
set_option maxRecDepth 100000 in
theorem specL3Sum (f : Fr) (a : Option Addr) (cap : Nat) (w : World) (ok : Hid f.Shows) :
    Calls Try.prog 75 #[f.val a cap] w fun e w' => e = .returned (.int .i64 f.sumOf) ∧ Below w.heap.size w w' := by
  have ok' : f.zeroSum.Shows := by
    obtain ⟨h0, h1, h2, h4, h5, h6, h8, hB⟩ := ok.out
    exact ⟨h0, h1, h2, h4, h5, h6, Int.le_refl _, hB⟩
  have L := fun w1 => specInner f.zeroSum a cap w1 ok'
  have hI : (f.zeroSum.mid ++ bytesB f.zeroSum.body).length ≤ 100018 := by have := ok'.2.2.2.2.2.2.2; rw [List.length_append, Fr.mid_length, bytesB_length]; omega
  have hI0 : 0 < (f.zeroSum.mid ++ bytesB f.zeroSum.body).length := by rw [List.length_append, Fr.mid_length]; omega
  have hS : Hid (f.sumOf = sum16 (strB (f.zeroSum.mid ++ bytesB f.zeroSum.body))) := rfl
  generalize f.sumOf = sm at hS ⊢
  generalize f.zeroSum.mid ++ bytesB f.zeroSum.body = I at hI hI0 L hS ⊢
  have hsz : (strB I).size ≤ 1048576 := by rw [strB_size]; omega
  clear ok ok'
  obtain ⟨tt, frm, tags, src, dst, proto, sport, dport, mark, sum, body⟩ := f
  simp only [Fr.val, Fr.zeroSum] at L ⊢
  generalize tags.length = len at L ⊢
  have L' : Hid _ := L
  clear L
  go_enter Try.func75, Try.ntmps75
  go_upto_region 2 with fail
  have hbox := Boxed.new w #[.int .i64 tt, .int .i64 frm, .slice a len cap, .int .i64 src, .int .i64 dst, .int .i64 proto, .int .i64 sport, .int .i64 dport, .int .i64 mark, .int .i64 0, .string body] 27
  generalize hw1 : w.alloc (.cells #[.int .i64 tt, .int .i64 frm, .slice a len cap, .int .i64 src, .int .i64 dst, .int .i64 proto, .int .i64 sport, .int .i64 dport, .int .i64 mark, .int .i64 0, .string body] 27) = w1 at hbox ⊢
  have hs1 : w1.heap.size = w.heap.size + 1 := by rw [← hw1]; simp
  have Hw1 : Hid (∀ w', Below w1.heap.size w1 w' → Below w.heap.size w w') := by
    show ∀ w', _
    intro w' g; rw [← hw1] at g; exact below_of_alloc (by simpa using g)
  have H0 : Hid (Boxed w1 w.heap.size _ _) := hbox
  clear hbox hw1 hs1
  go_wp2_with (first | (refine wpList_load_row rfl 27 (.tmp 1) rfl w.heap.size rfl _ _ _ _ H0.out Try.underlying27 rfl (by kernel_rfl) ?_) | (go_at_call 84; refine (L'.out _).mono ?_; rintro e w2 ⟨v2, rfl, r2, b2⟩; obtain ⟨g2, cap2, rfl⟩ := r2.form hI0; have k1 := r2.conv; have k2 := r2.bytes; have K2 : Hid (Below w1.heap.size w1 w2) := b2; clear r2 b2) | (go_at_call 83; refine (specSum16 _ hsz _).mono ?_; rintro e w3 ⟨rfl, rfl⟩))
  go_ret
  exact ⟨by rw [hS.out]; rfl, Hw1.out _ K2.out⟩
end Go.Proofs.Ytdifegaokdoleaa
