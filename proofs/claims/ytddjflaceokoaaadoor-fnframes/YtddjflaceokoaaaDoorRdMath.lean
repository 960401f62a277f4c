/-
  What the model's ReadFrame says of a text, as plain data; that the reader says the same. By the verifier.
-/
import Derived.Test.YtddjflaceokoaaaDoorRdRead
import Derived.Lib.Strings
namespace Go.Proofs.YtddjflaceokoaaaDoor
open Go.RowKit

/-- k bytes from p on, as a number. -/
def numAt (text : ByteArray) (p k : Nat) : Int := numOf ((text.data.toList.drop p).take k)
def sTail (text : ByteArray) (dest frm : Int) (T : List Int) (p : Nat) : Fr × Int :=
  if text.size < p + 14 then (noFr, 1)
  else if 3 < numAt text (p + 13) 1 then (noFr, 4)
  else if text.size < p + 18 then (noFr, 1)
  else if 1500 < numAt text (p + 16) 2 then (noFr, 5)
  else if (text.size : Int) < p + 18 + numAt text (p + 16) 2 then (noFr, 1)
  else if p + 18 + numAt text (p + 16) 2 < (text.size : Int) then (noFr, 6)
  else (⟨dest, frm, T, numAt text p 4, numAt text (p + 4) 4, numAt text (p + 8) 1, numAt text (p + 9) 2, numAt text (p + 11) 2, numAt text (p + 13) 1, numAt text (p + 14) 2, text.extract (p + 18) text.size⟩, 0)
def sKind (text : ByteArray) (dest frm : Int) : Nat → Nat → List Int → Fr × Int
  | 0, p, T => if text.size ≤ p then (noFr, 1) else if numAt text p 1 = 2 then sTail text dest frm T (p + 1) else if numAt text p 1 ≠ 1 then (noFr, 3) else (noFr, 2)
  | k + 1, p, T => if text.size ≤ p then (noFr, 1) else if numAt text p 1 = 2 then sTail text dest frm T (p + 1) else if numAt text p 1 ≠ 1 then (noFr, 3)
    else if text.size < p + 3 then (noFr, 1) else if 4095 < numAt text (p + 1) 2 then (noFr, 2) else sKind text dest frm k (p + 3) (T ++ [numAt text (p + 1) 2])
def sRun (text : ByteArray) : Fr × Int := if text.size < 4 then (noFr, 1) else sKind text (numAt text 0 2) (numAt text 2 2) 2 4 []

def fin (r : Fr × Rst) : Fr × Int := if r.2.code = 0 then (r.1, 0) else (noFr, r.2.code)
theorem readRes_fin (text : ByteArray) : readRes text = fin (frameRun text) := rfl
theorem number_ok (text : ByteArray) (p k : Nat) (h : p + k ≤ text.size) : (⟨p, none⟩ : Rst).number text k = (numAt text p k, ⟨p + k, none⟩) := by
  have hn : ¬ text.size < p + k := by omega
  simp only [Rst.number, Rst.take, hn, if_false, numAt]
  rw [Lib.extract_data]
  simp
theorem number_no (text : ByteArray) (p k : Nat) (h : text.size < p + k) : (⟨p, none⟩ : Rst).number text k = (0, ⟨p, some (p, none)⟩) := by
  simp [Rst.number, Rst.take, h, numOf, Rst.fail]
theorem number_err (text : ByteArray) (p k : Nat) (e : Nat × Er) : (⟨p, some e⟩ : Rst).number text k = (0, ⟨p, some e⟩) := by
  simp [Rst.number, Rst.take, numOf]
theorem most_ok (text : ByteArray) (p k : Nat) (m c : Int) (h : p + k ≤ text.size) (hm : numAt text p k ≤ m) : (⟨p, none⟩ : Rst).atMost text m k c = (numAt text p k, ⟨p + k, none⟩) := by
  have hn : ¬ m < numAt text p k := by omega
  simp [Rst.atMost, number_ok text p k h, hn]
theorem most_big (text : ByteArray) (p k : Nat) (m c : Int) (h : p + k ≤ text.size) (hm : m < numAt text p k) : (⟨p, none⟩ : Rst).atMost text m k c = (0, ⟨p + k, some (p + k, some (some c))⟩) := by
  simp [Rst.atMost, number_ok text p k h, hm, Rst.fail]
theorem most_no (text : ByteArray) (p k : Nat) (m c : Int) (h : text.size < p + k) (hm : 0 ≤ m) : (⟨p, none⟩ : Rst).atMost text m k c = (0, ⟨p, some (p, none)⟩) := by
  have hn : ¬ m < 0 := by omega
  simp [Rst.atMost, number_no text p k h, hn]
theorem most_err (text : ByteArray) (p k : Nat) (m c : Int) (e : Nat × Er) (hm : 0 ≤ m) : (⟨p, some e⟩ : Rst).atMost text m k c = (0, ⟨p, some e⟩) := by
  have hn : ¬ m < 0 := by omega
  simp [Rst.atMost, number_err text p k e, hn]
theorem take_ok (text : ByteArray) (p k : Nat) (h : p + k ≤ text.size) : (⟨p, none⟩ : Rst).take text k = (text.extract p (p + k), ⟨p + k, none⟩) := by
  have hn : ¬ text.size < p + k := by omega
  simp [Rst.take, hn]
theorem take_no (text : ByteArray) (p k : Nat) (h : text.size < p + k) : (⟨p, none⟩ : Rst).take text k = (⟨#[]⟩, ⟨p, some (p, none)⟩) := by
  simp [Rst.take, h, Rst.fail]
theorem take_err (text : ByteArray) (p k : Nat) (e : Nat × Er) : (⟨p, some e⟩ : Rst).take text k = (⟨#[]⟩, ⟨p, some e⟩) := by simp [Rst.take]
theorem fail_err (p : Nat) (e : Nat × Er) (x : Er) : (⟨p, some e⟩ : Rst).fail x = ⟨p, some e⟩ := rfl
theorem fail_ok (p : Nat) (x : Er) : (⟨p, none⟩ : Rst).fail x = ⟨p, some (p, x)⟩ := rfl
theorem fin_err (f : Fr) (p q : Nat) (e : Er) (he : e.code ≠ 0) : fin (f, ⟨p, some (q, e)⟩) = (noFr, e.code) := by simp [fin, Rst.code, he]
theorem fin_ok (f : Fr) (p : Nat) : fin (f, ⟨p, none⟩) = (f, 0) := by simp [fin, Rst.code]

theorem head_err (text : ByteArray) (dest frm : Int) (T : List Int) (p q : Nat) (e : Er) (he : e.code ≠ 0) : fin ((⟨p, some (q, e)⟩ : Rst).headRun text dest frm T) = (noFr, e.code) := by
  simp only [Rst.headRun, number_err, most_err _ _ _ _ _ _ (show (0 : Int) ≤ 3 by decide), most_err _ _ _ _ _ _ (show (0 : Int) ≤ 1500 by decide), take_err, fail_err]
  simp only [ite_self]
  exact fin_err _ _ _ _ he
theorem kind_err (text : ByteArray) (dest frm : Int) (k : Nat) (T : List Int) (p q : Nat) (e : Er) (he : e.code ≠ 0) : fin ((⟨p, some (q, e)⟩ : Rst).kindRun text dest frm k T) = (noFr, e.code) := by
  rw [Rst.kindRun_eq, number_err]
  simp only [fail_err]
  rw [if_neg (by decide), if_neg (by decide)]
  exact fin_err _ _ _ _ he
theorem head_eq (text : ByteArray) (dest frm : Int) (T : List Int) (p : Nat) : fin ((⟨p, none⟩ : Rst).headRun text dest frm T) = sTail text dest frm T p := by
  simp only [Rst.headRun]
  by_cases h0 : text.size < p + 4
  · rw [number_no _ _ _ h0]
    repeat (first | rw [number_err] | rw [most_err _ _ _ _ _ _ (show (0 : Int) ≤ 3 by decide)] | rw [most_err _ _ _ _ _ _ (show (0 : Int) ≤ 1500 by decide)] | rw [take_err] | rw [fail_err] | rw [ite_self] | dsimp only)
    rw [fin_err _ _ _ _ (by decide), sTail, if_pos (by omega)]
    rfl
  rw [number_ok text (p) 4 (by omega)]
  dsimp only
  by_cases h1 : text.size < p + 4 + 4
  · rw [number_no _ _ _ h1]
    repeat (first | rw [number_err] | rw [most_err _ _ _ _ _ _ (show (0 : Int) ≤ 3 by decide)] | rw [most_err _ _ _ _ _ _ (show (0 : Int) ≤ 1500 by decide)] | rw [take_err] | rw [fail_err] | rw [ite_self] | dsimp only)
    rw [fin_err _ _ _ _ (by decide), sTail, if_pos (by omega)]
    rfl
  rw [number_ok text (p + 4) 4 (by omega)]
  simp only [Nat.add_assoc, Nat.reduceAdd]
  by_cases h2 : text.size < p + 8 + 1
  · rw [number_no _ _ _ h2]
    repeat (first | rw [number_err] | rw [most_err _ _ _ _ _ _ (show (0 : Int) ≤ 3 by decide)] | rw [most_err _ _ _ _ _ _ (show (0 : Int) ≤ 1500 by decide)] | rw [take_err] | rw [fail_err] | rw [ite_self] | dsimp only)
    rw [fin_err _ _ _ _ (by decide), sTail, if_pos (by omega)]
    rfl
  rw [number_ok text (p + 8) 1 (by omega)]
  simp only [Nat.add_assoc, Nat.reduceAdd]
  by_cases h3 : text.size < p + 9 + 2
  · rw [number_no _ _ _ h3]
    repeat (first | rw [number_err] | rw [most_err _ _ _ _ _ _ (show (0 : Int) ≤ 3 by decide)] | rw [most_err _ _ _ _ _ _ (show (0 : Int) ≤ 1500 by decide)] | rw [take_err] | rw [fail_err] | rw [ite_self] | dsimp only)
    rw [fin_err _ _ _ _ (by decide), sTail, if_pos (by omega)]
    rfl
  rw [number_ok text (p + 9) 2 (by omega)]
  simp only [Nat.add_assoc, Nat.reduceAdd]
  by_cases h4 : text.size < p + 11 + 2
  · rw [number_no _ _ _ h4]
    repeat (first | rw [number_err] | rw [most_err _ _ _ _ _ _ (show (0 : Int) ≤ 3 by decide)] | rw [most_err _ _ _ _ _ _ (show (0 : Int) ≤ 1500 by decide)] | rw [take_err] | rw [fail_err] | rw [ite_self] | dsimp only)
    rw [fin_err _ _ _ _ (by decide), sTail, if_pos (by omega)]
    rfl
  rw [number_ok text (p + 11) 2 (by omega)]
  simp only [Nat.add_assoc, Nat.reduceAdd]
  by_cases h5 : text.size < p + 13 + 1
  · rw [most_no _ _ _ _ _ h5 (by decide)]
    repeat (first | rw [number_err] | rw [most_err _ _ _ _ _ _ (show (0 : Int) ≤ 3 by decide)] | rw [most_err _ _ _ _ _ _ (show (0 : Int) ≤ 1500 by decide)] | rw [take_err] | rw [fail_err] | rw [ite_self] | dsimp only)
    rw [fin_err _ _ _ _ (by decide), sTail, if_pos (by omega)]
    rfl
  by_cases m5 : 3 < numAt text (p + 13) 1
  · rw [most_big _ _ _ _ _ (by omega) m5]
    repeat (first | rw [number_err] | rw [most_err _ _ _ _ _ _ (show (0 : Int) ≤ 3 by decide)] | rw [most_err _ _ _ _ _ _ (show (0 : Int) ≤ 1500 by decide)] | rw [take_err] | rw [fail_err] | rw [ite_self] | dsimp only)
    rw [fin_err _ _ _ _ (by decide), sTail, if_neg (by omega), if_pos m5]
    rfl
  rw [most_ok text (p + 13) 1 3 4 (by omega) (by omega)]
  simp only [Nat.add_assoc, Nat.reduceAdd]
  by_cases h6 : text.size < p + 14 + 2
  · rw [number_no _ _ _ h6]
    repeat (first | rw [number_err] | rw [most_err _ _ _ _ _ _ (show (0 : Int) ≤ 3 by decide)] | rw [most_err _ _ _ _ _ _ (show (0 : Int) ≤ 1500 by decide)] | rw [take_err] | rw [fail_err] | rw [ite_self] | dsimp only)
    rw [fin_err _ _ _ _ (by decide), sTail, if_neg (by omega), if_neg m5, if_pos (by omega)]
    rfl
  rw [number_ok text (p + 14) 2 (by omega)]
  simp only [Nat.add_assoc, Nat.reduceAdd]
  by_cases h7 : text.size < p + 16 + 2
  · rw [most_no _ _ _ _ _ h7 (by decide)]
    repeat (first | rw [number_err] | rw [most_err _ _ _ _ _ _ (show (0 : Int) ≤ 3 by decide)] | rw [most_err _ _ _ _ _ _ (show (0 : Int) ≤ 1500 by decide)] | rw [take_err] | rw [fail_err] | rw [ite_self] | dsimp only)
    rw [fin_err _ _ _ _ (by decide), sTail, if_neg (by omega), if_neg m5, if_pos (by omega)]
    rfl
  by_cases m7 : 1500 < numAt text (p + 16) 2
  · rw [most_big _ _ _ _ _ (by omega) m7]
    repeat (first | rw [number_err] | rw [most_err _ _ _ _ _ _ (show (0 : Int) ≤ 3 by decide)] | rw [most_err _ _ _ _ _ _ (show (0 : Int) ≤ 1500 by decide)] | rw [take_err] | rw [fail_err] | rw [ite_self] | dsimp only)
    rw [fin_err _ _ _ _ (by decide), sTail, if_neg (by omega), if_neg m5, if_neg (by omega), if_pos m7]
    rfl
  rw [most_ok text (p + 16) 2 1500 5 (by omega) (by omega)]
  simp only [Nat.add_assoc, Nat.reduceAdd]
  have hR : sTail text dest frm T p = if (text.size : Int) < p + 18 + numAt text (p + 16) 2 then (noFr, 1) else if p + 18 + numAt text (p + 16) 2 < (text.size : Int) then (noFr, 6) else (⟨dest, frm, T, numAt text p 4, numAt text (p + 4) 4, numAt text (p + 8) 1, numAt text (p + 9) 2, numAt text (p + 11) 2, numAt text (p + 13) 1, numAt text (p + 14) 2, text.extract (p + 18) text.size⟩, 0) := by rw [sTail, if_neg (show ¬ text.size < p + 14 by omega), if_neg m5, if_neg (show ¬ text.size < p + 18 by omega), if_neg m7]
  rw [hR]
  clear hR
  obtain ⟨z, hz⟩ : ∃ z : Nat, numAt text (p + 16) 2 = (z : Int) := ⟨(numAt text (p + 16) 2).toNat, by have := numOf_nonneg ((text.data.toList.drop (p + 16)).take 2); unfold numAt; omega⟩
  rw [hz, Int.toNat_natCast]
  by_cases h8 : text.size < p + 18 + z
  · rw [take_no _ _ _ h8]
    repeat (first | rw [number_err] | rw [most_err _ _ _ _ _ _ (show (0 : Int) ≤ 3 by decide)] | rw [most_err _ _ _ _ _ _ (show (0 : Int) ≤ 1500 by decide)] | rw [take_err] | rw [fail_err] | rw [ite_self] | dsimp only)
    rw [fin_err _ _ _ _ (by decide), if_pos (by omega)]
    rfl
  rw [take_ok text (p + 18) z (by omega)]
  dsimp only
  by_cases h9 : p + 18 + z < text.size
  · rw [if_pos h9, fail_ok, fin_err _ _ _ _ (by decide), if_neg (by omega), if_pos (by omega)]
    rfl
  · rw [if_neg h9, fin_ok, if_neg (by omega), if_neg (by omega)]
    have e : p + 18 + z = text.size := by omega
    rw [e]

theorem kind_eq (text : ByteArray) (dest frm : Int) : ∀ (k p : Nat) (T : List Int), p ≤ text.size → fin ((⟨p, none⟩ : Rst).kindRun text dest frm k T) = sKind text dest frm k p T := by
  intro k
  induction k with
  | zero =>
    intro p T hp
    rw [Rst.kindRun_eq, sKind]
    by_cases h : text.size ≤ p
    · rw [number_no _ _ _ (by omega), if_pos h]
      dsimp only
      rw [if_neg (by decide), if_neg (by decide)]
      exact fin_err _ _ _ _ (by decide)
    · rw [number_ok text p 1 (by omega), if_neg h]
      dsimp only
      by_cases h1 : numAt text p 1 = 1
      · rw [if_pos h1, if_neg (by omega), if_neg (by omega)]
        exact fin_err _ _ _ _ (by decide)
      · rw [if_neg h1]
        by_cases h2 : numAt text p 1 = 2
        · rw [if_pos h2, if_pos h2, head_eq]
        · rw [if_neg h2, if_neg h2, if_pos h1]
          exact fin_err _ _ _ _ (by decide)
  | succ k ih =>
    intro p T hp
    rw [Rst.kindRun_eq, sKind]
    by_cases h : text.size ≤ p
    · rw [number_no _ _ _ (by omega), if_pos h]
      dsimp only
      rw [if_neg (by decide), if_neg (by decide)]
      exact fin_err _ _ _ _ (by decide)
    · rw [number_ok text p 1 (by omega), if_neg h]
      dsimp only
      by_cases h1 : numAt text p 1 = 1
      · rw [if_pos h1, if_neg (by omega), if_neg (by omega)]
        rw [Rst.tagRun]
        by_cases h3 : text.size < p + 3
        · rw [most_no text (p + 1) 2 4095 2 (by omega) (by decide), if_pos h3]
          exact kind_err _ _ _ _ _ _ _ _ (by decide)
        · rw [if_neg h3]
          by_cases h4 : 4095 < numAt text (p + 1) 2
          · rw [most_big text (p + 1) 2 4095 2 (by omega) h4, if_pos h4]
            exact kind_err _ _ _ _ _ _ _ _ (by decide)
          · rw [most_ok text (p + 1) 2 4095 2 (by omega) (by omega), if_neg h4]
            exact ih (p + 3) _ (by omega)
      · rw [if_neg h1]
        by_cases h2 : numAt text p 1 = 2
        · rw [if_pos h2, if_pos h2, head_eq]
        · rw [if_neg h2, if_neg h2, if_pos h1]
          exact fin_err _ _ _ _ (by decide)

/-- The reader says what the model says. -/
theorem read_eq (text : ByteArray) : readRes text = sRun text := by
  rw [readRes_fin, sRun, frameRun]
  by_cases h0 : text.size < 2
  · rw [number_no text 0 2 (by omega), if_pos (by omega)]
    dsimp only
    rw [number_err]
    exact kind_err _ _ _ _ _ _ _ _ (by decide)
  · rw [number_ok text 0 2 (by omega)]
    dsimp only
    by_cases h1 : text.size < 4
    · rw [number_no text (0 + 2) 2 (by omega), if_pos h1]
      exact kind_err _ _ _ _ _ _ _ _ (by decide)
    · rw [number_ok text (0 + 2) 2 (by omega), if_neg h1]
      exact kind_eq text _ _ 2 4 [] (by omega)
end Go.Proofs.YtddjflaceokoaaaDoor
