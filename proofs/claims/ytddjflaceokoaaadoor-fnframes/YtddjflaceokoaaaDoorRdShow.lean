/-
  A frame that is shown is read again: plain facts. By the verifier.
-/
import Derived.Test.YtddjflaceokoaaaDoorRdMath
namespace Go.Proofs.YtddjflaceokoaaaDoor
open Go.RowKit

/-- A number as a byte. -/
def u8 (n : Int) : UInt8 := UInt8.ofNat n.toNat
/-- k bytes of a list from p on, as a number. -/
def numL (l : List UInt8) (p k : Nat) : Int := numOf ((l.drop p).take k)
theorem dropL_skip (A R : List UInt8) (n p : Nat) (h : A.length = n) : (A ++ R).drop (n + p) = R.drop p := by
  subst h
  rw [List.drop_append, List.drop_eq_nil_of_le (by omega)]
  simp
theorem numL_skip (A R : List UInt8) (n p k : Nat) (h : A.length = n) : numL (A ++ R) (n + p) k = numL R p k := by
  unfold numL
  rw [dropL_skip A R n p h]
theorem numL_hit (B C : List UInt8) (k : Nat) (h : B.length = k) : numL (B ++ C) 0 k = numOf B := by
  subst h
  simp [numL]
theorem u8_toNat (n : Int) (h0 : 0 ≤ n) (h1 : n ≤ 255) : ((u8 n).toNat : Int) = n := by
  unfold u8
  rw [UInt8.toNat_ofNat']
  omega
theorem numOf_be1 (n : Int) (h0 : 0 ≤ n) (h1 : n ≤ 255) : numOf ((be 1 n).map u8) = n := by
  have a := u8_toNat (n / 256 ^ 0 % 256) (by omega) (by omega)
  simp only [be, List.map_cons, List.map_nil, numOf, List.foldl_cons, List.foldl_nil, a]
  omega
theorem numOf_be2 (n : Int) (h0 : 0 ≤ n) (h1 : n ≤ 65535) : numOf ((be 2 n).map u8) = n := by
  have a := u8_toNat (n / 256 ^ 0 % 256) (by omega) (by omega)
  have b := u8_toNat (n / 256 ^ 1 % 256) (by omega) (by omega)
  simp only [be, List.map_cons, List.map_nil, numOf, List.foldl_cons, List.foldl_nil, a, b]
  omega
theorem numOf_be4 (n : Int) (h0 : 0 ≤ n) (h1 : n ≤ 4294967295) : numOf ((be 4 n).map u8) = n := by
  have a := u8_toNat (n / 256 ^ 0 % 256) (by omega) (by omega)
  have b := u8_toNat (n / 256 ^ 1 % 256) (by omega) (by omega)
  have c := u8_toNat (n / 256 ^ 2 % 256) (by omega) (by omega)
  have d := u8_toNat (n / 256 ^ 3 % 256) (by omega) (by omega)
  simp only [be, List.map_cons, List.map_nil, numOf, List.foldl_cons, List.foldl_nil, a, b, c, d]
  omega
theorem beL (k : Nat) (n : Int) : ((be k n).map u8).length = k := by rw [List.length_map, be_length]

/-- The tail of a shown frame, with or without more behind it. -/
theorem tail_shown (text : ByteArray) (f : Fr) (ok : f.Ok) (dest frm : Int) (T : List Int) (A E : List UInt8) (p : Nat) (hp : A.length = p)
    (h : text.data.toList = A ++ ((be 4 f.src).map u8 ++ ((be 4 f.dst).map u8 ++ ((be 1 f.proto).map u8 ++ ((be 2 f.sport).map u8 ++ ((be 2 f.dport).map u8 ++ ((be 1 f.mark).map u8 ++ ((be 2 f.sum).map u8 ++ ((be 2 f.body.size).map u8 ++ (f.body.data.toList ++ E)))))))))) :
    sTail text dest frm T p = if E = [] then (⟨dest, frm, T, f.src, f.dst, f.proto, f.sport, f.dport, f.mark, f.sum, f.body⟩, 0) else (noFr, 6) := by
  obtain ⟨_, _, _, o4, o5, o6, o7, o8, o9, o10, o11, _⟩ := ok
  have hsz : text.size = p + 18 + f.body.size + E.length := by
    have e : text.size = text.data.toList.length := by rw [Array.length_toList]; rfl
    have e2 : f.body.data.toList.length = f.body.size := by rw [Array.length_toList]; rfl
    rw [e, h]
    simp only [List.length_append, beL, hp, e2]
    omega
  have n0 : numAt text p 4 = f.src := by
    show numL text.data.toList (p + 0) 4 = _
    rw [h, numL_skip _ _ _ _ _ hp, numL_hit _ _ _ (beL 4 _), numOf_be4 _ o4.1 o4.2]
  have n4 : numAt text (p + 4) 4 = f.dst := by
    show numL text.data.toList (p + (4 + 0)) 4 = _
    rw [h, numL_skip _ _ _ _ _ hp, numL_skip _ _ _ _ _ (beL 4 _), numL_hit _ _ _ (beL 4 _), numOf_be4 _ o5.1 o5.2]
  have n8 : numAt text (p + 8) 1 = f.proto := by
    show numL text.data.toList (p + (4 + (4 + 0))) 1 = _
    rw [h, numL_skip _ _ _ _ _ hp, numL_skip _ _ _ _ _ (beL 4 _), numL_skip _ _ _ _ _ (beL 4 _), numL_hit _ _ _ (beL 1 _), numOf_be1 _ o6.1 o6.2]
  have n9 : numAt text (p + 9) 2 = f.sport := by
    show numL text.data.toList (p + (4 + (4 + (1 + 0)))) 2 = _
    rw [h, numL_skip _ _ _ _ _ hp, numL_skip _ _ _ _ _ (beL 4 _), numL_skip _ _ _ _ _ (beL 4 _), numL_skip _ _ _ _ _ (beL 1 _), numL_hit _ _ _ (beL 2 _), numOf_be2 _ o7.1 o7.2]
  have n11 : numAt text (p + 11) 2 = f.dport := by
    show numL text.data.toList (p + (4 + (4 + (1 + (2 + 0))))) 2 = _
    rw [h, numL_skip _ _ _ _ _ hp, numL_skip _ _ _ _ _ (beL 4 _), numL_skip _ _ _ _ _ (beL 4 _), numL_skip _ _ _ _ _ (beL 1 _), numL_skip _ _ _ _ _ (beL 2 _), numL_hit _ _ _ (beL 2 _), numOf_be2 _ o8.1 o8.2]
  have n13 : numAt text (p + 13) 1 = f.mark := by
    show numL text.data.toList (p + (4 + (4 + (1 + (2 + (2 + 0)))))) 1 = _
    rw [h, numL_skip _ _ _ _ _ hp, numL_skip _ _ _ _ _ (beL 4 _), numL_skip _ _ _ _ _ (beL 4 _), numL_skip _ _ _ _ _ (beL 1 _), numL_skip _ _ _ _ _ (beL 2 _), numL_skip _ _ _ _ _ (beL 2 _), numL_hit _ _ _ (beL 1 _), numOf_be1 _ o9.1 (by omega)]
  have n14 : numAt text (p + 14) 2 = f.sum := by
    show numL text.data.toList (p + (4 + (4 + (1 + (2 + (2 + (1 + 0))))))) 2 = _
    rw [h, numL_skip _ _ _ _ _ hp, numL_skip _ _ _ _ _ (beL 4 _), numL_skip _ _ _ _ _ (beL 4 _), numL_skip _ _ _ _ _ (beL 1 _), numL_skip _ _ _ _ _ (beL 2 _), numL_skip _ _ _ _ _ (beL 2 _), numL_skip _ _ _ _ _ (beL 1 _), numL_hit _ _ _ (beL 2 _), numOf_be2 _ o10.1 o10.2]
  have n16 : numAt text (p + 16) 2 = f.body.size := by
    show numL text.data.toList (p + (4 + (4 + (1 + (2 + (2 + (1 + (2 + 0)))))))) 2 = _
    rw [h, numL_skip _ _ _ _ _ hp, numL_skip _ _ _ _ _ (beL 4 _), numL_skip _ _ _ _ _ (beL 4 _), numL_skip _ _ _ _ _ (beL 1 _), numL_skip _ _ _ _ _ (beL 2 _), numL_skip _ _ _ _ _ (beL 2 _), numL_skip _ _ _ _ _ (beL 1 _), numL_skip _ _ _ _ _ (beL 2 _), numL_hit _ _ _ (beL 2 _), numOf_be2 _ (by omega) (by omega)]
  rw [sTail, if_neg (by omega), n13, if_neg (by omega), if_neg (by omega), n16, if_neg (by omega), if_neg (by omega)]
  by_cases hE : E = []
  · subst hE
    have hb : text.extract (p + 18) text.size = f.body := by
      apply ByteArray.ext
      apply Array.toList_inj.1
      rw [Lib.extract_data, h]
      have e2 : f.body.data.toList.length = f.body.size := by rw [Array.length_toList]; rfl
      have e3 : text.size - (p + 18) = f.body.data.toList.length := by rw [e2, hsz]; simp only [List.length_nil]; omega
      rw [e3, show p + 18 = p + (4 + (4 + (1 + (2 + (2 + (1 + (2 + (2 + 0)))))))) from rfl, dropL_skip _ _ _ _ hp, dropL_skip _ _ _ _ (beL 4 _), dropL_skip _ _ _ _ (beL 4 _), dropL_skip _ _ _ _ (beL 1 _), dropL_skip _ _ _ _ (beL 2 _), dropL_skip _ _ _ _ (beL 2 _), dropL_skip _ _ _ _ (beL 1 _), dropL_skip _ _ _ _ (beL 2 _), dropL_skip _ _ _ _ (beL 2 _), List.drop_zero, List.append_nil, List.take_length]
    rw [if_neg (by simp at hsz; omega), if_pos rfl, n0, n4, n8, n9, n11, n14, hb]
  · have : 0 < E.length := List.length_pos_iff.2 hE
    rw [if_pos (by omega), if_neg hE]

/-- The tags of a shown frame. -/
theorem kind_shown (text : ByteArray) (dest frm : Int) (R : List UInt8) : ∀ (tags T : List Int) (A : List UInt8) (k p : Nat), A.length = p → tags.length ≤ k → tags.all (inB 0 4095) = true →
    text.data.toList = A ++ ((tagBytes tags).map u8 ++ (u8 2 :: R)) → sKind text dest frm k p T = sTail text dest frm (T ++ tags) (p + 3 * tags.length + 1) := by
  have hz : text.size = text.data.toList.length := by rw [Array.length_toList]; rfl
  intro tags
  induction tags with
  | nil =>
    intro T A k p hp _ _ h
    have hsz : p < text.size := by rw [hz, h]; simp; omega
    have n2 : numAt text p 1 = 2 := by
      show numL text.data.toList (p + 0) 1 = _
      rw [h, numL_skip _ _ _ _ _ hp]
      rfl
    rw [List.append_nil]
    cases k with
    | zero => rw [sKind, if_neg (by omega), if_pos n2]; rfl
    | succ k => rw [sKind, if_neg (by omega), if_pos n2]; rfl
  | cons z tags ih =>
    intro T A k p hp hk hall h
    cases k with
    | zero => simp at hk
    | succ k =>
      rw [List.all_cons, Bool.and_eq_true] at hall
      have hz1 := inB_true.1 hall.1
      have e1 : (tagBytes (z :: tags)).map u8 = [u8 1] ++ ((be 2 z).map u8 ++ (tagBytes tags).map u8) := by simp [tagBytes]
      rw [e1, List.append_assoc, List.append_assoc] at h
      have hsz : p + 3 < text.size := by
        rw [hz, h]
        simp only [List.length_append, List.length_cons, List.length_nil, beL, hp]
        omega
      have n1 : numAt text p 1 = 1 := by
        show numL text.data.toList (p + 0) 1 = _
        rw [h, numL_skip _ _ _ _ _ hp, numL_hit [u8 1] _ 1 rfl]
        rfl
      have n2 : numAt text (p + 1) 2 = z := by
        show numL text.data.toList (p + (1 + 0)) 2 = _
        rw [h, numL_skip _ _ _ _ _ hp, numL_skip _ _ 1 _ _ rfl, numL_hit _ _ _ (beL 2 _), numOf_be2 _ hz1.1 (by omega)]
      rw [sKind, if_neg (by omega), if_neg (by omega), if_neg (by omega), if_neg (by omega), n2, if_neg (by omega),
        ih (T ++ [z]) (A ++ ([u8 1] ++ (be 2 z).map u8)) k (p + 3) (by simp only [List.length_append, List.length_cons, List.length_nil, beL, hp]) (by simpa using hk) hall.2 (by rw [h]; simp)]
      rw [List.append_assoc]
      show sTail text dest frm (T ++ ([z] ++ tags)) _ = sTail text dest frm (T ++ z :: tags) _
      have : p + 3 + 3 * tags.length + 1 = p + 3 * (z :: tags).length + 1 := by rw [List.length_cons]; omega
      rw [this]
      rfl

/-- A right frame's bytes, with or without more behind them. -/
theorem run_shown (text : ByteArray) (f : Fr) (ok : f.Ok) (E : List UInt8) (h : text.data.toList = f.head.map u8 ++ (f.body.data.toList ++ E)) :
    sRun text = if E = [] then (f, 0) else (noFr, 6) := by
  have hz : text.size = text.data.toList.length := by rw [Array.length_toList]; rfl
  obtain ⟨o0, o1, o2, _, _, _, _, _, _, _, _, o12⟩ := id ok
  have h' : text.data.toList = (be 2 f.to).map u8 ++ ((be 2 f.frm).map u8 ++ ((tagBytes f.tags).map u8 ++ (u8 2 :: ((be 4 f.src).map u8 ++ ((be 4 f.dst).map u8 ++ ((be 1 f.proto).map u8 ++ ((be 2 f.sport).map u8 ++ ((be 2 f.dport).map u8 ++ ((be 1 f.mark).map u8 ++ ((be 2 f.sum).map u8 ++ ((be 2 f.body.size).map u8 ++ (f.body.data.toList ++ E))))))))))))  := by
    rw [h]
    simp [Fr.head, Fr.outer, Fr.mid]
  have n0 : numAt text 0 2 = f.to := by
    show numL text.data.toList 0 2 = _
    rw [h', numL_hit _ _ _ (beL 2 _), numOf_be2 _ o0.1 o0.2]
  have n2 : numAt text 2 2 = f.frm := by
    show numL text.data.toList (2 + 0) 2 = _
    rw [h', numL_skip _ _ _ _ _ (beL 2 _), numL_hit _ _ _ (beL 2 _), numOf_be2 _ o1.1 o1.2]
  have hsz : 4 ≤ text.size := by
    rw [hz, h']
    simp only [List.length_append, beL]
    omega
  rw [sRun, if_neg (by omega), n0, n2]
  rw [kind_shown text f.to f.frm _ f.tags [] ((be 2 f.to).map u8 ++ (be 2 f.frm).map u8) 2 4 (by simp only [List.length_append, beL]) o2 o12 (by rw [h', List.append_assoc])]
  rw [List.nil_append]
  exact tail_shown text f ok f.to f.frm f.tags ((be 2 f.to).map u8 ++ ((be 2 f.frm).map u8 ++ ((tagBytes f.tags).map u8 ++ [u8 2]))) E _ (by simp [be_length, tagBytes_length]; omega) (by rw [h']; simp)
end Go.Proofs.YtddjflaceokoaaaDoor
