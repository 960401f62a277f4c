/-
  Of less than a shown frame it is told that it is too short: plain facts. By the verifier.
-/
import Derived.Test.YtddjflaceokoaaaDoorRdShow
namespace Go.Proofs.YtddjflaceokoaaaDoor
open Go.RowKit

theorem numL_take (L : List UInt8) (m p k : Nat) (h : p + k ≤ m) : numL (L.take m) p k = numL L p k := by
  unfold numL
  rw [List.drop_take, List.take_take, Nat.min_eq_left (by omega)]
theorem tail_short (text : ByteArray) (f : Fr) (ok : f.Ok) (dest frm : Int) (T : List Int) (A : List UInt8) (p : Nat) (hp : A.length = p) (m : Nat)
    (hm : m < (A ++ ((be 4 f.src).map u8 ++ ((be 4 f.dst).map u8 ++ ((be 1 f.proto).map u8 ++ ((be 2 f.sport).map u8 ++ ((be 2 f.dport).map u8 ++ ((be 1 f.mark).map u8 ++ ((be 2 f.sum).map u8 ++ ((be 2 f.body.size).map u8 ++ f.body.data.toList))))))))).length) (h : text.data.toList = (A ++ ((be 4 f.src).map u8 ++ ((be 4 f.dst).map u8 ++ ((be 1 f.proto).map u8 ++ ((be 2 f.sport).map u8 ++ ((be 2 f.dport).map u8 ++ ((be 1 f.mark).map u8 ++ ((be 2 f.sum).map u8 ++ ((be 2 f.body.size).map u8 ++ f.body.data.toList))))))))).take m) : sTail text dest frm T p = (noFr, 1) := by
  obtain ⟨_, _, _, _, _, _, _, _, o9, _, o11, _⟩ := ok
  have hsz : text.size = m := by
    have e : text.size = text.data.toList.length := by rw [Array.length_toList]; rfl
    rw [e, h, List.length_take]; omega
  have hlen : (A ++ ((be 4 f.src).map u8 ++ ((be 4 f.dst).map u8 ++ ((be 1 f.proto).map u8 ++ ((be 2 f.sport).map u8 ++ ((be 2 f.dport).map u8 ++ ((be 1 f.mark).map u8 ++ ((be 2 f.sum).map u8 ++ ((be 2 f.body.size).map u8 ++ f.body.data.toList))))))))).length = p + 18 + f.body.size := by
    have e2 : f.body.data.toList.length = f.body.size := by rw [Array.length_toList]; rfl
    simp only [List.length_append, beL, hp, e2]
    omega
  rw [hlen] at hm
  rw [sTail]
  by_cases h14 : m < p + 14
  · rw [if_pos (by omega)]
  have n13 : numAt text (p + 13) 1 = f.mark := by
    show numL text.data.toList (p + (4 + (4 + (1 + (2 + (2 + 0)))))) 1 = _
    rw [h, numL_take _ _ _ _ (by omega), numL_skip _ _ _ _ _ hp, numL_skip _ _ _ _ _ (beL 4 _), numL_skip _ _ _ _ _ (beL 4 _), numL_skip _ _ _ _ _ (beL 1 _), numL_skip _ _ _ _ _ (beL 2 _), numL_skip _ _ _ _ _ (beL 2 _), numL_hit _ _ _ (beL 1 _), numOf_be1 _ o9.1 (by omega)]
  rw [if_neg (by omega), n13, if_neg (by omega)]
  by_cases h18 : m < p + 18
  · rw [if_pos (by omega)]
  have n16 : numAt text (p + 16) 2 = f.body.size := by
    show numL text.data.toList (p + (4 + (4 + (1 + (2 + (2 + (1 + (2 + 0)))))))) 2 = _
    rw [h, numL_take _ _ _ _ (by omega), numL_skip _ _ _ _ _ hp, numL_skip _ _ _ _ _ (beL 4 _), numL_skip _ _ _ _ _ (beL 4 _), numL_skip _ _ _ _ _ (beL 1 _), numL_skip _ _ _ _ _ (beL 2 _), numL_skip _ _ _ _ _ (beL 2 _), numL_skip _ _ _ _ _ (beL 1 _), numL_skip _ _ _ _ _ (beL 2 _), numL_hit _ _ _ (beL 2 _), numOf_be2 _ (by omega) (by omega)]
  rw [if_neg (by omega), n16, if_neg (by omega), if_pos (by omega)]

theorem kind_short (text : ByteArray) (f : Fr) (ok : f.Ok) (dest frm : Int) (m : Nat) : ∀ (tags T : List Int) (A : List UInt8) (k p : Nat), A.length = p → tags.length ≤ k → tags.all (inB 0 4095) = true →
    m < (A ++ ((tagBytes tags).map u8 ++ (u8 2 :: ((be 4 f.src).map u8 ++ ((be 4 f.dst).map u8 ++ ((be 1 f.proto).map u8 ++ ((be 2 f.sport).map u8 ++ ((be 2 f.dport).map u8 ++ ((be 1 f.mark).map u8 ++ ((be 2 f.sum).map u8 ++ ((be 2 f.body.size).map u8 ++ f.body.data.toList))))))))))).length → text.data.toList = (A ++ ((tagBytes tags).map u8 ++ (u8 2 :: ((be 4 f.src).map u8 ++ ((be 4 f.dst).map u8 ++ ((be 1 f.proto).map u8 ++ ((be 2 f.sport).map u8 ++ ((be 2 f.dport).map u8 ++ ((be 1 f.mark).map u8 ++ ((be 2 f.sum).map u8 ++ ((be 2 f.body.size).map u8 ++ f.body.data.toList))))))))))).take m → sKind text dest frm k p T = (noFr, 1) := by
  intro tags
  induction tags with
  | nil =>
    intro T A k p hp _ _ hm h
    have hsz : text.size = m := by
      have e : text.size = text.data.toList.length := by rw [Array.length_toList]; rfl
      rw [e, h, List.length_take]; omega
    by_cases hle : text.size ≤ p
    · cases k with
      | zero => rw [sKind, if_pos hle]
      | succ k => rw [sKind, if_pos hle]
    have n2 : numAt text p 1 = 2 := by
      show numL text.data.toList (p + 0) 1 = _
      rw [h, numL_take _ _ _ _ (by omega), numL_skip _ _ _ _ _ hp]
      rfl
    have ht := tail_short text f ok dest frm T (A ++ [u8 2]) (p + 1) (by simp [hp]) m (by simpa [tagBytes] using hm) (by rw [h]; simp [tagBytes])
    cases k with
    | zero => rw [sKind, if_neg hle, if_pos n2, ht]
    | succ k => rw [sKind, if_neg hle, if_pos n2, ht]
  | cons z tags ih =>
    intro T A k p hp hk hall hm h
    have hsz : text.size = m := by
      have e : text.size = text.data.toList.length := by rw [Array.length_toList]; rfl
      rw [e, h, List.length_take]; omega
    cases k with
    | zero => simp at hk
    | succ k =>
      rw [List.all_cons, Bool.and_eq_true] at hall
      have hz1 := inB_true.1 hall.1
      by_cases hle : text.size ≤ p
      · rw [sKind, if_pos hle]
      have e1 : (tagBytes (z :: tags)).map u8 = [u8 1] ++ ((be 2 z).map u8 ++ (tagBytes tags).map u8) := by simp [tagBytes]
      have n1 : numAt text p 1 = 1 := by
        show numL text.data.toList (p + 0) 1 = _
        rw [h, numL_take _ _ _ _ (by omega), e1, numL_skip _ _ _ _ _ hp, List.append_assoc, numL_hit [u8 1] _ 1 rfl]
        rfl
      rw [sKind, if_neg hle, if_neg (by omega), if_neg (by omega)]
      by_cases h3 : text.size < p + 3
      · rw [if_pos h3]
      have n2 : numAt text (p + 1) 2 = z := by
        show numL text.data.toList (p + (1 + 0)) 2 = _
        rw [h, numL_take _ _ _ _ (by omega), e1, numL_skip _ _ _ _ _ hp, List.append_assoc, List.append_assoc, numL_skip _ _ 1 _ _ rfl, numL_hit _ _ _ (beL 2 _), numOf_be2 _ hz1.1 (by omega)]
      rw [if_neg h3, n2, if_neg (by omega)]
      exact ih (T ++ [z]) (A ++ ([u8 1] ++ (be 2 z).map u8)) k (p + 3) (by simp only [List.length_append, List.length_cons, List.length_nil, beL, hp]) (by simpa using hk) hall.2 (by rw [e1] at hm; simpa using hm) (by rw [h, e1]; simp)

/-- Of less than a right frame's bytes. -/
theorem run_short (text : ByteArray) (f : Fr) (ok : f.Ok) (m : Nat) (hm : m < (f.head.map u8 ++ f.body.data.toList).length) (h : text.data.toList = (f.head.map u8 ++ f.body.data.toList).take m) : sRun text = (noFr, 1) := by
  obtain ⟨o0, o1, o2, _, _, _, _, _, _, _, _, o12⟩ := id ok
  have e : f.head.map u8 ++ f.body.data.toList = ((be 2 f.to).map u8 ++ (be 2 f.frm).map u8) ++ ((tagBytes f.tags).map u8 ++ (u8 2 :: ((be 4 f.src).map u8 ++ ((be 4 f.dst).map u8 ++ ((be 1 f.proto).map u8 ++ ((be 2 f.sport).map u8 ++ ((be 2 f.dport).map u8 ++ ((be 1 f.mark).map u8 ++ ((be 2 f.sum).map u8 ++ ((be 2 f.body.size).map u8 ++ f.body.data.toList)))))))))) := by simp [Fr.head, Fr.outer, Fr.mid]
  rw [e] at hm h
  rw [sRun]
  by_cases h4 : text.size < 4
  · rw [if_pos h4]
  · rw [if_neg h4]
    exact kind_short text f ok _ _ m f.tags [] _ 2 4 (by simp only [List.length_append, beL]) o2 o12 hm h
end Go.Proofs.YtddjflaceokoaaaDoor
