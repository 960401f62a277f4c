/-
  What is read without an error is a right frame, and shown it is the text again: plain facts. By the verifier.
-/
import Derived.Test.YtddjflaceokoaaaDoorRdShow
namespace Go.Proofs.YtddjflaceokoaaaDoor
open Go.RowKit

theorem u8_of (b : UInt8) (n : Int) (h : n = (b.toNat : Int)) : u8 n = b := by
  subst h
  simp [u8]
theorem be_numOf1 (l : List UInt8) (h : l.length = 1) : (be 1 (numOf l)).map u8 = l := by
  match l, h with
  | [a], _ =>
    have ha := a.toNat_lt
    simp only [be, List.map_cons, List.map_nil, numOf, List.foldl_cons, List.foldl_nil]
    rw [u8_of a _ (by omega)]
theorem be_numOf2 (l : List UInt8) (h : l.length = 2) : (be 2 (numOf l)).map u8 = l := by
  match l, h with
  | [a, b], _ =>
    have ha := a.toNat_lt
    have hb := b.toNat_lt
    simp only [be, List.map_cons, List.map_nil, numOf, List.foldl_cons, List.foldl_nil]
    rw [u8_of a _ (by omega), u8_of b _ (by omega)]
theorem be_numOf4 (l : List UInt8) (h : l.length = 4) : (be 4 (numOf l)).map u8 = l := by
  match l, h with
  | [a, b, c, d], _ =>
    have ha := a.toNat_lt
    have hb := b.toNat_lt
    have hc := c.toNat_lt
    have hd := d.toNat_lt
    simp only [be, List.map_cons, List.map_nil, numOf, List.foldl_cons, List.foldl_nil]
    rw [u8_of a _ (by omega), u8_of b _ (by omega), u8_of c _ (by omega), u8_of d _ (by omega)]
theorem dropL_split (l : List UInt8) (p k : Nat) : l.drop p = (l.drop p).take k ++ l.drop (p + k) := by
  rw [← List.drop_drop]
  exact (List.take_append_drop k _).symm
theorem takeL_len (l : List UInt8) (p k : Nat) (h : p + k ≤ l.length) : ((l.drop p).take k).length = k := by
  rw [List.length_take, List.length_drop]
  omega
theorem numAt_lt1 (text : ByteArray) (p : Nat) (h : p + 1 ≤ text.data.toList.length) : 0 ≤ numAt text p 1 ∧ numAt text p 1 ≤ 255 := by
  have a := numOf_nonneg ((text.data.toList.drop p).take 1)
  have b := numOf_lt ((text.data.toList.drop p).take 1)
  rw [takeL_len _ _ _ h] at b
  unfold numAt
  omega
theorem numAt_lt2 (text : ByteArray) (p : Nat) (h : p + 2 ≤ text.data.toList.length) : 0 ≤ numAt text p 2 ∧ numAt text p 2 ≤ 65535 := by
  have a := numOf_nonneg ((text.data.toList.drop p).take 2)
  have b := numOf_lt ((text.data.toList.drop p).take 2)
  rw [takeL_len _ _ _ h] at b
  unfold numAt
  omega
theorem numAt_lt4 (text : ByteArray) (p : Nat) (h : p + 4 ≤ text.data.toList.length) : 0 ≤ numAt text p 4 ∧ numAt text p 4 ≤ 4294967295 := by
  have a := numOf_nonneg ((text.data.toList.drop p).take 4)
  have b := numOf_lt ((text.data.toList.drop p).take 4)
  rw [takeL_len _ _ _ h] at b
  unfold numAt
  omega
theorem piece1 (text : ByteArray) (p : Nat) (h : p + 1 ≤ text.data.toList.length) : text.data.toList.drop p = (be 1 (numAt text p 1)).map u8 ++ text.data.toList.drop (p + 1) := by
  unfold numAt
  rw [be_numOf1 _ (takeL_len _ _ _ h)]
  exact dropL_split _ _ _
theorem piece2 (text : ByteArray) (p : Nat) (h : p + 2 ≤ text.data.toList.length) : text.data.toList.drop p = (be 2 (numAt text p 2)).map u8 ++ text.data.toList.drop (p + 2) := by
  unfold numAt
  rw [be_numOf2 _ (takeL_len _ _ _ h)]
  exact dropL_split _ _ _
theorem piece4 (text : ByteArray) (p : Nat) (h : p + 4 ≤ text.data.toList.length) : text.data.toList.drop p = (be 4 (numAt text p 4)).map u8 ++ text.data.toList.drop (p + 4) := by
  unfold numAt
  rw [be_numOf4 _ (takeL_len _ _ _ h)]
  exact dropL_split _ _ _

/-- Right from the source on. -/
def Fr.Low (f : Fr) : Prop :=
  (0 ≤ f.src ∧ f.src ≤ 4294967295) ∧ (0 ≤ f.dst ∧ f.dst ≤ 4294967295) ∧ (0 ≤ f.proto ∧ f.proto ≤ 255) ∧ (0 ≤ f.sport ∧ f.sport ≤ 65535) ∧ (0 ≤ f.dport ∧ f.dport ≤ 65535) ∧
  (0 ≤ f.mark ∧ f.mark ≤ 3) ∧ (0 ≤ f.sum ∧ f.sum ≤ 65535) ∧ f.body.size ≤ 1500

theorem tail_back (text : ByteArray) (dest frm : Int) (T : List Int) (p : Nat) (x : Fr) (h : sTail text dest frm T p = (x, 0)) :
    x.to = dest ∧ x.frm = frm ∧ x.tags = T ∧ x.Low ∧ text.data.toList.drop p = x.mid.map u8 ++ x.body.data.toList := by
  have hz : text.data.toList.length = text.size := by rw [Array.length_toList]; rfl
  unfold sTail at h
  by_cases h1 : text.size < p + 14
  · rw [if_pos h1] at h; cases h
  rw [if_neg h1] at h
  by_cases h2 : 3 < numAt text (p + 13) 1
  · rw [if_pos h2] at h; cases h
  rw [if_neg h2] at h
  by_cases h3 : text.size < p + 18
  · rw [if_pos h3] at h; cases h
  rw [if_neg h3] at h
  by_cases h4 : 1500 < numAt text (p + 16) 2
  · rw [if_pos h4] at h; cases h
  rw [if_neg h4] at h
  by_cases h5 : (text.size : Int) < p + 18 + numAt text (p + 16) 2
  · rw [if_pos h5] at h; cases h
  rw [if_neg h5] at h
  by_cases h6 : p + 18 + numAt text (p + 16) 2 < (text.size : Int)
  · rw [if_pos h6] at h; cases h
  rw [if_neg h6] at h
  have hx := (Prod.mk.inj h).1
  have hb : (text.extract (p + 18) text.size).data.toList = text.data.toList.drop (p + 18) := by
    rw [Lib.extract_data, List.take_of_length_le]
    rw [List.length_drop]
    omega
  have hs : (text.extract (p + 18) text.size).size = text.size - (p + 18) := by
    have : (text.extract (p + 18) text.size).size = (text.extract (p + 18) text.size).data.toList.length := by rw [Array.length_toList]; rfl
    rw [this, hb, List.length_drop, hz]
  have hn : numAt text (p + 16) 2 = ((text.extract (p + 18) text.size).size : Int) := by rw [hs]; omega
  have b0 := numAt_lt4 text p (by omega)
  have b4 := numAt_lt4 text (p + 4) (by omega)
  have b8 := numAt_lt1 text (p + 8) (by omega)
  have b9 := numAt_lt2 text (p + 9) (by omega)
  have b11 := numAt_lt2 text (p + 11) (by omega)
  have b13 := numAt_lt1 text (p + 13) (by omega)
  have b14 := numAt_lt2 text (p + 14) (by omega)
  subst hx
  refine ⟨rfl, rfl, rfl, ⟨b0, b4, b8, b9, b11, ⟨b13.1, by show numAt text (p + 13) 1 ≤ 3; omega⟩, b14, by show (text.extract (p + 18) text.size).size ≤ 1500; omega⟩, ?_⟩
  show _ = (be 4 (numAt text p 4) ++ be 4 (numAt text (p + 4) 4) ++ be 1 (numAt text (p + 8) 1) ++ be 2 (numAt text (p + 9) 2) ++ be 2 (numAt text (p + 11) 2) ++ be 1 (numAt text (p + 13) 1) ++ be 2 (numAt text (p + 14) 2) ++ be 2 ((text.extract (p + 18) text.size).size : Int)).map u8 ++ (text.extract (p + 18) text.size).data.toList
  rw [hb, ← hn]
  simp only [List.map_append, List.append_assoc]
  rw [piece4 text p (by omega), piece4 text (p + 4) (by omega), piece1 text (p + 4 + 4) (by omega), piece2 text (p + 4 + 4 + 1) (by omega), piece2 text (p + 4 + 4 + 1 + 2) (by omega), piece1 text (p + 4 + 4 + 1 + 2 + 2) (by omega), piece2 text (p + 4 + 4 + 1 + 2 + 2 + 1) (by omega), piece2 text (p + 4 + 4 + 1 + 2 + 2 + 1 + 2) (by omega)]

theorem kind_back (text : ByteArray) (dest frm : Int) (x : Fr) : ∀ (k p : Nat) (T : List Int), sKind text dest frm k p T = (x, 0) →
    ∃ tags : List Int, tags.length ≤ k ∧ tags.all (inB 0 4095) = true ∧ x.to = dest ∧ x.frm = frm ∧ x.tags = T ++ tags ∧ x.Low ∧
      text.data.toList.drop p = (tagBytes tags).map u8 ++ (u8 2 :: (x.mid.map u8 ++ x.body.data.toList)) := by
  have hz : text.data.toList.length = text.size := by rw [Array.length_toList]; rfl
  have two : ∀ (k p : Nat) (T : List Int), ¬ text.size ≤ p → numAt text p 1 = 2 → sTail text dest frm T (p + 1) = (x, 0) →
      ∃ tags : List Int, tags.length ≤ k ∧ tags.all (inB 0 4095) = true ∧ x.to = dest ∧ x.frm = frm ∧ x.tags = T ++ tags ∧ x.Low ∧
        text.data.toList.drop p = (tagBytes tags).map u8 ++ (u8 2 :: (x.mid.map u8 ++ x.body.data.toList)) := by
    intro k p T h1 h2 h
    obtain ⟨e1, e2, e3, e4, e5⟩ := tail_back text dest frm T (p + 1) x h
    refine ⟨[], Nat.zero_le _, rfl, e1, e2, by rw [e3, List.append_nil], e4, ?_⟩
    rw [piece1 text p (by omega), h2, e5]
    rfl
  intro k
  induction k with
  | zero =>
    intro p T h
    rw [sKind] at h
    by_cases h1 : text.size ≤ p
    · rw [if_pos h1] at h; cases h
    rw [if_neg h1] at h
    by_cases h2 : numAt text p 1 = 2
    · rw [if_pos h2] at h
      exact two 0 p T h1 h2 h
    rw [if_neg h2] at h
    by_cases h3 : numAt text p 1 ≠ 1
    · rw [if_pos h3] at h; cases h
    · rw [if_neg h3] at h; cases h
  | succ k ih =>
    intro p T h
    rw [sKind] at h
    by_cases h1 : text.size ≤ p
    · rw [if_pos h1] at h; cases h
    rw [if_neg h1] at h
    by_cases h2 : numAt text p 1 = 2
    · rw [if_pos h2] at h
      exact two (k + 1) p T h1 h2 h
    rw [if_neg h2] at h
    by_cases h3 : numAt text p 1 ≠ 1
    · rw [if_pos h3] at h; cases h
    rw [if_neg h3] at h
    by_cases h4 : text.size < p + 3
    · rw [if_pos h4] at h; cases h
    rw [if_neg h4] at h
    by_cases h5 : 4095 < numAt text (p + 1) 2
    · rw [if_pos h5] at h; cases h
    rw [if_neg h5] at h
    obtain ⟨tags, t1, t2, e1, e2, e3, e4, e5⟩ := ih _ _ h
    have b := numAt_lt2 text (p + 1) (by omega)
    refine ⟨numAt text (p + 1) 2 :: tags, by rw [List.length_cons]; omega, ?_, e1, e2, by rw [e3, List.append_assoc]; rfl, e4, ?_⟩
    · rw [List.all_cons, Bool.and_eq_true]
      exact ⟨inB_true.2 ⟨b.1, by omega⟩, t2⟩
    · have h3' : numAt text p 1 = 1 := Classical.not_not.1 h3
      have e5' : text.data.toList.drop (p + 1 + 2) = (tagBytes tags).map u8 ++ (u8 2 :: (x.mid.map u8 ++ x.body.data.toList)) := e5
      rw [piece1 text p (by omega), piece2 text (p + 1) (by omega), e5', h3']
      simp [tagBytes, be]

/-- What is read without an error is right, and is shown as the text. -/
theorem run_back (text : ByteArray) (x : Fr) (h : sRun text = (x, 0)) : x.Ok ∧ text.data.toList = x.head.map u8 ++ x.body.data.toList := by
  have hz : text.data.toList.length = text.size := by rw [Array.length_toList]; rfl
  unfold sRun at h
  by_cases h1 : text.size < 4
  · rw [if_pos h1] at h; cases h
  rw [if_neg h1] at h
  obtain ⟨tags, t1, t2, e1, e2, e3, ⟨a1, a2, a3, a4, a5, a6, a7, a8⟩, e5⟩ := kind_back text _ _ x 2 4 [] h
  rw [List.nil_append] at e3
  have b0 := numAt_lt2 text 0 (by omega)
  have b2 := numAt_lt2 text 2 (by omega)
  refine ⟨⟨by rw [e1]; exact b0, by rw [e2]; exact b2, by rw [e3]; exact t1, a1, a2, a3, a4, a5, a6, a7, a8, by rw [e3]; exact t2⟩, ?_⟩
  have f0 := piece2 text 0 (by omega)
  have f2 := piece2 text 2 (by omega)
  rw [List.drop_zero] at f0
  have f2' : text.data.toList.drop (0 + 2) = (be 2 (numAt text 2 2)).map u8 ++ text.data.toList.drop 4 := f2
  rw [f0, f2', e5]
  simp only [Fr.head, Fr.outer, List.map_append, List.append_assoc, e1, e2, e3]
  rfl

/-- A right frame's show, as bytes. -/
theorem show_bytes (f : Fr) (ok : f.Ok) : f.show.data.toList = f.head.map u8 ++ f.body.data.toList := by
  rw [Fr.show, if_pos (Fr.ok_true.2 ok)]
  simp [strB, u8]
theorem show_size (f : Fr) (ok : f.Ok) : f.show.size = 23 + 3 * f.tags.length + f.body.size := by
  have hz : f.show.size = f.show.data.toList.length := by rw [Array.length_toList]; rfl
  have e2 : f.body.data.toList.length = f.body.size := by rw [Array.length_toList]; rfl
  rw [hz, show_bytes f ok, List.length_append, List.length_map, Fr.head_length, e2]
/-- The show is empty just where the frame is not right. -/
theorem show_empty (f : Fr) : f.show.size = 0 ↔ ¬ f.Ok := by
  constructor
  · intro h ok
    rw [show_size f ok] at h
    omega
  · intro h
    rw [Fr.show, if_neg (by rw [Fr.ok_true]; exact h)]
    rfl
/-- What is read without an error is shown as the text. -/
theorem back_show (text : ByteArray) (x : Fr) (h : sRun text = (x, 0)) : x.show = text := by
  have := run_back text x h
  apply ByteArray.ext
  apply Array.toList_inj.1
  rw [show_bytes x this.1, this.2]
/-- A right frame's show is read as the frame. -/
theorem show_read (f : Fr) (ok : f.Ok) : sRun f.show = (f, 0) := by
  rw [run_shown f.show f ok [] (by rw [show_bytes f ok, List.append_nil]), if_pos rfl]
end Go.Proofs.YtddjflaceokoaaaDoor
