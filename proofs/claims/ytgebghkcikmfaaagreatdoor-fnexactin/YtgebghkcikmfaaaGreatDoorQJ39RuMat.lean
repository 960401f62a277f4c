import Derived.Test.YtgebghkcikmfaaaGreatDoorQJ1FrInner
import Derived.Test.YtgebghkcikmfaaaGreatDoorRows
import Derived.WalkKit
import Derived.WalkSpells
import Derived.WalkLawsBesides
import Derived.RowKit3
import Derived.Test.YtgebghkcikmfaaaGreatDoorQJ11GtFacts
import Derived.RangeFuncFrom
import Derived.RangeFuncNested
import Derived.RangeFuncBound
import Derived.RangeFuncCalls
import Derived.RangeFuncLeaves
import Derived.Shelf.Abstract
import Derived.Shelf.RegionOpen
import Derived.OwnWalkIn
import Derived.TacticsInMore
import Derived.LoopNIn
import Derived.LoopIn
import Derived.RegionTactic
import Derived.Lib.Strings
import Derived.Laws.BitsLemmas
import Derived.Test.YtgebghkcikmfaaaGreatDoorQJ38RuDel
import Derived.Test.YtgebghkcikmfaaaGreatDoorQJ2RuMatch
import Derived.Deep.RegionWith
/-
  The walk of the program's way to put a number as bytes. By the verifier.
-/
namespace Go.Proofs.YtgebghkcikmfaaaGreatDoor
open Go.RowKit

set_option maxHeartbeats 1600000 in
theorem implWith (base : Nat) (v : Value) (xs : List Int) (size : Nat) (n : Int) (w : World) (hs : size ≤ 8) (hx : xs.length ≤ 4000) (hb : base ≤ w.heap.size) (own : Hid (Row base w v xs)) :
    Calls Tryz.prog 280 #[v, .int .i64 size, .int .i64 n] w fun e w' => ∃ v', e = .returned v' ∧ Row base w' v' (xs ++ be size n) ∧ Below base w w' := by
  go_enter Tryz.func280, Tryz.ntmps280
  go_wp2
  go_loopw [0, 7] (fun v i wr => ∃ (k : Nat) (P : List Int), k ≤ size ∧ i = .int .i64 ((k : Int) - 1) ∧ P.length + k = size ∧ Hid (P ++ be k n = be size n) ∧ Hid (Row base wr v (xs ++ P)) ∧ Hid (Below base w wr)) (fun _ i _ => (intOf i + 1).toNat)
  case atStart => exact ⟨size, [], Nat.le_refl _, rfl, by simp, rfl, by simpa only [List.append_nil] using own, Below.refl _ _⟩
  case round =>
    obtain ⟨k, P, hk, rfl, hP, hbe, hrow, hbel⟩ := hrel
    cases k with
    | zero =>
      go_wp2
      go_ret
      refine ⟨_, rfl, ?_, hbel.out⟩
      have := hbe.out
      simp only [be, List.append_nil] at this
      rw [← this]; exact hrow.out
    | succ k =>
      have hsz := hbel.out.size
      go_wp2_with (at_builtin; refine row_app1 rfl (.tmp 14) (.tmp 20) rfl base _ (xs ++ P) (n / 2 ^ (8 * k) % 256) rfl hrow.out rfl ?_ ?_ ?_)
      · rw [List.length_append]; omega
      · omega
      · intro v' w' h1 h2
        have H1 : Hid (Row base w' v' (xs ++ (P ++ [n / 2 ^ (8 * k) % 256]))) := h1
        have H2 : Hid (Below base w w') := hbel.out.trans h2
        clear h1 h2
        go_wp2
        go_roundw
        case rel => exact ⟨k, P ++ [n / 2 ^ (8 * k) % 256], by omega, by go_num, by simp; omega, be_succ_split hbe.out, H1, H2⟩
        case measure => simp [intOf]
end Go.Proofs.YtgebghkcikmfaaaGreatDoor

/-
  The walk of headOf: all that is shown of a right frame ahead of its body. By the verifier.
-/
namespace Go.Proofs.YtgebghkcikmfaaaGreatDoor
open Go.RowKit

set_option maxHeartbeats 3200000 in
set_option maxRecDepth 100000 in
theorem implHead (f : Fr) (a : Option Addr) (cap : Nat) (w : World) (ok : Hid f.Ok) (hc : Hid (IntsAt w a f.tags)) :
    Calls Tryz.prog 243 #[f.val a cap] w fun e w' => ∃ v', e = .returned v' ∧ Row w.heap.size w' v' f.head ∧ Below w.heap.size w w' := by
  have hT : f.tags.length ≤ 2 := ok.out.2.2.1
  have hB : f.body.size ≤ 1500 := ok.out.2.2.2.2.2.2.2.2.2.2.1
  have hhead : Hid (f.head = f.outer ++ [2] ++ f.mid) := rfl
  obtain ⟨to, frm, tags, src, dst, proto, sport, dport, mark, sum, body⟩ := f
  simp only [Fr.val, Fr.outer, Fr.mid] at hT hB hc hhead ⊢
  clear ok
  obtain ⟨len, hlen⟩ : ∃ n, tags.length = n := ⟨_, rfl⟩
  rw [hlen] at hT ⊢
  have Hlen : Hid (tags.length = len) := hlen
  have Htl : Hid (∀ k, (tagBytes (tags.take k)).length ≤ 6) := by
    show ∀ k, _
    intro k; rw [tagBytes_length, List.length_take]; omega
  clear hlen
  go_enter Tryz.func243, Tryz.ntmps243
  go_wp2_with fail
  have hbox := Boxed.new w #[.int .i64 to, .int .i64 frm, .slice a len cap, .int .i64 src, .int .i64 dst, .int .i64 proto, .int .i64 sport, .int .i64 dport, .int .i64 mark, .int .i64 sum, .string body] 175
  have hci := hc.out.alloc (.cells #[.int .i64 to, .int .i64 frm, .slice a len cap, .int .i64 src, .int .i64 dst, .int .i64 proto, .int .i64 sport, .int .i64 dport, .int .i64 mark, .int .i64 sum, .string body] 175)
  generalize hw1 : w.alloc (.cells #[.int .i64 to, .int .i64 frm, .slice a len cap, .int .i64 src, .int .i64 dst, .int .i64 proto, .int .i64 sport, .int .i64 dport, .int .i64 mark, .int .i64 sum, .string body] 175) = w1 at hbox hci ⊢
  have hs1 : w1.heap.size = w.heap.size + 1 := by rw [← hw1]; simp
  have H0 : Hid (Boxed w1 w.heap.size _ _ ∧ IntsAt w1 a tags ∧ w1.heap.size = w.heap.size + 1) := ⟨hbox, hci, hs1⟩
  have Hw1 : Hid (∀ w', Below (w.heap.size + 1) w1 w' → Below w.heap.size w w') := by
    show ∀ w', _
    intro w' g; rw [← hw1] at g; exact below_of_alloc g
  clear hbox hci hw1 hc
  refine (implWith (w.heap.size + 1) _ [] 2 to _ (by decide) (by simp) (by omega) (Row.nil _ _)).mono ?_
  rintro e w2 ⟨v2, rfl, r2, b2⟩
  have H2 : Hid (Row (w.heap.size + 1) w2 v2 ([] ++ be 2 to) ∧ Below (w.heap.size + 1) w1 w2) := ⟨r2, b2⟩
  have hsz2 : w.heap.size + 1 ≤ w2.heap.size := by have := b2.size; omega
  have c2 := (H0.out.1.below (by omega) b2).cell 1 rfl
  clear r2 b2
  go_wp2_with fail
  refine (implWith (w.heap.size + 1) _ _ 2 frm _ (by decide) (by simp [be_length]) hsz2 H2.out.1).mono ?_
  rintro e w3 ⟨v3, rfl, r3, b3⟩
  have H3 : Hid (Row (w.heap.size + 1) w3 v3 ([] ++ be 2 to ++ be 2 frm) ∧ Below (w.heap.size + 1) w1 w3) := ⟨r3, H2.out.2.trans b3⟩
  have hsz3 : w.heap.size + 1 ≤ w3.heap.size := by have := b3.size; omega
  have c3 := (H0.out.1.below (by omega) H3.out.2).cell 2 rfl
  clear r3 b3 c2 H2
  go_wp2
  clear c3
  go_loopw [3, 17] (fun v i wr => ∃ k : Nat, k ≤ len ∧ i = .int .i64 k ∧ Hid (Row (w.heap.size + 1) wr v ([] ++ be 2 to ++ be 2 frm ++ tagBytes (tags.take k)) ∧ Below (w.heap.size + 1) w1 wr)) (fun _ i _ => len - (intOf i).toNat)
  case atStart => exact ⟨0, Nat.zero_le _, rfl, by simpa [tagBytes] using H3⟩
  case round =>
    obtain ⟨k, hk, rfl, H4⟩ := hrel
    have hsz4 : w.heap.size + 1 ≤ wr.heap.size := by have := H4.out.2.size; have := H0.out.2.2; omega
    by_cases hlt : k < len
    · obtain ⟨b, off, ha, hb, hcell⟩ := (ints_below H0.out.2.1 (Nat.le_of_eq H0.out.2.2) H4.out.2) k (by rw [Hlen.out]; exact hlt)
      subst ha
      have ht : Hid (tagBytes (tags.take (k + 1)) = tagBytes (tags.take k) ++ [1] ++ be 2 (tags[k]?.getD 0)) := tagBytes_take tags k (by rw [Hlen.out]; exact hlt)
      generalize tags[k]?.getD 0 = z at hcell ht
      go_wp2_with (at_builtin; refine row_app1 rfl (.tmp 21) (.tmp 22) rfl (w.heap.size + 1) _ ([] ++ be 2 to ++ be 2 frm ++ tagBytes (tags.take k)) 1 rfl H4.out.1 rfl ?_ ?_ ?_)
      · have := Htl.out k; simp [be_length]; omega
      · omega
      · intro v5 w5 r5 b5
        have H5 : Hid (Row (w.heap.size + 1) w5 v5 (([] ++ be 2 to ++ be 2 frm ++ tagBytes (tags.take k)) ++ [1]) ∧ Below (w.heap.size + 1) w1 w5) := ⟨r5, H4.out.2.trans b5⟩
        have hsz5 : w.heap.size + 1 ≤ w5.heap.size := by have := b5.size; omega
        clear r5 b5
        go_wp2_with fail
        refine (implWith (w.heap.size + 1) _ _ 2 z _ (by decide) ?_ hsz5 H5.out.1).mono ?_
        · have := Htl.out k; simp [be_length]; omega
        rintro e w6 ⟨v6, rfl, r6, b6⟩
        have H6 : Hid (Row (w.heap.size + 1) w6 v6 (([] ++ be 2 to ++ be 2 frm ++ tagBytes (tags.take k)) ++ [1] ++ be 2 z) ∧ Below (w.heap.size + 1) w1 w6) := ⟨r6, H5.out.2.trans b6⟩
        clear r6 b6
        go_wp2
        go_roundw
        case rel => exact ⟨k + 1, by omega, by go_num, by rw [ht.out]; simpa [List.append_assoc] using H6.out.1, H6.out.2⟩
        case measure => simp [intOf]; omega
    · have htk : tags.take k = tags := List.take_of_length_le (by rw [Hlen.out]; omega)
      rw [htk] at H4
      clear htk
      have htl : (tagBytes tags).length ≤ 6 := by rw [tagBytes_length, Hlen.out]; omega
      have Htl' : Hid ((tagBytes tags).length ≤ 6) := htl
      clear htl Htl
      go_wp2_with (at_builtin; refine row_app1 rfl (.tmp 28) (.tmp 29) rfl (w.heap.size + 1) _ ([] ++ be 2 to ++ be 2 frm ++ tagBytes tags) 2 rfl H4.out.1 rfl ?_ ?_ ?_)
      · have := Htl'.out; simp [be_length]; omega
      · omega
      intro v5 w5 r5 b5
      have H5 : Hid (Row (w.heap.size + 1) w5 v5 (([] ++ be 2 to ++ be 2 frm ++ tagBytes tags) ++ [2]) ∧ Below (w.heap.size + 1) w1 w5) := ⟨r5, H4.out.2.trans b5⟩
      have hsz5 : w.heap.size + 1 ≤ w5.heap.size := by have := b5.size; omega
      have c5 := (H0.out.1.below (by omega) H5.out.2).cell 3 rfl
      clear r5 b5 H4
      go_wp2_with fail
      refine (implWith (w.heap.size + 1) _ _ 4 src _ (by decide) ?_ hsz5 H5.out.1).mono ?_
      · have := Htl'.out; simp [be_length]; omega
      rintro e w6 ⟨v6, rfl, r6, b6⟩
      have H6 : Hid (Row (w.heap.size + 1) w6 v6 ((([] ++ be 2 to ++ be 2 frm ++ tagBytes tags) ++ [2]) ++ be 4 src) ∧ Below (w.heap.size + 1) w1 w6) := ⟨r6, H5.out.2.trans b6⟩
      have hsz6 : w.heap.size + 1 ≤ w6.heap.size := by have := b6.size; omega
      have c6 := (H0.out.1.below (by omega) H6.out.2).cell 4 rfl
      clear r6 b6 c5 H5
      go_wp2_with fail
      refine (implWith (w.heap.size + 1) _ _ 4 dst _ (by decide) ?_ hsz6 H6.out.1).mono ?_
      · have := Htl'.out; simp [be_length]; omega
      rintro e w7 ⟨v7, rfl, r7, b7⟩
      have H7 : Hid (Row (w.heap.size + 1) w7 v7 ((([] ++ be 2 to ++ be 2 frm ++ tagBytes tags) ++ [2]) ++ be 4 src ++ be 4 dst) ∧ Below (w.heap.size + 1) w1 w7) := ⟨r7, H6.out.2.trans b7⟩
      have hsz7 : w.heap.size + 1 ≤ w7.heap.size := by have := b7.size; omega
      have c7 := (H0.out.1.below (by omega) H7.out.2).cell 5 rfl
      clear r7 b7 c6 H6
      go_wp2_with fail
      refine (implWith (w.heap.size + 1) _ _ 1 proto _ (by decide) ?_ hsz7 H7.out.1).mono ?_
      · have := Htl'.out; simp [be_length]; omega
      rintro e w8 ⟨v8, rfl, r8, b8⟩
      have H8 : Hid (Row (w.heap.size + 1) w8 v8 ((([] ++ be 2 to ++ be 2 frm ++ tagBytes tags) ++ [2]) ++ be 4 src ++ be 4 dst ++ be 1 proto) ∧ Below (w.heap.size + 1) w1 w8) := ⟨r8, H7.out.2.trans b8⟩
      have hsz8 : w.heap.size + 1 ≤ w8.heap.size := by have := b8.size; omega
      have c8 := (H0.out.1.below (by omega) H8.out.2).cell 6 rfl
      clear r8 b8 c7 H7
      go_wp2_with fail
      refine (implWith (w.heap.size + 1) _ _ 2 sport _ (by decide) ?_ hsz8 H8.out.1).mono ?_
      · have := Htl'.out; simp [be_length]; omega
      rintro e w9 ⟨v9, rfl, r9, b9⟩
      have H9 : Hid (Row (w.heap.size + 1) w9 v9 ((([] ++ be 2 to ++ be 2 frm ++ tagBytes tags) ++ [2]) ++ be 4 src ++ be 4 dst ++ be 1 proto ++ be 2 sport) ∧ Below (w.heap.size + 1) w1 w9) := ⟨r9, H8.out.2.trans b9⟩
      have hsz9 : w.heap.size + 1 ≤ w9.heap.size := by have := b9.size; omega
      have c9 := (H0.out.1.below (by omega) H9.out.2).cell 7 rfl
      clear r9 b9 c8 H8
      go_wp2_with fail
      refine (implWith (w.heap.size + 1) _ _ 2 dport _ (by decide) ?_ hsz9 H9.out.1).mono ?_
      · have := Htl'.out; simp [be_length]; omega
      rintro e w10 ⟨v10, rfl, r10, b10⟩
      have H10 : Hid (Row (w.heap.size + 1) w10 v10 ((([] ++ be 2 to ++ be 2 frm ++ tagBytes tags) ++ [2]) ++ be 4 src ++ be 4 dst ++ be 1 proto ++ be 2 sport ++ be 2 dport) ∧ Below (w.heap.size + 1) w1 w10) := ⟨r10, H9.out.2.trans b10⟩
      have hsz10 : w.heap.size + 1 ≤ w10.heap.size := by have := b10.size; omega
      have c10 := (H0.out.1.below (by omega) H10.out.2).cell 8 rfl
      clear r10 b10 c9 H9
      go_wp2_with fail
      refine (implWith (w.heap.size + 1) _ _ 1 mark _ (by decide) ?_ hsz10 H10.out.1).mono ?_
      · have := Htl'.out; simp [be_length]; omega
      rintro e w11 ⟨v11, rfl, r11, b11⟩
      have H11 : Hid (Row (w.heap.size + 1) w11 v11 ((([] ++ be 2 to ++ be 2 frm ++ tagBytes tags) ++ [2]) ++ be 4 src ++ be 4 dst ++ be 1 proto ++ be 2 sport ++ be 2 dport ++ be 1 mark) ∧ Below (w.heap.size + 1) w1 w11) := ⟨r11, H10.out.2.trans b11⟩
      have hsz11 : w.heap.size + 1 ≤ w11.heap.size := by have := b11.size; omega
      have c11 := (H0.out.1.below (by omega) H11.out.2).cell 9 rfl
      clear r11 b11 c10 H10
      go_wp2_with fail
      refine (implWith (w.heap.size + 1) _ _ 2 sum _ (by decide) ?_ hsz11 H11.out.1).mono ?_
      · have := Htl'.out; simp [be_length]; omega
      rintro e w12 ⟨v12, rfl, r12, b12⟩
      have H12 : Hid (Row (w.heap.size + 1) w12 v12 ((([] ++ be 2 to ++ be 2 frm ++ tagBytes tags) ++ [2]) ++ be 4 src ++ be 4 dst ++ be 1 proto ++ be 2 sport ++ be 2 dport ++ be 1 mark ++ be 2 sum) ∧ Below (w.heap.size + 1) w1 w12) := ⟨r12, H11.out.2.trans b12⟩
      have hsz12 : w.heap.size + 1 ≤ w12.heap.size := by have := b12.size; omega
      have c12 := (H0.out.1.below (by omega) H12.out.2).cell 10 rfl
      clear r12 b12 c11 H11
      go_wp2_with fail
      refine (implWith (w.heap.size + 1) _ _ 2 (body.size : Int) _ (by decide) ?_ hsz12 H12.out.1).mono ?_
      · have := Htl'.out; simp [be_length]; omega
      rintro e w13 ⟨v13, rfl, r13, b13⟩
      have H13 : Hid (Row (w.heap.size + 1) w13 v13 ((([] ++ be 2 to ++ be 2 frm ++ tagBytes tags) ++ [2]) ++ be 4 src ++ be 4 dst ++ be 1 proto ++ be 2 sport ++ be 2 dport ++ be 1 mark ++ be 2 sum ++ be 2 (body.size : Int)) ∧ Below (w.heap.size + 1) w1 w13) := ⟨r13, H12.out.2.trans b13⟩
      have hsz13 : w.heap.size + 1 ≤ w13.heap.size := by have := b13.size; omega
      clear r13 b13 c12 H12
      go_wp2
      go_ret
      refine ⟨v13, rfl, ?_, Hw1.out _ H13.out.2⟩
      rw [hhead.out]
      have := H13.out.1.mono (Nat.le_succ _)
      simpa only [List.append_assoc, List.nil_append] using this
end Go.Proofs.YtgebghkcikmfaaaGreatDoor

/-
  The walk of the program's FrameOk. By the verifier.
-/
namespace Go.Proofs.YtgebghkcikmfaaaGreatDoor
open Go.RowKit

set_option maxHeartbeats 1600000 in
set_option maxRecDepth 100000 in
theorem implFrameOk (f : Fr) (a : Option Addr) (cap : Nat) (w : World) (hT : f.tags.length ≤ 1048576) (hc : Hid (IntsAt w a f.tags)) :
    Calls Tryz.prog 190 #[f.val a cap] w fun e w' => e = .returned (.bool f.ok) ∧ Below w.heap.size w w' := by
  have hok : Hid (f.ok = _) := okA f
  obtain ⟨to, frm, tags, src, dst, proto, sport, dport, mark, sum, body⟩ := f
  simp only [Fr.val] at hT hok ⊢
  go_enter Tryz.func190, Tryz.ntmps190
  go_wp2_with fail
  refine (implUpTo 65535 _ 5 [to, frm, sport, dport, sum] _ (by simp) (ints_new _ _ _ _ _ (by simp) rfl)).mono ?_
  rintro e w' ⟨rfl, rfl⟩
  cases hb1 : [to, frm, sport, dport, sum].all (inB 0 65535)
  · have H1 : Hid (_ = false) := hb1
    clear hb1
    go_wp2
    go_ret
    refine ⟨by rw [hok.out, H1.out]; rfl, ?_⟩
    repeat (first | exact Below.refl _ _ | refine bel_alloc ?_ (Nat.le_refl _) _)
  have H1 : Hid (_ = true) := hb1
  clear hb1
  go_wp2_with fail
  refine (implUpTo 4294967295 _ 2 [src, dst] _ (by simp) (ints_new _ _ _ _ _ (by simp) rfl)).mono ?_
  rintro e w' ⟨rfl, rfl⟩
  cases hb1 : [src, dst].all (inB 0 4294967295)
  · have H2 : Hid (_ = false) := hb1
    clear hb1
    go_wp2
    go_ret
    refine ⟨by rw [hok.out, H1.out, H2.out]; rfl, ?_⟩
    repeat (first | exact Below.refl _ _ | refine bel_alloc ?_ (Nat.le_refl _) _)
  have H2 : Hid (_ = true) := hb1
  clear hb1
  go_wp2_with fail
  refine (implUpTo 255 _ 1 [proto] _ (by simp) (ints_new _ _ _ _ _ (by simp) rfl)).mono ?_
  rintro e w' ⟨rfl, rfl⟩
  cases hb1 : [proto].all (inB 0 255)
  · have H3 : Hid (_ = false) := hb1
    clear hb1
    go_wp2
    go_ret
    refine ⟨by rw [hok.out, H1.out, H2.out, H3.out]; rfl, ?_⟩
    repeat (first | exact Below.refl _ _ | refine bel_alloc ?_ (Nat.le_refl _) _)
  have H3 : Hid (_ = true) := hb1
  clear hb1
  go_wp2_with fail
  refine (implUpTo 3 _ 1 [mark] _ (by simp) (ints_new _ _ _ _ _ (by simp) rfl)).mono ?_
  rintro e w' ⟨rfl, rfl⟩
  cases hb1 : [mark].all (inB 0 3)
  · have H4 : Hid (_ = false) := hb1
    clear hb1
    go_wp2
    go_ret
    refine ⟨by rw [hok.out, H1.out, H2.out, H3.out, H4.out]; rfl, ?_⟩
    repeat (first | exact Below.refl _ _ | refine bel_alloc ?_ (Nat.le_refl _) _)
  have H4 : Hid (_ = true) := hb1
  clear hb1
  by_cases hl : tags.length ≤ 2
  · go_wp2_with fail
    refine (implUpTo 4095 a cap tags _ hT ((((((hc.out.alloc _).alloc _).alloc _).alloc _).alloc _))).mono ?_
    rintro e w' ⟨rfl, rfl⟩
    cases hb1 : tags.all (inB 0 4095)
    · have H5 : Hid (_ = false) := hb1
      clear hb1
      go_wp2
      go_ret
      refine ⟨by rw [hok.out, H1.out, H2.out, H3.out, H4.out, H5.out]; simp, ?_⟩
      repeat (first | exact Below.refl _ _ | refine bel_alloc ?_ (Nat.le_refl _) _)
    · have H5 : Hid (_ = true) := hb1
      clear hb1
      by_cases hB : body.size ≤ 1500
      · go_wp2
        go_ret
        refine ⟨by rw [hok.out, H1.out, H2.out, H3.out, H4.out, H5.out]; simp [hl, hB]; omega, ?_⟩
        repeat (first | exact Below.refl _ _ | refine bel_alloc ?_ (Nat.le_refl _) _)
      · go_wp2
        go_ret
        refine ⟨by rw [hok.out, H1.out, H2.out, H3.out, H4.out, H5.out]; simp [hl, hB]; omega, ?_⟩
        repeat (first | exact Below.refl _ _ | refine bel_alloc ?_ (Nat.le_refl _) _)
  · go_wp2
    go_ret
    refine ⟨by rw [hok.out, H1.out, H2.out, H3.out, H4.out]; simp [hl], ?_⟩
    repeat (first | exact Below.refl _ _ | refine bel_alloc ?_ (Nat.le_refl _) _)
end Go.Proofs.YtgebghkcikmfaaaGreatDoor

/-
  The program's Sum16: the pairs of bytes that its iterator tells, and their sum. By the verifier.
-/
namespace Go.Proofs.YtgebghkcikmfaaaGreatDoor
open Go.RowKit Go.Shelf
attribute [local go_sem] Oper.semAt_some

theorem implFolded (a b : Int) (a0 : 0 ≤ a) (a1 : a ≤ 65535) (b0 : 0 ≤ b) (b1 : b ≤ 65535) (w : World) :
    Calls Tryz.prog 242 #[.int .i64 a, .int .i64 b] w fun e w' => e = .returned (.int .i64 (fold16 a b)) ∧ w' = w := by
  unfold fold16
  by_cases h : 65535 < a + b
  · rw [if_pos h]
    go_enter Tryz.func242, Tryz.ntmps242
    go_wp2
    go_ret
    exact ⟨rfl, rfl⟩
  · rw [if_neg h]
    go_enter Tryz.func242, Tryz.ntmps242
    go_wp2
    go_ret
    exact ⟨rfl, rfl⟩

/-- A number of two bytes. -/
abbrev Pair := { x : Int // 0 ≤ x ∧ x ≤ 65535 }
def pairAt (text : ByteArray) (j : Nat) : Pair := ⟨byteAt text (2 * j) * 256 + byteAt text (2 * j + 1), by
  have a := byteAt_in text (2 * j)
  have b := byteAt_in text (2 * j + 1)
  omega⟩
/-- The pairs ahead of j. -/
def pairsTo (text : ByteArray) (j : Nat) : List Pair := (List.range j).map (pairAt text)
theorem pairsTo_succ (text : ByteArray) (j : Nat) : pairsTo text (j + 1) = pairsTo text j ++ [pairAt text j] := by simp [pairsTo, List.range_succ]
theorem pairsTo_length (text : ByteArray) (j : Nat) : (pairsTo text j).length = j := by simp [pairsTo]
/-- The pairs, folded. -/
def sumP (xs : List Pair) : Int := xs.foldl (fun s p => fold16 s p.1) 0
theorem sumP_snoc (xs : List Pair) (p : Pair) : sumP (xs ++ [p]) = fold16 (sumP xs) p.1 := by simp [sumP]
theorem sumP_to (text : ByteArray) (j : Nat) : sumP (pairsTo text j) = sumTo text j := by
  induction j with
  | zero => rfl
  | succ j ih => rw [pairsTo_succ, sumP_snoc, ih]; rfl
theorem foldl_in (xs : List Pair) : ∀ s : Int, 0 ≤ s → s ≤ 65535 → 0 ≤ xs.foldl (fun s p => fold16 s p.1) s ∧ xs.foldl (fun s p => fold16 s p.1) s ≤ 65535 := by
  induction xs with
  | nil => intro s h0 h1; exact ⟨h0, h1⟩
  | cons p xs ih =>
    intro s h0 h1
    have := fold16_in h0 h1 p.2.1 p.2.2
    exact ih _ this.1 this.2
theorem sumP_in (xs : List Pair) : 0 ≤ sumP xs ∧ sumP xs ≤ 65535 := foldl_in xs 0 (by omega) (by omega)

/-- A round keeps what the iterator has captured. -/
def KeptAt (B : Nat) (W W' : World) : Prop := ∀ v, W.cell? ⟨B, 0, none⟩ = some v → W'.cell? ⟨B, 0, none⟩ = some v

set_option maxHeartbeats 1600000 in
set_option maxRecDepth 100000 in
theorem pairs_stops (n : Nat) (hn : 1 ≤ n) (B : Nat) (text : ByteArray) (hsz : text.size ≤ 1048576) (w : World) (hB : w.cell? ⟨B, 0, none⟩ = some (.string text)) (hlt : B < w.heap.size) :
    SeqStopsK Fence.wide n Tryz.prog 279 #[.pointer (some ⟨B, 0, none⟩)] (fun p : Pair => #[.int .i64 p.1]) (KeptAt B) (fun xs => xs = pairsTo text ((text.size + 1) / 2)) (fun _ => True) ((text.size + 1) / 2) w := fun l J Jx W hW _ _ hY h0 => by
  have hC : W.cell? ⟨B, 0, none⟩ = some (.string text) := (hW.cell (p := ⟨B, 0, none⟩) hlt).trans hB
  refine callsIn_of_wp Tryz.func279 rfl trivial ?_ rfl
  simp only [Tryz.ntmps279, List.size_toArray, List.length_cons, List.length_nil, Nat.reduceAdd, Nat.reduceSub, Array.replicate_succ, Array.replicate_zero, List.push_toArray, List.append_toArray, List.nil_append, List.cons_append]
  gi_wp2
  gi_loopw [3] (fun i wr => ∃ j : Nat, j ≤ (text.size + 1) / 2 ∧ i = .int .i64 (2 * (j : Int)) ∧ wr.cell? ⟨B, 0, none⟩ = some (.string text) ∧ J (pairsTo text j) wr)
    (fun i _ => text.size + 1 - (intOf i).toNat)
  case atStart => exact ⟨0, Nat.zero_le _, by simp, hC, h0⟩
  case round =>
    obtain ⟨j, hj, rfl, hC', hJ'⟩ := hrel
    by_cases hl0 : 2 * j < text.size
    · have hin' : 2 * (j : Int) < text.size := by omega
      have e0 : byteAt text (2 * j) = ((text[2 * j]'hl0).toNat : Int) := by unfold byteAt; rw [dif_pos hl0]
      have hx := (text[2 * j]'hl0).toNat_lt
      obtain ⟨fn, tmps, assign, body, hy, hR⟩ := hY (pairsTo text j) (pairAt text j) wr hJ' (by rw [pairsTo_length]; omega)
      by_cases hl1 : 2 * j + 1 < text.size
      · have hin1 : 2 * (j : Int) + 1 < text.size := by omega
        have e1 : byteAt text (2 * j + 1) = ((text[2 * j + 1]'hl1).toNat : Int) := by unfold byteAt; rw [dif_pos hl1]
        have hy1 := (text[2 * j + 1]'hl1).toNat_lt
        dsimp only [pairAt] at hy
        rw [e0, e1] at hy
        gi_wp2
        refine hR.mono ?_
        rintro e W3 (⟨rfl, hJ3, hk3⟩ | ⟨rfl, hJx3⟩)
        · have hC3 := hk3 _ hC'
          gi_wp2
          go_roundw
          case rel => exact ⟨j + 1, by omega, by go_num, hC3, by rw [pairsTo_succ]; exact hJ3⟩
          case measure => simp [intOf]; omega
        · gi_wp2
          refine bodyPost_ret (results_none rfl _ _ _) rfl ?_
          exact ⟨⟨_, rfl⟩, .inr ⟨_, trivial, hJx3⟩⟩
      · have hin1 : ¬ 2 * (j : Int) + 1 < text.size := by omega
        have e1 : byteAt text (2 * j + 1) = 0 := by unfold byteAt; rw [dif_neg hl1]
        dsimp only [pairAt] at hy
        rw [e0, e1, Int.add_zero] at hy
        gi_wp2
        refine hR.mono ?_
        rintro e W3 (⟨rfl, hJ3, hk3⟩ | ⟨rfl, hJx3⟩)
        · have hC3 := hk3 _ hC'
          gi_wp2
          go_roundw
          case rel => exact ⟨j + 1, by omega, by go_num, hC3, by rw [pairsTo_succ]; exact hJ3⟩
          case measure => simp [intOf]; omega
        · gi_wp2
          refine bodyPost_ret (results_none rfl _ _ _) rfl ?_
          exact ⟨⟨_, rfl⟩, .inr ⟨_, trivial, hJx3⟩⟩
    · have he : j = (text.size + 1) / 2 := by omega
      gi_wp2
      go_end0
      exact ⟨⟨_, rfl⟩, .inl ⟨_, by rw [he], hJ'⟩⟩

theorem implPairs (text : ByteArray) (w : World) :
    Calls Tryz.prog 241 #[.string text] w fun e w' => e = .returned (.func (.func 279) #[] #[.pointer (some ⟨w.heap.size, 0, none⟩)]) ∧ w' = w.alloc (.cells #[.string text] 9) := by
  go_enter Tryz.func241, Tryz.ntmps241
  go_wp2
  go_ret
  exact ⟨rfl, rfl⟩

theorem ofBox {W : World} {B : Nat} {v : Value} {t : TypeId} (h : W.heap[B]? = some (.cells #[v] t)) : W.cell? ⟨B, 0, none⟩ = some v ∧ W.frozen? ⟨B, 0, none⟩ = false := by
  constructor <;> simp [World.cell?, World.frozen?, h]
theorem farCell (W : World) (B : Nat) (v : Value) (k : Nat) : (W.setCell ⟨B, k, none⟩ v).cell? ⟨B + 1, 0, none⟩ = W.cell? ⟨B + 1, 0, none⟩ :=
  World.cell?_setCell_other _ _ _ _ (fun e => by have := congrArg Addr.block e; simp at this)
/-- A block of one cell that was just laid. -/
theorem oneNew (W : World) (v : Value) (t : TypeId) : (W.alloc (.cells #[v] t)).cell? ⟨W.heap.size, 0, none⟩ = some v ∧ (W.alloc (.cells #[v] t)).frozen? ⟨W.heap.size, 0, none⟩ = false :=
  ofBox (World.alloc_heap_new W _)
theorem cellAlloc {W : World} {a : Addr} {v : Value} (o : Obj) (h : W.cell? a = some v) : (W.alloc o).cell? a = some v := cell_kept h (World.grownBy_alloc W o none) (fun r e => by cases e)
theorem frozenAlloc {W : World} {a : Addr} {v : Value} (o : Obj) (h : W.cell? a = some v) (hf : W.frozen? a = false) : (W.alloc o).frozen? a = false := (frozen_kept h (World.grownBy_alloc W o none) (fun r e => by cases e)).trans hf

set_option maxRecDepth 100000 in
set_option maxHeartbeats 2000000 in
theorem implSum16 (text : ByteArray) (hsz : text.size ≤ 1048576) (w : World) :
    Calls Tryz.prog 191 #[.string text] w fun e w' => e = .returned (.int .i64 (sum16 text)) ∧ Below w.heap.size w w' := by
  refine (callsIn_wide (n := 3)).1 ?_
  refine callsIn_of_wp_marks Tryz.func191 rfl trivial ?_ rfl
  simp only [Tryz.ntmps191, List.size_toArray, List.length_cons, List.length_nil, Nat.reduceAdd, Nat.reduceSub, Array.replicate_succ, Array.replicate_zero, List.push_toArray, List.append_toArray, List.nil_append, List.cons_append]
  gi_wp2_with (refine ⟨trivial, ?_⟩; gi_at_call 241; refine (callsIn_wide.2 (implPairs _ _)).mono ?_; rintro e w' ⟨rfl, rfl⟩)
  have hs := oneNew w (.int .i64 0) 2
  have hb := oneNew (w.alloc (.cells #[.int .i64 0] 2)) (.string text) 9
  rw [World.size_alloc] at hb
  have hB0 : Below w.heap.size w ((w.alloc (.cells #[.int .i64 0] 2)).alloc (.cells #[.string text] 9)) := ((Below.refl _ w).alloc (Nat.le_refl _) _).alloc (by simp) _
  refine wpIn_rangeFunc_ownF rfl (by omega) (gf := 279) (lb := #[.pointer (some ⟨w.heap.size + 1, 0, none⟩)]) rfl trivial (enters_of Tryz.func279 (by kernel_rfl) rfl)
    (pairs_stops _ (by omega) (w.heap.size + 1) text hsz _ hb.1 (by simp)) (fun h k v e => k v (h v e)) (fun W l o o' _ h ho _ v e => cell_kept e (grownBy_putObj' W l o') (fun r e => by cases e; exact ⟨_, h, ho⟩)) (Below.refl _ _) (fun _ => rfl)
    (fun pre W => (W.cell? ⟨w.heap.size, 0, none⟩ = some (.int .i64 (sumP pre)) ∧ W.frozen? ⟨w.heap.size, 0, none⟩ = false) ∧ Below w.heap.size w W)
    (fun _ _ _ => False)
    (OwnFrom.and (Own.from (fun s A B row hs hg hr => ⟨cell_kept hs.1 hg hr, (frozen_kept hs.1 hg hr).trans hs.2⟩) _) (ownFrom_below (Nat.le_refl _) (by simp; omega)))
    (fun _ _ _ _ _ hs _ _ => hs)
    ⟨⟨cellAlloc _ hs.1, frozenAlloc _ hs.1 hs.2⟩, hB0⟩
    (fun x => { tmps := #[.string text, undef, .int .i64 0, .pointer (some ⟨w.heap.size, 0, none⟩), .int .i64 x.1, .string text, .func (.func 279) #[] #[.pointer (some ⟨w.heap.size + 1, 0, none⟩)], .int .i64 x.1, undef, undef, undef, undef, undef], defers := [] }) ?assign ?body ?done ?stop
  case assign =>
    intro l x W K hK
    gi_wp2
    exact hK
  case body =>
    rintro l pre x W ⟨⟨hc, hf⟩, hB⟩ _
    have hp := sumP_in pre
    have hd : 1 ≤ 3 - 1 - 1 := by omega
    have hn : Hid (sumP (pre ++ [x]) = fold16 (sumP pre) x.1) := sumP_snoc pre x
    gi_wp2_with (refine ⟨trivial, ?_⟩; gi_at_call 242; refine (CallsIn.inRound l (callsIn_wide.2 (implFolded _ _ hp.1 hp.2 x.2.1 x.2.2 _))).mono ?_; rintro e w' ⟨rfl, rfl⟩)
    exact ⟨KeepsOthers.setCell _ _ _, fun v e => (farCell _ _ _ _).trans e, ⟨by rw [hn.out]; exact World.cell?_setCell_same' _ _ _ (by rw [hc]; rfl), by rw [World.frozen?_setCell]; exact hf⟩, hB.setCell (p := ⟨w.heap.size, 0, none⟩) (Nat.le_refl _) _⟩
  case done =>
    rintro D ys W hD rfl ⟨⟨hc, _⟩, hB⟩ hK
    have hn : Hid (sum16 text = 65535 - sumP (pairsTo text ((text.size + 1) / 2))) := by rw [sumP_to]; rfl
    have hp := sumP_in (pairsTo text ((text.size + 1) / 2))
    gi_wp2
    refine ⟨by simp, .inl ⟨_, _, rfl, run_takeDeferred hK, ?_⟩⟩
    exact ⟨_, results_tmp rfl _ _ _, by rw [hn.out]; rfl, hB.trans (belowK_b (w := w) (Nat.le_refl _) W D _ _ (by simp at hD; omega) hK rfl rfl)⟩
  case stop =>
    rintro D c pre W _ _ h _
    exact h.elim
end Go.Proofs.YtgebghkcikmfaaaGreatDoor

/-
  The walk of the program's ShowFrame: what a frame is shown as. By the verifier.
-/
namespace Go.Proofs.YtgebghkcikmfaaaGreatDoor
open Go.RowKit

set_option maxHeartbeats 3200000 in
set_option maxRecDepth 100000 in
theorem implShow (f : Fr) (a : Option Addr) (cap : Nat) (w : World) (hT : f.tags.length ≤ 1048576) (hc : Hid (IntsAt w a f.tags)) :
    Calls Tryz.prog 192 #[f.val a cap] w fun e w' => e = .returned (.string f.show) ∧ Below w.heap.size w w' := by
  have F := fun w1 (h : Hid (IntsAt w1 a f.tags)) => implFrameOk f a cap w1 hT h
  have G := fun w1 (ok : Hid f.Ok) (h : Hid (IntsAt w1 a f.tags)) => implHead f a cap w1 ok h
  cases hok : f.ok with
  | false =>
    have hsh := Fr.show_no hok
    rw [hok] at F
    generalize f.show = sh at hsh ⊢
    subst hsh
    clear G hok
    obtain ⟨tt, frm, tags, src, dst, proto, sport, dport, mark, sum, body⟩ := f
    simp only [Fr.val] at F hT hc ⊢
    obtain ⟨len, hlen⟩ : ∃ n, tags.length = n := ⟨_, rfl⟩
    simp only [hlen] at F hT ⊢
    clear hlen
    have F' : Hid _ := F
    clear F
    go_enter Tryz.func192, Tryz.ntmps192
    go_wp2_with fail
    have hbox := Boxed.new w #[.int .i64 tt, .int .i64 frm, .slice a len cap, .int .i64 src, .int .i64 dst, .int .i64 proto, .int .i64 sport, .int .i64 dport, .int .i64 mark, .int .i64 sum, .string body] 175
    have hci := hc.out.alloc (.cells #[.int .i64 tt, .int .i64 frm, .slice a len cap, .int .i64 src, .int .i64 dst, .int .i64 proto, .int .i64 sport, .int .i64 dport, .int .i64 mark, .int .i64 sum, .string body] 175)
    generalize hw1 : w.alloc (.cells #[.int .i64 tt, .int .i64 frm, .slice a len cap, .int .i64 src, .int .i64 dst, .int .i64 proto, .int .i64 sport, .int .i64 dport, .int .i64 mark, .int .i64 sum, .string body] 175) = w1 at hbox hci ⊢
    have hs1 : w1.heap.size = w.heap.size + 1 := by rw [← hw1]; simp
    have Hw1 : Hid (∀ w', Below (w.heap.size + 1) w1 w' → Below w.heap.size w w') := by
      show ∀ w', _
      intro w' g; rw [← hw1] at g; exact below_of_alloc g
    have H0 : Hid (Boxed w1 w.heap.size _ _ ∧ IntsAt w1 a tags ∧ w1.heap.size = w.heap.size + 1) := ⟨hbox, hci, hs1⟩
    clear hbox hci hw1 hc hs1
    refine (F'.out w1 H0.out.2.1).mono ?_
    rintro e w2 ⟨rfl, b2⟩
    have H2 : Hid (Below (w.heap.size + 1) w1 w2) := by rw [← H0.out.2.2]; exact b2
    clear b2
    go_wp2
    go_ret
    exact ⟨rfl, Hw1.out _ H2.out⟩
  | true =>
    have hsh := Fr.show_ok hok
    have hOk : Hid f.Ok := Fr.ok_true.1 hok
    have hBd : f.body.size ≤ 1500 := hOk.out.2.2.2.2.2.2.2.2.2.2.1
    have hhl : f.head.length ≤ 29 := by have := hOk.out.2.2.1; rw [Fr.head_length]; omega
    have hhp : 0 < f.head.length := by rw [Fr.head_length]; omega
    rw [hok] at F
    generalize f.show = sh at hsh ⊢
    subst hsh
    have G := fun w1 h => G w1 hOk h
    generalize f.head = hd at hhl hhp G ⊢
    clear hOk hok
    obtain ⟨tt, frm, tags, src, dst, proto, sport, dport, mark, sum, body⟩ := f
    simp only [Fr.val] at F G hBd hT hc ⊢
    obtain ⟨len, hlen⟩ : ∃ n, tags.length = n := ⟨_, rfl⟩
    simp only [hlen] at F G hBd hT ⊢
    clear hlen
    have F' : Hid _ := F
    have G' : Hid _ := G
    clear F G
    go_enter Tryz.func192, Tryz.ntmps192
    go_wp2_with fail
    have hbox := Boxed.new w #[.int .i64 tt, .int .i64 frm, .slice a len cap, .int .i64 src, .int .i64 dst, .int .i64 proto, .int .i64 sport, .int .i64 dport, .int .i64 mark, .int .i64 sum, .string body] 175
    have hci := hc.out.alloc (.cells #[.int .i64 tt, .int .i64 frm, .slice a len cap, .int .i64 src, .int .i64 dst, .int .i64 proto, .int .i64 sport, .int .i64 dport, .int .i64 mark, .int .i64 sum, .string body] 175)
    generalize hw1 : w.alloc (.cells #[.int .i64 tt, .int .i64 frm, .slice a len cap, .int .i64 src, .int .i64 dst, .int .i64 proto, .int .i64 sport, .int .i64 dport, .int .i64 mark, .int .i64 sum, .string body] 175) = w1 at hbox hci ⊢
    have hs1 : w1.heap.size = w.heap.size + 1 := by rw [← hw1]; simp
    have Hw1 : Hid (∀ w', Below (w.heap.size + 1) w1 w' → Below w.heap.size w w') := by
      show ∀ w', _
      intro w' g; rw [← hw1] at g; exact below_of_alloc g
    have H0 : Hid (Boxed w1 w.heap.size _ _ ∧ IntsAt w1 a tags ∧ w1.heap.size = w.heap.size + 1) := ⟨hbox, hci, hs1⟩
    clear hbox hci hw1 hc hs1
    refine (F'.out w1 H0.out.2.1).mono ?_
    rintro e w2 ⟨rfl, b2⟩
    have H2 : Hid (Below (w.heap.size + 1) w1 w2) := by rw [← H0.out.2.2]; exact b2
    clear b2
    have hb2 := H0.out.1.below (Nat.lt_succ_self _) H2.out
    have c0 := hb2.cell 0 rfl
    have c1 := hb2.cell 1 rfl
    have c2 := hb2.cell 2 rfl
    have c3 := hb2.cell 3 rfl
    have c4 := hb2.cell 4 rfl
    have c5 := hb2.cell 5 rfl
    have c6 := hb2.cell 6 rfl
    have c7 := hb2.cell 7 rfl
    have c8 := hb2.cell 8 rfl
    have c9 := hb2.cell 9 rfl
    have c10 := hb2.cell 10 rfl
    have Hb2 : Hid _ := hb2
    have s2 : w.heap.size < w2.heap.size := by have := H2.out.size; have := H0.out.2.2; omega
    have hss : (strB hd).size ≤ 29 := by rw [strB_size]; exact hhl
    clear hb2
    go_wp2_with fail
    go_region_with (go_at_call 243; refine (G'.out _ ?_).mono ?_; exact ints_below H0.out.2.1 (Nat.le_of_eq H0.out.2.2) H2.out.drew; rintro e w3 ⟨v3, rfl, r3, b3⟩; obtain ⟨g3, cap3, rfl⟩ := r3.form hhp; have K3 : Hid (Below (w.heap.size + 1) w1 w3) := H2.out.trans ((Below.refl _ w2).drew.trans (b3.mono s2)); have d10 := (H0.out.1.below (Nat.lt_succ_self _) K3.out).cell 10 rfl; have k1 := r3.conv; have k2 := r3.bytes; clear r3 b3)
    all_goals (go_wp2; go_ret; exact ⟨rfl, Hw1.out _ K3.out⟩)

end Go.Proofs.YtgebghkcikmfaaaGreatDoor

/-
  The walk of the program's HeadSize: how long a right frame's head is. By the verifier.
-/
namespace Go.Proofs.YtgebghkcikmfaaaGreatDoor
open Go.RowKit

theorem Row.shape {base : Nat} {w : World} {v : Value} {xs : List Int} (h : Row base w v xs) : ∃ a cap, v = .slice a xs.length cap := by
  rcases h.2 with ⟨rfl, hn⟩ | ⟨g, cap, cur, rfl, _⟩
  · rw [hn]; exact ⟨none, 0, rfl⟩
  · exact ⟨_, _, rfl⟩

set_option maxHeartbeats 1600000 in
set_option maxRecDepth 100000 in
theorem implHeadSize (f : Fr) (a : Option Addr) (cap : Nat) (w : World) (hT : f.tags.length ≤ 1048576) (hc : Hid (IntsAt w a f.tags)) :
    Calls Tryz.prog 193 #[f.val a cap] w fun e w' => e = .returned (.int .i64 f.headSize) ∧ Below w.heap.size w w' := by
  have F := fun w1 (h : Hid (IntsAt w1 a f.tags)) => implFrameOk f a cap w1 hT h
  have G := fun w1 (ok : Hid f.Ok) (h : Hid (IntsAt w1 a f.tags)) => implHead f a cap w1 ok h
  have hsz : f.headSize = if f.ok then 23 + 3 * (f.tags.length : Int) else 0 := rfl
  have hl := f.head_length
  have hok := @Fr.ok_true f
  generalize f.headSize = hs at hsz ⊢
  generalize f.head = hd at hl G
  generalize f.ok = okb at F hsz hok
  generalize f.Ok = OK at G hok
  obtain ⟨to, frm, tags, src, dst, proto, sport, dport, mark, sum, body⟩ := f
  simp only [Fr.val] at F G hT hc hsz hl ⊢
  obtain ⟨len, hlen⟩ : ∃ n, tags.length = n := ⟨_, rfl⟩
  rw [hlen] at hT hsz hl ⊢
  simp only [hlen] at F G
  clear hlen
  have F' : Hid _ := F
  have G' : Hid _ := G
  have Hs : Hid _ := hsz
  have Hl : Hid _ := hl
  have Hok : Hid _ := hok
  clear F G hsz hl hok
  go_enter Tryz.func193, Tryz.ntmps193
  go_wp2_with fail
  have hbox := Boxed.new w #[.int .i64 to, .int .i64 frm, .slice a len cap, .int .i64 src, .int .i64 dst, .int .i64 proto, .int .i64 sport, .int .i64 dport, .int .i64 mark, .int .i64 sum, .string body] 175
  have hci := hc.out.alloc (.cells #[.int .i64 to, .int .i64 frm, .slice a len cap, .int .i64 src, .int .i64 dst, .int .i64 proto, .int .i64 sport, .int .i64 dport, .int .i64 mark, .int .i64 sum, .string body] 175)
  generalize hw1 : w.alloc (.cells #[.int .i64 to, .int .i64 frm, .slice a len cap, .int .i64 src, .int .i64 dst, .int .i64 proto, .int .i64 sport, .int .i64 dport, .int .i64 mark, .int .i64 sum, .string body] 175) = w1 at hbox hci ⊢
  have hs1 : w1.heap.size = w.heap.size + 1 := by rw [← hw1]; simp
  have Hw1 : Hid (∀ w', Below (w.heap.size + 1) w1 w' → Below w.heap.size w w') := by
    show ∀ w', _
    intro w' g; rw [← hw1] at g; exact below_of_alloc g
  have H0 : Hid (Boxed w1 w.heap.size _ _ ∧ IntsAt w1 a tags ∧ w1.heap.size = w.heap.size + 1) := ⟨hbox, hci, hs1⟩
  clear hbox hci hw1 hc
  refine (F'.out w1 H0.out.2.1).mono ?_
  rintro e w2 ⟨rfl, b2⟩
  have H2 : Hid (Below (w.heap.size + 1) w1 w2) := by rw [← H0.out.2.2]; exact b2
  clear b2
  cases okb with
  | false =>
    go_wp2
    go_ret
    exact ⟨by rw [Hs.out]; rfl, Hw1.out _ H2.out⟩
  | true =>
    have hb2 := H0.out.1.below (by omega) H2.out
    have c0 := hb2.cell 0 rfl
    have c1 := hb2.cell 1 rfl
    have c2 := hb2.cell 2 rfl
    have c3 := hb2.cell 3 rfl
    have c4 := hb2.cell 4 rfl
    have c5 := hb2.cell 5 rfl
    have c6 := hb2.cell 6 rfl
    have c7 := hb2.cell 7 rfl
    have c8 := hb2.cell 8 rfl
    have c9 := hb2.cell 9 rfl
    have c10 := hb2.cell 10 rfl
    have Hb2 : Hid _ := hb2
    clear hb2
    go_wp2_with fail
    refine (G'.out w2 (Hok.out.1 trivial) (ints_below H0.out.2.1 (Nat.le_of_eq H0.out.2.2) H2.out)).mono ?_
    rintro e w3 ⟨v3, rfl, r3, b3⟩
    obtain ⟨a3, cap3, rfl⟩ := r3.shape
    have hsz2 := H2.out.size
    have hs1 := H0.out.2.2
    have H3 : Hid (Below w.heap.size w w3) := (Hw1.out _ H2.out).trans (b3.mono (by omega))
    rw [Hl.out]
    clear r3 b3
    go_wp2
    go_ret
    exact ⟨by rw [Hs.out]; simp, H3.out⟩

end Go.Proofs.YtgebghkcikmfaaaGreatDoor

/-
  The walks of SumOf, the model's and the program's. By the verifier.
-/
namespace Go.Proofs.YtgebghkcikmfaaaGreatDoor
open Go.RowKit

/-- SumOf, whatever it is asked of. -/
def Fr.sumOr (f : Fr) : Int := if f.ok then f.sumOf else -1

theorem Fr.zeroSum_ok {f : Fr} (h : f.ok = true) : f.zeroSum.ok = true := by
  rw [Fr.ok_true] at *
  obtain ⟨h1, h2, h3, h4, h5, h6, h7, h8, h9, h10, h11, h12⟩ := h
  exact ⟨h1, h2, h3, h4, h5, h6, h7, h8, h9, ⟨Int.le_refl _, by show (0 : Int) ≤ 65535; omega⟩, h11, h12⟩

theorem extract_tail (A B : ByteArray) : (A ++ B).extract A.size (A ++ B).size = B := by
  have hl : ∀ x : ByteArray, x.data.toList.length = x.size := fun x => by rw [Array.length_toList]; rfl
  apply ByteArray.ext
  apply Array.ext'
  rw [Lib.extract_data, ByteArray.data_append, Array.toList_append, ← hl A, List.drop_left, List.take_of_length_le]
  rw [hl, hl, ByteArray.size_append]
  omega
theorem Fr.show_from {f : Fr} (h : f.ok = true) : f.show.extract (5 + 3 * f.tags.length) f.show.size = f.inner := by
  have e : f.show = strB (f.outer ++ [2]) ++ f.inner := by
    rw [Fr.show_ok h]
    unfold Fr.inner Fr.head
    rw [strB_append, strB_append f.mid, strB_bytesB, ByteArray.append_assoc]
  have hs : (strB (f.outer ++ [2])).size = 5 + 3 * f.tags.length := by rw [strB_size, List.length_append, Fr.outer_length, List.length_singleton]; omega
  rw [e, ← hs]
  exact extract_tail _ _

set_option maxHeartbeats 3200000 in
set_option maxRecDepth 100000 in
theorem implSumOf (f : Fr) (a : Option Addr) (cap : Nat) (w : World) (hT : f.tags.length ≤ 1048576) (hc : Hid (IntsAt w a f.tags)) :
    Calls Tryz.prog 130 #[f.val a cap] w fun e w' => e = .returned (.int .i64 f.sumOr) ∧ Below w.heap.size w w' := by
  have F := fun w1 (h : Hid (IntsAt w1 a f.tags)) => implFrameOk f a cap w1 hT h
  have G := fun w1 (h : Hid (IntsAt w1 a f.tags)) => implShow f.zeroSum a cap w1 hT h
  have L := fun w1 (h : Hid (IntsAt w1 a f.tags)) => implHeadSize f.zeroSum a cap w1 hT h
  have hS : Hid (f.sumOr = if f.ok then f.sumOf else -1) := rfl
  cases hok : f.ok with
  | false =>
    rw [hok] at hS F
    generalize f.sumOr = sr at hS ⊢
    clear G L hok
    obtain ⟨tt, frm, tags, src, dst, proto, sport, dport, mark, sum, body⟩ := f
    simp only [Fr.val] at F hT hc ⊢
    obtain ⟨len, hlen⟩ : ∃ n, tags.length = n := ⟨_, rfl⟩
    simp only [hlen] at F hT ⊢
    clear hlen
    have F' : Hid _ := F
    clear F
    go_enter Tryz.func130, Tryz.ntmps130
    go_upto_region 1 with fail
    have hbox := Boxed.new w #[.int .i64 tt, .int .i64 frm, .slice a len cap, .int .i64 src, .int .i64 dst, .int .i64 proto, .int .i64 sport, .int .i64 dport, .int .i64 mark, .int .i64 sum, .string body] 175
    have hci := hc.out.alloc (.cells #[.int .i64 tt, .int .i64 frm, .slice a len cap, .int .i64 src, .int .i64 dst, .int .i64 proto, .int .i64 sport, .int .i64 dport, .int .i64 mark, .int .i64 sum, .string body] 175)
    generalize hw1 : w.alloc (.cells #[.int .i64 tt, .int .i64 frm, .slice a len cap, .int .i64 src, .int .i64 dst, .int .i64 proto, .int .i64 sport, .int .i64 dport, .int .i64 mark, .int .i64 sum, .string body] 175) = w1 at hbox hci ⊢
    have Hw1 : Hid (∀ w', Below w1.heap.size w1 w' → Below w.heap.size w w') := by
      show ∀ w', _
      intro w' g; rw [← hw1] at g; exact below_of_alloc (by simpa using g)
    have H0 : Hid (Boxed w1 w.heap.size _ _) := hbox
    have Hc : Hid (IntsAt w1 a tags) := hci
    clear hbox hci hw1 hc
    go_wp2_with (first | (refine wpList_load_row rfl 175 (.tmp 1) rfl w.heap.size rfl _ _ _ _ H0.out Tryz.underlying175 rfl (by kernel_rfl) ?_) | (go_at_call 190; refine (F'.out _ Hc).mono ?_; rintro e w2 ⟨rfl, b2⟩; have K2 : Hid (Below w1.heap.size w1 w2) := b2; clear b2))
    go_ret
    exact ⟨by rw [hS.out]; rfl, Hw1.out _ K2.out⟩
  | true =>
    have hok0 := Fr.zeroSum_ok hok
    have hOk : Hid f.zeroSum.Ok := Fr.ok_true.1 hok0
    have hsh := Fr.show_ok hok0
    have hhs : f.zeroSum.headSize = 23 + 3 * (f.tags.length : Int) := by unfold Fr.headSize; rw [if_pos hok0]; rfl
    have hsz : f.zeroSum.inner.size ≤ 1048576 := by
      have h11 : f.body.size ≤ 1500 := hOk.out.2.2.2.2.2.2.2.2.2.2.1
      unfold Fr.inner; rw [strB_size, List.length_append, Fr.mid_length, bytesB_length]; show 18 + f.body.size ≤ _; omega
    have hlt : f.tags.length ≤ 2 := hOk.out.2.2.1
    clear hS
    have hS : Hid (f.sumOr = sum16 f.zeroSum.inner) := by show _ = _; unfold Fr.sumOr; rw [if_pos hok]; rfl
    generalize f.sumOr = sr at hS ⊢
    have hEx := Fr.show_from hok0
    rw [show f.zeroSum.tags = f.tags from rfl] at hEx
    generalize f.zeroSum.inner = I at hsz hS hEx
    rw [hok] at F
    rw [hhs] at L
    have hss : f.zeroSum.show.size = 23 + 3 * f.tags.length + f.body.size := by rw [hsh, ByteArray.size_append, strB_size, Fr.head_length]; rfl
    generalize f.zeroSum.show = sh at G hss hEx
    clear hok hok0 hOk hsh hhs
    obtain ⟨tt, frm, tags, src, dst, proto, sport, dport, mark, sum, body⟩ := f
    simp only [Fr.val, Fr.zeroSum] at F G L hT hlt hss hEx hc ⊢
    obtain ⟨len, hlen⟩ : ∃ n, tags.length = n := ⟨_, rfl⟩
    simp only [hlen] at F G L hT hlt hss hEx ⊢
    clear hlen
    obtain ⟨k, hk⟩ : ∃ z : Nat, 5 + 3 * len = z := ⟨_, rfl⟩
    rw [show 23 + 3 * (len : Int) = (k : Int) + 18 by omega] at L
    have z0 : (k : Int) ≤ (sh.size : Int) := by omega
    have z2 : k ≤ 11 := by omega
    have z1 : k ≤ sh.size := by omega
    rw [hk] at hEx
    have Hx : Hid (sh.extract k sh.size = I) := hEx
    clear hk hss hEx
    have wk : IntKind.i64.wrap (k : Int) = k := by rw [IntKind.wrap_i64]; omega
    have F' : Hid _ := F
    have G' : Hid _ := G
    have L' : Hid _ := L
    clear F G L
    go_enter Tryz.func130, Tryz.ntmps130
    go_upto_region 1 with fail
    have hbox := Boxed.new w #[.int .i64 tt, .int .i64 frm, .slice a len cap, .int .i64 src, .int .i64 dst, .int .i64 proto, .int .i64 sport, .int .i64 dport, .int .i64 mark, .int .i64 sum, .string body] 175
    have hci := hc.out.alloc (.cells #[.int .i64 tt, .int .i64 frm, .slice a len cap, .int .i64 src, .int .i64 dst, .int .i64 proto, .int .i64 sport, .int .i64 dport, .int .i64 mark, .int .i64 sum, .string body] 175)
    generalize hw1 : w.alloc (.cells #[.int .i64 tt, .int .i64 frm, .slice a len cap, .int .i64 src, .int .i64 dst, .int .i64 proto, .int .i64 sport, .int .i64 dport, .int .i64 mark, .int .i64 sum, .string body] 175) = w1 at hbox hci ⊢
    have Hw1 : Hid (∀ w', Below w1.heap.size w1 w' → Below w.heap.size w w') := by
      show ∀ w', _
      intro w' g; rw [← hw1] at g; exact below_of_alloc (by simpa using g)
    have hlo : Hid (w1.heap.size = w.heap.size + 1) := by show _ = _; rw [← hw1]; simp
    have H0 : Hid (Boxed w1 w.heap.size _ _) := hbox
    have Hc : Hid (IntsAt w1 a tags) := hci
    clear hbox hci hw1
    go_wp2_with (refine wpList_load_row rfl 175 (.tmp 1) rfl w.heap.size rfl _ _ _ _ H0.out Tryz.underlying175 rfl (by kernel_rfl) ?_)
    refine (F'.out _ Hc).mono ?_
    rintro e w2 ⟨rfl, b2⟩
    have K2 : Hid (Below w.heap.size w w2) := Hw1.out _ b2
    have H1 : Hid (Boxed w2 w.heap.size _ _) := H0.out.below H0.out.under b2
    clear b2 Hc H0 Hw1
    have c9 := H1.out.cell 9 rfl
    have i9 := H1.out.ice 9
    go_upto_region 4 with fail
    have hb3 := H1.out.put 9 (.int .i64 0)
    have K3' : Below w.heap.size w (w2.setCell ⟨w.heap.size, 9, none⟩ (.int .i64 0)) := K2.out.setCell (p := ⟨w.heap.size, 9, none⟩) (Nat.le_refl _) _
    clear c9 i9
    generalize w2.setCell ⟨w.heap.size, 9, none⟩ (.int .i64 0) = w3 at hb3 K3' ⊢
    have K3 : Hid (Below w.heap.size w w3) := K3'
    have H3 : Hid (Boxed w3 w.heap.size _ _) := hb3
    clear H1 K2 K3' hb3
    have c0 : w3.cell? ⟨w.heap.size, 0, none⟩ = some (.int .i64 tt) := H3.out.cell 0 rfl
    have c1 : w3.cell? ⟨w.heap.size, 1, none⟩ = some (.int .i64 frm) := H3.out.cell 1 rfl
    have c2 : w3.cell? ⟨w.heap.size, 2, none⟩ = some (.slice a len cap) := H3.out.cell 2 rfl
    have c3 : w3.cell? ⟨w.heap.size, 3, none⟩ = some (.int .i64 src) := H3.out.cell 3 rfl
    have c4 : w3.cell? ⟨w.heap.size, 4, none⟩ = some (.int .i64 dst) := H3.out.cell 4 rfl
    have c5 : w3.cell? ⟨w.heap.size, 5, none⟩ = some (.int .i64 proto) := H3.out.cell 5 rfl
    have c6 : w3.cell? ⟨w.heap.size, 6, none⟩ = some (.int .i64 sport) := H3.out.cell 6 rfl
    have c7 : w3.cell? ⟨w.heap.size, 7, none⟩ = some (.int .i64 dport) := H3.out.cell 7 rfl
    have c8 : w3.cell? ⟨w.heap.size, 8, none⟩ = some (.int .i64 mark) := H3.out.cell 8 rfl
    have c9 : w3.cell? ⟨w.heap.size, 9, none⟩ = some (.int .i64 0) := H3.out.cell 9 rfl
    have c10 : w3.cell? ⟨w.heap.size, 10, none⟩ = some (.string body) := H3.out.cell 10 rfl
    go_region_with (first | (go_at_call 192; refine (G'.out _ ?_).mono ?_; exact hc.out.below K3.out.drew; rintro e w4 ⟨rfl, b4⟩; have K4 : Hid (Below w.heap.size w w4) := K3.out.drew.trans (b4.mono K3.out.size); have H4 : Hid (Boxed w4 w.heap.size _ _) := Boxed.below (w := w3.drew) H3.out H3.out.under b4; clear b4; have d0 : w4.cell? ⟨w.heap.size, 0, none⟩ = some (.int .i64 tt) := H4.out.cell 0 rfl; have d1 : w4.cell? ⟨w.heap.size, 1, none⟩ = some (.int .i64 frm) := H4.out.cell 1 rfl; have d2 : w4.cell? ⟨w.heap.size, 2, none⟩ = some (.slice a len cap) := H4.out.cell 2 rfl; have d3 : w4.cell? ⟨w.heap.size, 3, none⟩ = some (.int .i64 src) := H4.out.cell 3 rfl; have d4 : w4.cell? ⟨w.heap.size, 4, none⟩ = some (.int .i64 dst) := H4.out.cell 4 rfl; have d5 : w4.cell? ⟨w.heap.size, 5, none⟩ = some (.int .i64 proto) := H4.out.cell 5 rfl; have d6 : w4.cell? ⟨w.heap.size, 6, none⟩ = some (.int .i64 sport) := H4.out.cell 6 rfl; have d7 : w4.cell? ⟨w.heap.size, 7, none⟩ = some (.int .i64 dport) := H4.out.cell 7 rfl; have d8 : w4.cell? ⟨w.heap.size, 8, none⟩ = some (.int .i64 mark) := H4.out.cell 8 rfl; have d9 : w4.cell? ⟨w.heap.size, 9, none⟩ = some (.int .i64 0) := H4.out.cell 9 rfl; have d10 : w4.cell? ⟨w.heap.size, 10, none⟩ = some (.string body) := H4.out.cell 10 rfl) | (go_at_call 193; refine (L'.out _ ?_).mono ?_; exact hc.out.below K4.out; rintro e w5 ⟨rfl, b5⟩; have K5 : Hid (Below w.heap.size w w5) := K4.out.trans (b5.mono K4.out.size); clear b5) | (go_at_call 191; rw [Hx.out]; refine (implSum16 I hsz _).mono ?_; rintro e w6 ⟨rfl, b6⟩; have K6 : Hid (Below w.heap.size w w6) := K5.out.trans (b6.mono K5.out.size); clear b6))
    all_goals (go_wp2; go_ret; exact ⟨by rw [hS.out]; rfl, K6.out⟩)
end Go.Proofs.YtgebghkcikmfaaaGreatDoor

/-
  The walk of the program's narrowest rule of a frame. By the verifier.
-/
namespace Go.Proofs.YtgebghkcikmfaaaGreatDoor
open Go.RowKit

set_option maxHeartbeats 3200000 in
set_option maxRecDepth 100000 in
theorem implOnly (f : Fr) (a : Option Addr) (c : Nat) (w : World) :
    Calls Tryz.prog 197 #[f.val a c] w fun e w' => e = .returned (onlyR f).val ∧ Below w.heap.size w w' := by
  obtain ⟨f0, g1, ft, fs, fd, fp, sp, dp, mk, sm, fb⟩ := f
  simp only [Ru.val, Fr.val, onlyR]
  generalize ft.length = nf
  have HB : Hid (∀ x y : Obj, Below w.heap.size w ((w.alloc x).alloc y)) := fun x y => ((Below.refl _ w).alloc (Nat.le_refl _) _).alloc (by simp) _
  go_enter Tryz.func197, Tryz.ntmps197
  go_wp2
  refine bodyPost_ret (v := .agg #[.int .i64 0, .int .i64 0, .int .i64 fs, .int .i64 32, .int .i64 fd, .int .i64 32, .int .i64 fp, .int .i64 dp, .int .i64 dp, .int .i64 0]) (by simp [results, Tryz.results197, go_sem]) rfl ⟨rfl, ?_⟩
  repeat (first | exact HB.out _ _ | refine Below.setCell ?_ (by simp) _)
end Go.Proofs.YtgebghkcikmfaaaGreatDoor

/-
  The walks of the program's Matches and Wider. By the verifier, by program.
-/
namespace Go.Proofs.YtgebghkcikmfaaaGreatDoor
open Go.RowKit

theorem ints_bel {w w' : World} {a : Option Addr} {zs : List Int} (h : IntsAt w a zs) (g : Below w.heap.size w w') : IntsAt w' a zs := h.below g
end Go.Proofs.YtgebghkcikmfaaaGreatDoor
