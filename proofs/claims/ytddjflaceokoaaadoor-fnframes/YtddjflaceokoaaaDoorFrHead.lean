/-
  The walk of headOf: all that is shown of a right frame ahead of its body. By the verifier.
-/
import Derived.Test.YtddjflaceokoaaaDoorFrBytes
import Derived.Test.YtddjflaceokoaaaDoorFrOk
import Derived.Test.YtddjflaceokoaaaDoorBox
namespace Go.Proofs.YtddjflaceokoaaaDoor
open Go.RowKit

theorem below_of_alloc {w w' : World} {o : Obj} (g : Below (w.heap.size + 1) (w.alloc o) w') : Below w.heap.size w w' :=
  (bel_alloc (Below.refl _ w) (Nat.le_refl _) o).trans (g.mono (Nat.le_succ _))
theorem Row.mono {base base' : Nat} {w : World} {v : Value} {xs : List Int} (h : Row base w v xs) (hb : base' ≤ base) : Row base' w v xs := ⟨h.1, h.2.imp id fun ⟨g, cap, cur, h1, h2, h3⟩ => ⟨g, cap, cur, h1, Nat.le_trans hb h2, h3⟩⟩
theorem tagBytes_take (tags : List Int) (k : Nat) (hk : k < tags.length) : tagBytes (tags.take (k + 1)) = tagBytes (tags.take k) ++ [1] ++ be 2 (tags[k]?.getD 0) := by
  rw [List.take_succ_eq_append_getElem hk, tagBytes_append]; simp [tagBytes, List.getElem?_eq_getElem hk]
theorem ints_below {w w' : World} {a : Option Addr} {zs : List Int} {B : Nat} (h : IntsAt w a zs) (hB : w.heap.size ≤ B) (g : Below B w w') : IntsAt w' a zs := h.below (g.mono hB)

set_option maxHeartbeats 3200000 in
set_option maxRecDepth 100000 in
theorem implHead (f : Fr) (a : Option Addr) (cap : Nat) (w : World) (ok : Hid f.Ok) (hc : Hid (IntsAt w a f.tags)) :
    Calls Tryd.prog 22 #[f.val a cap] w fun e w' => ∃ v', e = .returned v' ∧ Row w.heap.size w' v' f.head ∧ Below w.heap.size w w' := by
  have hT : f.tags.length ≤ 2 := ok.out.2.2.1
  have hB : f.body.size ≤ 1500 := ok.out.2.2.2.2.2.2.2.2.2.2.1
  have hhead : Hid (f.head = f.outer ++ [2] ++ f.mid) := rfl
  obtain ⟨to, frm, tags, src, dst, proto, sport, dport, mark, sum, body⟩ := f
  simp only [Fr.val, Fr.outer, Fr.mid] at hT hB hc hhead ⊢
  clear ok
  obtain ⟨len, hlen⟩ : ∃ n, tags.length = n := ⟨_, rfl⟩
  rw [hlen] at hT ⊢
  have Hlen : Hid (tags.length = len) := hlen
  have Htl : Hid (∀ k, (tagBytes (tags.take k)).length ≤ 6) := by
    show ∀ k, _
    intro k; rw [tagBytes_length, List.length_take]; omega
  clear hlen
  go_enter Tryd.func22, Tryd.ntmps22
  go_wp2_with fail
  have hbox := Boxed.new w #[.int .i64 to, .int .i64 frm, .slice a len cap, .int .i64 src, .int .i64 dst, .int .i64 proto, .int .i64 sport, .int .i64 dport, .int .i64 mark, .int .i64 sum, .string body] 26
  have hci := hc.out.alloc (.cells #[.int .i64 to, .int .i64 frm, .slice a len cap, .int .i64 src, .int .i64 dst, .int .i64 proto, .int .i64 sport, .int .i64 dport, .int .i64 mark, .int .i64 sum, .string body] 26)
  generalize hw1 : w.alloc (.cells #[.int .i64 to, .int .i64 frm, .slice a len cap, .int .i64 src, .int .i64 dst, .int .i64 proto, .int .i64 sport, .int .i64 dport, .int .i64 mark, .int .i64 sum, .string body] 26) = w1 at hbox hci ⊢
  have hs1 : w1.heap.size = w.heap.size + 1 := by rw [← hw1]; simp
  have H0 : Hid (Boxed w1 w.heap.size _ _ ∧ IntsAt w1 a tags ∧ w1.heap.size = w.heap.size + 1) := ⟨hbox, hci, hs1⟩
  have Hw1 : Hid (∀ w', Below (w.heap.size + 1) w1 w' → Below w.heap.size w w') := by
    show ∀ w', _
    intro w' g; rw [← hw1] at g; exact below_of_alloc g
  clear hbox hci hw1 hc
  refine (implWith (w.heap.size + 1) _ [] 2 to _ (by decide) (by simp) (by omega) (Row.nil _ _)).mono ?_
  rintro e w2 ⟨v2, rfl, r2, b2⟩
  have H2 : Hid (Row (w.heap.size + 1) w2 v2 ([] ++ be 2 to) ∧ Below (w.heap.size + 1) w1 w2) := ⟨r2, b2⟩
  have hsz2 : w.heap.size + 1 ≤ w2.heap.size := by have := b2.size; omega
  have c2 := (H0.out.1.below (by omega) b2).cell 1 rfl
  clear r2 b2
  go_wp2_with fail
  refine (implWith (w.heap.size + 1) _ _ 2 frm _ (by decide) (by simp [be_length]) hsz2 H2.out.1).mono ?_
  rintro e w3 ⟨v3, rfl, r3, b3⟩
  have H3 : Hid (Row (w.heap.size + 1) w3 v3 ([] ++ be 2 to ++ be 2 frm) ∧ Below (w.heap.size + 1) w1 w3) := ⟨r3, H2.out.2.trans b3⟩
  have hsz3 : w.heap.size + 1 ≤ w3.heap.size := by have := b3.size; omega
  have c3 := (H0.out.1.below (by omega) H3.out.2).cell 2 rfl
  clear r3 b3 c2 H2
  go_wp2
  clear c3
  go_loopw [3, 17] (fun v i wr => ∃ k : Nat, k ≤ len ∧ i = .int .i64 k ∧ Hid (Row (w.heap.size + 1) wr v ([] ++ be 2 to ++ be 2 frm ++ tagBytes (tags.take k)) ∧ Below (w.heap.size + 1) w1 wr)) (fun _ i _ => len - (intOf i).toNat)
  case atStart => exact ⟨0, Nat.zero_le _, rfl, by simpa [tagBytes] using H3⟩
  case round =>
    obtain ⟨k, hk, rfl, H4⟩ := hrel
    have hsz4 : w.heap.size + 1 ≤ wr.heap.size := by have := H4.out.2.size; have := H0.out.2.2; omega
    by_cases hlt : k < len
    · obtain ⟨b, off, ha, hb, hcell⟩ := (ints_below H0.out.2.1 (Nat.le_of_eq H0.out.2.2) H4.out.2) k (by rw [Hlen.out]; exact hlt)
      subst ha
      have ht : Hid (tagBytes (tags.take (k + 1)) = tagBytes (tags.take k) ++ [1] ++ be 2 (tags[k]?.getD 0)) := tagBytes_take tags k (by rw [Hlen.out]; exact hlt)
      generalize tags[k]?.getD 0 = z at hcell ht
      go_wp2_with (at_builtin; refine row_app1 rfl (.tmp 21) (.tmp 22) rfl (w.heap.size + 1) _ ([] ++ be 2 to ++ be 2 frm ++ tagBytes (tags.take k)) 1 rfl H4.out.1 rfl ?_ ?_ ?_)
      · have := Htl.out k; simp [be_length]; omega
      · omega
      · intro v5 w5 r5 b5
        have H5 : Hid (Row (w.heap.size + 1) w5 v5 (([] ++ be 2 to ++ be 2 frm ++ tagBytes (tags.take k)) ++ [1]) ∧ Below (w.heap.size + 1) w1 w5) := ⟨r5, H4.out.2.trans b5⟩
        have hsz5 : w.heap.size + 1 ≤ w5.heap.size := by have := b5.size; omega
        clear r5 b5
        go_wp2_with fail
        refine (implWith (w.heap.size + 1) _ _ 2 z _ (by decide) ?_ hsz5 H5.out.1).mono ?_
        · have := Htl.out k; simp [be_length]; omega
        rintro e w6 ⟨v6, rfl, r6, b6⟩
        have H6 : Hid (Row (w.heap.size + 1) w6 v6 (([] ++ be 2 to ++ be 2 frm ++ tagBytes (tags.take k)) ++ [1] ++ be 2 z) ∧ Below (w.heap.size + 1) w1 w6) := ⟨r6, H5.out.2.trans b6⟩
        clear r6 b6
        go_wp2
        go_roundw
        case rel => exact ⟨k + 1, by omega, by go_num, by rw [ht.out]; simpa [List.append_assoc] using H6.out.1, H6.out.2⟩
        case measure => simp [intOf]; omega
    · have htk : tags.take k = tags := List.take_of_length_le (by rw [Hlen.out]; omega)
      rw [htk] at H4
      clear htk
      have htl : (tagBytes tags).length ≤ 6 := by rw [tagBytes_length, Hlen.out]; omega
      have Htl' : Hid ((tagBytes tags).length ≤ 6) := htl
      clear htl Htl
      go_wp2_with (at_builtin; refine row_app1 rfl (.tmp 28) (.tmp 29) rfl (w.heap.size + 1) _ ([] ++ be 2 to ++ be 2 frm ++ tagBytes tags) 2 rfl H4.out.1 rfl ?_ ?_ ?_)
      · have := Htl'.out; simp [be_length]; omega
      · omega
      intro v5 w5 r5 b5
      have H5 : Hid (Row (w.heap.size + 1) w5 v5 (([] ++ be 2 to ++ be 2 frm ++ tagBytes tags) ++ [2]) ∧ Below (w.heap.size + 1) w1 w5) := ⟨r5, H4.out.2.trans b5⟩
      have hsz5 : w.heap.size + 1 ≤ w5.heap.size := by have := b5.size; omega
      have c5 := (H0.out.1.below (by omega) H5.out.2).cell 3 rfl
      clear r5 b5 H4
      go_wp2_with fail
      refine (implWith (w.heap.size + 1) _ _ 4 src _ (by decide) ?_ hsz5 H5.out.1).mono ?_
      · have := Htl'.out; simp [be_length]; omega
      rintro e w6 ⟨v6, rfl, r6, b6⟩
      have H6 : Hid (Row (w.heap.size + 1) w6 v6 ((([] ++ be 2 to ++ be 2 frm ++ tagBytes tags) ++ [2]) ++ be 4 src) ∧ Below (w.heap.size + 1) w1 w6) := ⟨r6, H5.out.2.trans b6⟩
      have hsz6 : w.heap.size + 1 ≤ w6.heap.size := by have := b6.size; omega
      have c6 := (H0.out.1.below (by omega) H6.out.2).cell 4 rfl
      clear r6 b6 c5 H5
      go_wp2_with fail
      refine (implWith (w.heap.size + 1) _ _ 4 dst _ (by decide) ?_ hsz6 H6.out.1).mono ?_
      · have := Htl'.out; simp [be_length]; omega
      rintro e w7 ⟨v7, rfl, r7, b7⟩
      have H7 : Hid (Row (w.heap.size + 1) w7 v7 ((([] ++ be 2 to ++ be 2 frm ++ tagBytes tags) ++ [2]) ++ be 4 src ++ be 4 dst) ∧ Below (w.heap.size + 1) w1 w7) := ⟨r7, H6.out.2.trans b7⟩
      have hsz7 : w.heap.size + 1 ≤ w7.heap.size := by have := b7.size; omega
      have c7 := (H0.out.1.below (by omega) H7.out.2).cell 5 rfl
      clear r7 b7 c6 H6
      go_wp2_with fail
      refine (implWith (w.heap.size + 1) _ _ 1 proto _ (by decide) ?_ hsz7 H7.out.1).mono ?_
      · have := Htl'.out; simp [be_length]; omega
      rintro e w8 ⟨v8, rfl, r8, b8⟩
      have H8 : Hid (Row (w.heap.size + 1) w8 v8 ((([] ++ be 2 to ++ be 2 frm ++ tagBytes tags) ++ [2]) ++ be 4 src ++ be 4 dst ++ be 1 proto) ∧ Below (w.heap.size + 1) w1 w8) := ⟨r8, H7.out.2.trans b8⟩
      have hsz8 : w.heap.size + 1 ≤ w8.heap.size := by have := b8.size; omega
      have c8 := (H0.out.1.below (by omega) H8.out.2).cell 6 rfl
      clear r8 b8 c7 H7
      go_wp2_with fail
      refine (implWith (w.heap.size + 1) _ _ 2 sport _ (by decide) ?_ hsz8 H8.out.1).mono ?_
      · have := Htl'.out; simp [be_length]; omega
      rintro e w9 ⟨v9, rfl, r9, b9⟩
      have H9 : Hid (Row (w.heap.size + 1) w9 v9 ((([] ++ be 2 to ++ be 2 frm ++ tagBytes tags) ++ [2]) ++ be 4 src ++ be 4 dst ++ be 1 proto ++ be 2 sport) ∧ Below (w.heap.size + 1) w1 w9) := ⟨r9, H8.out.2.trans b9⟩
      have hsz9 : w.heap.size + 1 ≤ w9.heap.size := by have := b9.size; omega
      have c9 := (H0.out.1.below (by omega) H9.out.2).cell 7 rfl
      clear r9 b9 c8 H8
      go_wp2_with fail
      refine (implWith (w.heap.size + 1) _ _ 2 dport _ (by decide) ?_ hsz9 H9.out.1).mono ?_
      · have := Htl'.out; simp [be_length]; omega
      rintro e w10 ⟨v10, rfl, r10, b10⟩
      have H10 : Hid (Row (w.heap.size + 1) w10 v10 ((([] ++ be 2 to ++ be 2 frm ++ tagBytes tags) ++ [2]) ++ be 4 src ++ be 4 dst ++ be 1 proto ++ be 2 sport ++ be 2 dport) ∧ Below (w.heap.size + 1) w1 w10) := ⟨r10, H9.out.2.trans b10⟩
      have hsz10 : w.heap.size + 1 ≤ w10.heap.size := by have := b10.size; omega
      have c10 := (H0.out.1.below (by omega) H10.out.2).cell 8 rfl
      clear r10 b10 c9 H9
      go_wp2_with fail
      refine (implWith (w.heap.size + 1) _ _ 1 mark _ (by decide) ?_ hsz10 H10.out.1).mono ?_
      · have := Htl'.out; simp [be_length]; omega
      rintro e w11 ⟨v11, rfl, r11, b11⟩
      have H11 : Hid (Row (w.heap.size + 1) w11 v11 ((([] ++ be 2 to ++ be 2 frm ++ tagBytes tags) ++ [2]) ++ be 4 src ++ be 4 dst ++ be 1 proto ++ be 2 sport ++ be 2 dport ++ be 1 mark) ∧ Below (w.heap.size + 1) w1 w11) := ⟨r11, H10.out.2.trans b11⟩
      have hsz11 : w.heap.size + 1 ≤ w11.heap.size := by have := b11.size; omega
      have c11 := (H0.out.1.below (by omega) H11.out.2).cell 9 rfl
      clear r11 b11 c10 H10
      go_wp2_with fail
      refine (implWith (w.heap.size + 1) _ _ 2 sum _ (by decide) ?_ hsz11 H11.out.1).mono ?_
      · have := Htl'.out; simp [be_length]; omega
      rintro e w12 ⟨v12, rfl, r12, b12⟩
      have H12 : Hid (Row (w.heap.size + 1) w12 v12 ((([] ++ be 2 to ++ be 2 frm ++ tagBytes tags) ++ [2]) ++ be 4 src ++ be 4 dst ++ be 1 proto ++ be 2 sport ++ be 2 dport ++ be 1 mark ++ be 2 sum) ∧ Below (w.heap.size + 1) w1 w12) := ⟨r12, H11.out.2.trans b12⟩
      have hsz12 : w.heap.size + 1 ≤ w12.heap.size := by have := b12.size; omega
      have c12 := (H0.out.1.below (by omega) H12.out.2).cell 10 rfl
      clear r12 b12 c11 H11
      go_wp2_with fail
      refine (implWith (w.heap.size + 1) _ _ 2 (body.size : Int) _ (by decide) ?_ hsz12 H12.out.1).mono ?_
      · have := Htl'.out; simp [be_length]; omega
      rintro e w13 ⟨v13, rfl, r13, b13⟩
      have H13 : Hid (Row (w.heap.size + 1) w13 v13 ((([] ++ be 2 to ++ be 2 frm ++ tagBytes tags) ++ [2]) ++ be 4 src ++ be 4 dst ++ be 1 proto ++ be 2 sport ++ be 2 dport ++ be 1 mark ++ be 2 sum ++ be 2 (body.size : Int)) ∧ Below (w.heap.size + 1) w1 w13) := ⟨r13, H12.out.2.trans b13⟩
      have hsz13 : w.heap.size + 1 ≤ w13.heap.size := by have := b13.size; omega
      clear r13 b13 c12 H12
      go_wp2
      go_ret
      refine ⟨v13, rfl, ?_, Hw1.out _ H13.out.2⟩
      rw [hhead.out]
      have := H13.out.1.mono (Nat.le_succ _)
      simpa only [List.append_assoc, List.nil_append] using this
end Go.Proofs.YtddjflaceokoaaaDoor
