/-
  The walk of l2Outer: the bytes of a frame up to its source, as the model shows them. By the verifier.
-/
import Derived.Test.YtddjflaceokoaaaDoorFrStep
namespace Go.Proofs.YtddjflaceokoaaaDoor
open Go.RowKit

set_option maxHeartbeats 3200000 in
set_option maxRecDepth 100000 in
theorem specOuter (f : Fr) (a : Option Addr) (cap : Nat) (w : World) (ok : Hid f.Ok) (hc : Hid (IntsAt w a f.tags)) :
    Calls Tryd.prog 31 #[f.val a cap] w fun e w' => ∃ v', e = .returned v' ∧ Row w.heap.size w' v' (f.outer ++ [2]) ∧ Below w.heap.size w w' := by
  obtain ⟨h0, h1, hT, _, _, _, _, _, _, _, _, hall⟩ := ok.out
  obtain ⟨tt, frm, tags, src, dst, proto, sport, dport, mark, sum, body⟩ := f
  simp only [Fr.val, Fr.outer] at h0 h1 hT hall hc ⊢
  obtain ⟨h0, h0'⟩ := h0
  obtain ⟨h1, h1'⟩ := h1
  clear ok
  have Hpos : Hid (∀ k, k < tags.length → 0 ≤ tags[k]?.getD 0) := by
    show ∀ k, k < tags.length → 0 ≤ tags[k]?.getD 0
    intro k hk
    rw [List.all_eq_true] at hall
    have := inB_true.1 (hall tags[k] (List.getElem_mem hk))
    rw [List.getElem?_eq_getElem hk]; exact this.1
  clear hall
  obtain ⟨len, hlen⟩ : ∃ n, tags.length = n := ⟨_, rfl⟩
  rw [hlen] at hT ⊢
  have Hlen : Hid (tags.length = len) := hlen
  have Htl : Hid (∀ k, (tagBytes (tags.take k)).length ≤ 6) := by
    show ∀ k, _
    intro k; rw [tagBytes_length, List.length_take]; omega
  clear hlen
  go_enter Tryd.func31, Tryd.ntmps31
  go_upto_region 1 with fail
  have hbox := Boxed.new w #[.int .i64 tt, .int .i64 frm, .slice a len cap, .int .i64 src, .int .i64 dst, .int .i64 proto, .int .i64 sport, .int .i64 dport, .int .i64 mark, .int .i64 sum, .string body] 26
  have hci := hc.out.alloc (.cells #[.int .i64 tt, .int .i64 frm, .slice a len cap, .int .i64 src, .int .i64 dst, .int .i64 proto, .int .i64 sport, .int .i64 dport, .int .i64 mark, .int .i64 sum, .string body] 26)
  generalize hw1 : w.alloc (.cells #[.int .i64 tt, .int .i64 frm, .slice a len cap, .int .i64 src, .int .i64 dst, .int .i64 proto, .int .i64 sport, .int .i64 dport, .int .i64 mark, .int .i64 sum, .string body] 26) = w1 at hbox hci ⊢
  have hs1 : w1.heap.size = w.heap.size + 1 := by rw [← hw1]; simp
  have H0 : Hid (Boxed w1 w.heap.size _ _ ∧ IntsAt w1 a tags ∧ w1.heap.size = w.heap.size + 1) := ⟨hbox, hci, hs1⟩
  have Hw1 : Hid (∀ w', Below (w.heap.size + 1) w1 w' → Below w.heap.size w w') := by
    show ∀ w', _
    intro w' g; rw [← hw1] at g; exact below_of_alloc g
  have hlt1 : w.heap.size < w1.heap.size := by omega
  clear hbox hci hw1 hs1 hc
  have c0 := H0.out.1.cell 0 rfl
  have c1 := H0.out.1.cell 1 rfl
  go_cut [3] (fun s3 wc => Hid (Row (w.heap.size + 1) wc s3 (be 2 tt ++ be 2 frm) ∧ Below (w.heap.size + 1) w1 wc))
  case first =>
    go_region_with (first | (go_at_call_of 53 (Value.int IntKind.i64 tt); refine (specBytes (w.heap.size + 1) _ [] 2 tt _ (by decide) (by decide) h0 ?_ ?_).mono ?_; (simp; omega); exact row_lit0 _ _ _ rfl hlt1; rintro e w2 ⟨v2, rfl, r2, b2⟩; have K2 : Hid (Row (w.heap.size + 1) w2 v2 ([] ++ be 2 tt) ∧ Below (w.heap.size + 1) w1 w2) := ⟨r2, ((Below.refl _ w1).alloc hlt1 _).drew.trans b2⟩; have d1 := (H0.out.1.below (Nat.lt_succ_self _) K2.out.2).cell 1 rfl; have s2 : w.heap.size + 1 ≤ w2.heap.size := Nat.le_trans hlt1 K2.out.2.size; clear r2 b2) | (go_at_call_of 53 (Value.int IntKind.i64 frm); refine (specBytes (w.heap.size + 1) _ ([] ++ be 2 tt) 2 frm _ (by decide) ?_ h1 ?_ ?_).mono ?_; (simp [be_length]); exact s2; exact K2.out.1; rintro e w3 ⟨v3, rfl, r3, b3⟩; have K3 : Hid (Row (w.heap.size + 1) w3 v3 (be 2 tt ++ be 2 frm) ∧ Below (w.heap.size + 1) w1 w3) := ⟨r3, K2.out.2.trans b3⟩; clear r3 b3))
    all_goals (go_wp2_with fail; go_meet; exact K3)
  case rest =>
  clear c0 c1
  go_wp2
  go_loopw [3, 4] (fun v i wr => ∃ k : Nat, k ≤ len ∧ i = .int .i64 k ∧ Hid (Row (w.heap.size + 1) wr v (be 2 tt ++ be 2 frm ++ tagBytes (tags.take k)) ∧ Below (w.heap.size + 1) w1 wr)) (fun _ i _ => len - (intOf i).toNat)
  case atStart => exact ⟨0, Nat.zero_le _, rfl, by simpa [tagBytes] using hcut⟩
  case round =>
    obtain ⟨k, hk, rfl, H4⟩ := hrel
    have hlt4 : w.heap.size < wr.heap.size := Nat.lt_of_lt_of_le hlt1 H4.out.2.size
    have c2 := (H0.out.1.below (Nat.lt_succ_self _) H4.out.2).cell 2 rfl
    by_cases hlt : k < len
    · obtain ⟨b, off, ha, hb, hcell⟩ := (ints_below H0.out.2.1 (Nat.le_of_eq H0.out.2.2) H4.out.2) k (by rw [Hlen.out]; exact hlt)
      subst ha
      have Hb : Hid (w1.cell? ⟨b, off + k, none⟩ = some (.int .i64 (tags[k]?.getD 0)) ∧ b < w.heap.size + 1) := by
        obtain ⟨b', off', e', hb', hc'⟩ := H0.out.2.1 k (by rw [Hlen.out]; exact hlt)
        cases e'
        exact ⟨hc', by rw [← H0.out.2.2]; exact hb'⟩
      have hz := Hpos.out k (by rw [Hlen.out]; exact hlt)
      have ht : Hid (tagBytes (tags.take (k + 1)) = tagBytes (tags.take k) ++ [1] ++ be 2 (tags[k]?.getD 0)) := tagBytes_take tags k (by rw [Hlen.out]; exact hlt)
      generalize tags[k]?.getD 0 = z at hcell ht Hb hz
      have hlt' : (k : Int) < (len : Int) := by omega
      go_wp2_with fail
      go_region_law (first | (refine step_app1 rfl (.tmp 19) (.tmp 20) rfl (w.heap.size + 1) _ (be 2 tt ++ be 2 frm ++ tagBytes (tags.take k)) 1 (w := wr.drew) ?_ rfl H4.out.1 rfl ?_ hlt4 ?_; rfl; (have := Htl.out k; simp [be_length]; omega); intro v5 w5 r5 b5; have K5 : Hid (Row (w.heap.size + 1) w5 v5 ((be 2 tt ++ be 2 frm ++ tagBytes (tags.take k)) ++ [1]) ∧ Below (w.heap.size + 1) w1 w5) := ⟨r5, H4.out.2.drew.trans b5⟩; have d2 := (H0.out.1.below (Nat.lt_succ_self _) K5.out.2).cell 2 rfl; have dz : w5.cell? ⟨b, off + k, none⟩ = some (.int .i64 z) := (by rw [K5.out.2.cell (p := ⟨b, off + k, none⟩) Hb.out.2]; exact Hb.out.1); have s5 : w.heap.size + 1 ≤ w5.heap.size := Nat.le_trans hlt1 K5.out.2.size; clear r5 b5) | (refine step_call rfl 53 rfl #[v5, .int .i64 z, .int .i64 2] (by kernel_rfl) (specBytes (w.heap.size + 1) _ ((be 2 tt ++ be 2 frm ++ tagBytes (tags.take k)) ++ [1]) 2 z _ (by decide) ?_ hz s5 K5.out.1) ?_; (have := Htl.out k; simp [be_length]; omega); rintro e w6 ⟨v6, rfl, r6, b6⟩; refine ⟨v6, rfl, ?_⟩; have K6 : Hid (Row (w.heap.size + 1) w6 v6 (((be 2 tt ++ be 2 frm ++ tagBytes (tags.take k)) ++ [1]) ++ be 2 z) ∧ Below (w.heap.size + 1) w1 w6) := ⟨r6, K5.out.2.trans b6⟩; clear r6 b6))
      all_goals (go_wp2; go_roundw)
      all_goals first | exact ⟨k + 1, by omega, by go_num, by rw [ht.out]; simpa [List.append_assoc] using K6.out.1, K6.out.2⟩ | (simp [intOf]; omega)
    · have htk : tags.take k = tags := List.take_of_length_le (by rw [Hlen.out]; omega)
      rw [htk] at H4
      clear htk
      have Htl' : Hid ((tagBytes tags).length ≤ 6) := by
        show (tagBytes tags).length ≤ 6
        rw [tagBytes_length, Hlen.out]; omega
      clear Htl
      go_wp2_with (at_builtin; refine row_app1 rfl (.tmp 28) (.tmp 29) rfl (w.heap.size + 1) _ (be 2 tt ++ be 2 frm ++ tagBytes tags) 2 rfl H4.out.1 rfl ?_ hlt4 ?_)
      · have := Htl'.out; simp [be_length]; omega
      intro v5 w5 r5 b5
      have K5 : Hid (Row (w.heap.size + 1) w5 v5 ((be 2 tt ++ be 2 frm ++ tagBytes tags) ++ [2]) ∧ Below (w.heap.size + 1) w1 w5) := ⟨r5, H4.out.2.trans b5⟩
      clear r5 b5 H4
      go_wp2
      go_ret
      exact ⟨v5, rfl, K5.out.1.mono (Nat.le_succ _), Hw1.out _ K5.out.2⟩
end Go.Proofs.YtddjflaceokoaaaDoor
