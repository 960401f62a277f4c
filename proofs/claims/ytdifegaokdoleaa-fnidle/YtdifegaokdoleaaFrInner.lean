/-
  The walk of l2Inner: the bytes of a frame from its source on, as the model shows them. By the verifier.
-/
import Derived.Test.YtdifegaokdoleaaM3FrRow
import Derived.Lib.AppendStr
namespace Go.Proofs.Ytdifegaokdoleaa
open Go.RowKit

/-- A text's bytes as numbers. -/
def bytesB (s : ByteArray) : List Int := s.data.toList.map fun b => (b.toNat : Int)
theorem strCells_bytesB (s : ByteArray) : Lib.strCells s = (bytesB s).map (Value.int .u8) := by simp [Lib.strCells, bytesB]
theorem bytesB_length (s : ByteArray) : (bytesB s).length = s.size := by simp [bytesB]
/-- Numbers that can be shown. -/
def Fr.Shows (f : Fr) : Prop :=
  0 ≤ f.src ∧ 0 ≤ f.dst ∧ (0 ≤ f.proto ∧ f.proto ≤ 255) ∧ 0 ≤ f.sport ∧ 0 ≤ f.dport ∧ (0 ≤ f.mark ∧ f.mark ≤ 255) ∧ 0 ≤ f.sum ∧ f.body.size ≤ 100000
theorem Fr.Ok.shows {f : Fr} (h : f.Ok) : f.Shows := by
  obtain ⟨h1, h2, h3, h4, h5, h6, h7, h8, h9, h10, h11, h12⟩ := h
  exact ⟨h4.1, h5.1, h6, h7.1, h8.1, ⟨h9.1, by omega⟩, h10.1, by omega⟩
theorem be_one (n : Int) (h0 : 0 ≤ n) (h1 : n ≤ 255) : be 1 n = [n] := by
  simp only [be, Int.pow_zero, Int.ediv_one, List.cons.injEq, and_true]; omega

set_option maxHeartbeats 3200000 in
set_option maxRecDepth 100000 in
theorem specInner (f : Fr) (a : Option Addr) (cap : Nat) (w : World) (ok : Hid f.Shows) :
    Calls Try.prog 84 #[f.val a cap] w fun e w' => ∃ v', e = .returned v' ∧ Row w.heap.size w' v' (f.mid ++ bytesB f.body) ∧ Below w.heap.size w w' := by
  obtain ⟨h0, h1, ⟨h2, h3⟩, h4, h5, ⟨h6, h7⟩, h8, hB⟩ := ok.out
  obtain ⟨tt, frm, tags, src, dst, proto, sport, dport, mark, sum, body⟩ := f
  simp only [Fr.val] at h0 h1 h2 h3 h4 h5 h6 h7 h8 hB ⊢
  have e1 : Hid (be 1 proto = [proto]) := be_one proto h2 h3
  have e2 : Hid (be 1 mark = [mark]) := be_one mark h6 h7
  clear ok
  generalize tags.length = len
  go_enter Try.func84, Try.ntmps84
  go_upto_region 1 with fail
  have hbox := Boxed.new w #[.int .i64 tt, .int .i64 frm, .slice a len cap, .int .i64 src, .int .i64 dst, .int .i64 proto, .int .i64 sport, .int .i64 dport, .int .i64 mark, .int .i64 sum, .string body] 27
  generalize hw1 : w.alloc (.cells #[.int .i64 tt, .int .i64 frm, .slice a len cap, .int .i64 src, .int .i64 dst, .int .i64 proto, .int .i64 sport, .int .i64 dport, .int .i64 mark, .int .i64 sum, .string body] 27) = w1 at hbox ⊢
  have hs1 : w1.heap.size = w.heap.size + 1 := by rw [← hw1]; simp
  have H0 : Hid (Boxed w1 w.heap.size _ _ ∧ w1.heap.size = w.heap.size + 1) := ⟨hbox, hs1⟩
  have Hw1 : Hid (∀ w', Below (w.heap.size + 1) w1 w' → Below w.heap.size w w') := by
    show ∀ w', _
    intro w' g; rw [← hw1] at g; exact below_of_alloc g
  have hlt1 : w.heap.size < w1.heap.size := by omega
  clear hbox hw1 hs1
  have c3 := H0.out.1.cell 3 rfl
  have c4 := H0.out.1.cell 4 rfl
  go_cut [3] (fun s3 wc => Hid (Row (w.heap.size + 1) wc s3 (be 4 src ++ be 4 dst) ∧ Below (w.heap.size + 1) w1 wc))
  case first =>
    go_region_with (first | (go_at_call_of 89 (Value.int IntKind.i64 src); refine (specBytes (w.heap.size + 1) _ [] 4 src _ (by decide) (by decide) h0 ?_ ?_).mono ?_; (simp; omega); exact row_lit0 _ _ _ rfl hlt1; rintro e w2 ⟨v2, rfl, r2, b2⟩; have K2 : Hid (Row (w.heap.size + 1) w2 v2 ([] ++ be 4 src) ∧ Below (w.heap.size + 1) w1 w2) := ⟨r2, ((Below.refl _ w1).alloc hlt1 _).drew.trans b2⟩; have d4 := (H0.out.1.below (Nat.lt_succ_self _) K2.out.2).cell 4 rfl; have s2 : w.heap.size + 1 ≤ w2.heap.size := Nat.le_trans hlt1 K2.out.2.size; clear r2 b2) | (go_at_call_of 89 (Value.int IntKind.i64 dst); refine (specBytes (w.heap.size + 1) _ ([] ++ be 4 src) 4 dst _ (by decide) ?_ h1 ?_ ?_).mono ?_; (simp [be_length]); exact s2; exact K2.out.1; rintro e w3 ⟨v3, rfl, r3, b3⟩; have K3 : Hid (Row (w.heap.size + 1) w3 v3 (be 4 src ++ be 4 dst) ∧ Below (w.heap.size + 1) w1 w3) := ⟨r3, K2.out.2.trans b3⟩; clear r3 b3))
    all_goals (go_wp2_with fail; go_meet; exact K3)
  case rest =>
    have s1 : w.heap.size + 1 ≤ wc.heap.size := Nat.le_trans hlt1 hcut.out.2.size
    have d5 := (H0.out.1.below (Nat.lt_succ_self _) hcut.out.2).cell 5 rfl
    clear c3 c4
    go_wp2_with (at_builtin; refine row_app1 rfl (.tmp 11) (.tmp 15) rfl (w.heap.size + 1) _ (be 4 src ++ be 4 dst) proto rfl hcut.out.1 rfl ?_ s1 ?_)
    · simp [be_length]
    intro v4 w4 r4 b4
    have K4 : Hid (Row (w.heap.size + 1) w4 v4 (be 4 src ++ be 4 dst ++ [proto]) ∧ Below (w.heap.size + 1) w1 w4) := ⟨r4, hcut.out.2.trans b4⟩
    have s4 : w.heap.size + 1 ≤ w4.heap.size := Nat.le_trans hlt1 K4.out.2.size
    have d6 := (H0.out.1.below (Nat.lt_succ_self _) K4.out.2).cell 6 rfl
    have d7 := (H0.out.1.below (Nat.lt_succ_self _) K4.out.2).cell 7 rfl
    clear r4 b4 d5 hcut
    go_upto_region 3 with fail
    go_cut [3] (fun s3 wc => Hid (Row (w.heap.size + 1) wc s3 (be 4 src ++ be 4 dst ++ [proto] ++ be 2 sport ++ be 2 dport) ∧ Below (w.heap.size + 1) w1 wc))
    case first =>
      go_region_with (first | (go_at_call_of 89 (Value.int IntKind.i64 sport); refine (specBytes (w.heap.size + 1) _ (be 4 src ++ be 4 dst ++ [proto]) 2 sport _ (by decide) ?_ h4 ?_ ?_).mono ?_; (simp [be_length]); exact s4; exact K4.out.1; rintro e w5 ⟨v5, rfl, r5, b5⟩; have K5 : Hid (Row (w.heap.size + 1) w5 v5 (be 4 src ++ be 4 dst ++ [proto] ++ be 2 sport) ∧ Below (w.heap.size + 1) w1 w5) := ⟨r5, K4.out.2.drew.trans b5⟩; have e7 := (H0.out.1.below (Nat.lt_succ_self _) K5.out.2).cell 7 rfl; have s5 : w.heap.size + 1 ≤ w5.heap.size := Nat.le_trans hlt1 K5.out.2.size; clear r5 b5) | (go_at_call_of 89 (Value.int IntKind.i64 dport); refine (specBytes (w.heap.size + 1) _ (be 4 src ++ be 4 dst ++ [proto] ++ be 2 sport) 2 dport _ (by decide) ?_ h5 ?_ ?_).mono ?_; (simp [be_length]); exact s5; exact K5.out.1; rintro e w6 ⟨v6, rfl, r6, b6⟩; have K6 : Hid (Row (w.heap.size + 1) w6 v6 (be 4 src ++ be 4 dst ++ [proto] ++ be 2 sport ++ be 2 dport) ∧ Below (w.heap.size + 1) w1 w6) := ⟨r6, K5.out.2.trans b6⟩; clear r6 b6))
      all_goals (go_wp2_with fail; go_meet; exact K6)
    case rest =>
      clear K4 d6 d7
      have s6 : w.heap.size + 1 ≤ wc.heap.size := Nat.le_trans hlt1 hcut.out.2.size
      have d8 := (H0.out.1.below (Nat.lt_succ_self _) hcut.out.2).cell 8 rfl
      go_wp2_with (at_builtin; refine row_app1 rfl (.tmp 24) (.tmp 28) rfl (w.heap.size + 1) _ (be 4 src ++ be 4 dst ++ [proto] ++ be 2 sport ++ be 2 dport) mark rfl hcut.out.1 rfl ?_ s6 ?_)
      · simp [be_length]
      intro v7 w7 r7 b7
      have K7 : Hid (Row (w.heap.size + 1) w7 v7 (be 4 src ++ be 4 dst ++ [proto] ++ be 2 sport ++ be 2 dport ++ [mark]) ∧ Below (w.heap.size + 1) w1 w7) := ⟨r7, hcut.out.2.trans b7⟩
      have s7 : w.heap.size + 1 ≤ w7.heap.size := Nat.le_trans hlt1 K7.out.2.size
      have d9 := (H0.out.1.below (Nat.lt_succ_self _) K7.out.2).cell 9 rfl
      have d10 := (H0.out.1.below (Nat.lt_succ_self _) K7.out.2).cell 10 rfl
      clear r7 b7 d8 hcut
      go_upto_region 5 with fail
      go_cut [3] (fun s3 wc => Hid (Row (w.heap.size + 1) wc s3 (be 4 src ++ be 4 dst ++ [proto] ++ be 2 sport ++ be 2 dport ++ [mark] ++ be 2 sum ++ be 2 body.size) ∧ Below (w.heap.size + 1) w1 wc))
      case first =>
        go_region_with (first | (go_at_call_of 89 (Value.int IntKind.i64 sum); refine (specBytes (w.heap.size + 1) _ (be 4 src ++ be 4 dst ++ [proto] ++ be 2 sport ++ be 2 dport ++ [mark]) 2 sum _ (by decide) ?_ h8 ?_ ?_).mono ?_; (simp [be_length]); exact s7; exact K7.out.1; rintro e w8 ⟨v8, rfl, r8, b8⟩; have K8 : Hid (Row (w.heap.size + 1) w8 v8 (be 4 src ++ be 4 dst ++ [proto] ++ be 2 sport ++ be 2 dport ++ [mark] ++ be 2 sum) ∧ Below (w.heap.size + 1) w1 w8) := ⟨r8, K7.out.2.drew.trans b8⟩; have e10 := (H0.out.1.below (Nat.lt_succ_self _) K8.out.2).cell 10 rfl; have s8 : w.heap.size + 1 ≤ w8.heap.size := Nat.le_trans hlt1 K8.out.2.size; clear r8 b8) | (go_at_call_of 89 (Value.int IntKind.i64 (body.size : Int)); refine (specBytes (w.heap.size + 1) _ (be 4 src ++ be 4 dst ++ [proto] ++ be 2 sport ++ be 2 dport ++ [mark] ++ be 2 sum) 2 body.size _ (by decide) ?_ ?_ ?_ ?_).mono ?_; (simp [be_length]); exact Int.natCast_nonneg _; exact s8; exact K8.out.1; rintro e w9 ⟨v9, rfl, r9, b9⟩; have K9 : Hid (Row (w.heap.size + 1) w9 v9 (be 4 src ++ be 4 dst ++ [proto] ++ be 2 sport ++ be 2 dport ++ [mark] ++ be 2 sum ++ be 2 body.size) ∧ Below (w.heap.size + 1) w1 w9) := ⟨r9, K8.out.2.trans b9⟩; clear r9 b9))
        all_goals (go_wp2_with fail; go_meet; exact K9)
      case rest =>
        clear K7 d9 d10
        have s9 : w.heap.size + 1 ≤ wc.heap.size := Nat.le_trans hlt1 hcut.out.2.size
        have d10 := (H0.out.1.below (Nat.lt_succ_self _) hcut.out.2).cell 10 rfl
        obtain ⟨i0, hi, hz0, hz1, hz2⟩ := info_parts info5
        have Hi : Hid _ := hi
        have Hz0 : Hid _ := hz0
        have Hz1 : Hid _ := hz1
        have Hz2 : Hid _ := hz2
        clear hi hz0 hz1 hz2
        go_wp2_with (at_builtin; refine Lib.wpList_append_own_string _ rfl (.tmp 38) (.tmp 40) 22 9 rfl (w.heap.size + 1) 5 i0 Try.underlying22 Try.underlying9 Hi.out Hz0.out Hz1.out Hz2.out _ _ _ rfl hcut.out.1 body rfl ?_ ?_ s9 ?_)
        · simp only [List.length_append, be_length, List.length_cons, List.length_nil]; unfold maxLen; omega
        · simp only [List.length_append, be_length, List.length_cons, List.length_nil]; omega
        intro v10 w10 r10 b10 _
        have K10 : Hid (Row (w.heap.size + 1) w10 v10 ((be 4 src ++ be 4 dst ++ [proto] ++ be 2 sport ++ be 2 dport ++ [mark] ++ be 2 sum ++ be 2 body.size) ++ bytesB body) ∧ Below (w.heap.size + 1) w1 w10) := ⟨row_more (bytesB_length body) (by rw [← strCells_bytesB]; exact r10), hcut.out.2.grown b10 s9 (fun k hk => Row.block hcut.out.1 k hk)⟩
        clear r10 b10 d10 hcut
        go_wp2
        go_ret
        refine ⟨v10, rfl, ?_, Hw1.out _ K10.out.2⟩
        simp only [Fr.mid]
        rw [e1.out, e2.out]
        exact K10.out.1.mono (Nat.le_succ _)
end Go.Proofs.Ytdifegaokdoleaa
