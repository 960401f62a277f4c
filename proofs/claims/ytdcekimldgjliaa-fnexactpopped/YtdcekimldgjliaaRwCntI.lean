/-
  The walks of the program's count of rows, of its test of a row's number and of its test of all items. By the verifier.
-/
import Derived.Test.YtdcekimldgjliaaRwFn
import Derived.Test.YtdcekimldgjliaaM3FromOne
import Derived.Test.YtdcekimldgjliaaItFn
import Derived.Test.YtdcekimldgjliaaBoxed
import Derived.Test.YtdcekimldgjliaaRwAll
namespace Go.Proofs.Ytdcekimldgjliaa
open Go.RowKit Go.Shelf

theorem implCountL (r : Rw) (a : Option Addr) (c : Nat) (w : World) (hB : r.big ≤ 1048576) (h : Hid (IzAt w a r.lists)) :
    Calls Try.prog 31 #[r.val a c] w fun e w' => e = .returned (.int .i64 (izSum r.lists r.lists.length)) ∧ Below w.heap.size w w' := implCntRw r a c w hB h

set_option maxHeartbeats 1600000 in
theorem implHasRow (r : Rw) (a : Option Addr) (c : Nat) (row : Int) (w : World) (hT : r.lists.length ≤ 1048576) :
    Calls Try.prog 39 #[r.val a c, .int .i64 row] w fun e w' => e = .returned (.bool (decide (0 ≤ row) && decide (row < r.lists.length))) ∧ Below w.heap.size w w' := by
  have A := fun B w h => implUpTo1 ((r.lists.length : Int) - 1) row w B h
  have e : Hid (inB 0 ((r.lists.length : Int) - 1) row = (decide (0 ≤ row) && decide (row < r.lists.length))) := by
    show _ = _
    rw [Bool.eq_iff_iff, inB_true, Bool.and_eq_true, decide_eq_true_iff, decide_eq_true_iff]
    omega
  generalize (decide (0 ≤ row) && decide (row < (r.lists.length : Int))) = z at e ⊢
  generalize inB 0 ((r.lists.length : Int) - 1) row = y at A e
  unfold Rw.val
  generalize r.lists.length = n at A hT ⊢
  generalize r.most = f
  have A' : Hid _ := A
  clear A
  have q1 : -9223372036854775808 ≤ (n : Int) - 1 := by omega
  have q2 : (n : Int) - 1 ≤ 9223372036854775807 := by omega
  go_enter Try.func39, Try.ntmps39
  go_wp2_with fail
  refine (A'.out _ _ (by simp)).mono ?_
  rintro e w' ⟨rfl, rfl⟩
  go_wp2
  go_ret
  exact ⟨ret_bool (by rw [← e.out]), ((Below.refl _ _).alloc (Nat.le_refl _) _).alloc (by simp) _⟩

set_option maxHeartbeats 1600000 in
theorem implNotIt (r : It) (w : World) :
    Calls Try.prog 53 #[r.val] w fun e w' => e = .returned (.bool (!r.ok)) ∧ Below w.heap.size w w' := by
  have C := fun w => implItem r w
  generalize r.ok = ok at C ⊢
  obtain ⟨i, p, s⟩ := r
  simp only [It.val] at C ⊢
  have C' : Hid _ := C
  clear C
  have hB : Hid (Below w.heap.size w (w.alloc (.cells #[.int .i64 i, .int .i64 p, .int .i64 s] 37))) := (Below.refl _ _).alloc (Nat.le_refl _) _
  go_enter Try.func53, Try.ntmps53
  go_wp2_with fail
  refine (C'.out _).mono ?_
  rintro e w1 ⟨rfl, b1⟩
  have B : Hid (Below w.heap.size w w1) := hB.out.trans (b1.mono hB.out.size)
  clear b1 hB
  go_wp2
  go_ret
  exact ⟨rfl, B.out⟩
theorem notItTells (w : World) : ItTells w (fun _ => False) 53 #[] #[] (fun _ => True) (fun r => !r.ok) :=
  ⟨enters_of Try.func53 (by kernel_rfl) rfl, fun _ h => h.elim, fun W r _ _ => implNotIt r W⟩

/-- All items of the first k lists are right. -/
def eachK (ls : List (List It)) (k : Nat) : Bool := (ls.take k).all fun l => l.all It.ok
theorem eachK_succ {ls : List (List It)} {k : Nat} (h : k < ls.length) : eachK ls (k + 1) = (eachK ls k && (izAt ls k).all It.ok) := by
  unfold eachK
  rw [List.take_succ_eq_append_getElem h, List.all_append, izAt_lt h]
  simp
theorem eachK_hit {ls : List (List It)} {k : Nat} (h : k < ls.length) (g : (izAt ls k).all It.ok = false) : eachK ls ls.length = false := by
  unfold eachK
  rw [List.take_length, List.all_eq_false]
  refine ⟨_, List.getElem_mem h, ?_⟩
  rw [izAt_lt h] at g
  simp [g]
theorem eachK_all (r : Rw) : eachK r.lists r.lists.length = r.all.all It.ok := by
  unfold eachK Rw.all
  rw [List.take_length, List.all_flatten]

set_option maxHeartbeats 3200000 in
set_option maxRecDepth 100000 in
theorem implEachIt (r : Rw) (a : Option Addr) (c : Nat) (w : World) (hB : r.big ≤ 1048576) (h : Hid (IzAt w a r.lists)) :
    Calls Try.prog 32 #[r.val a c] w fun e w' => e = .returned (.bool (r.all.all It.ok)) ∧ Below w.heap.size w w' := by
  obtain ⟨hT, -, hin⟩ := Rw.small hB
  rw [← eachK_all]
  obtain ⟨f, ls⟩ := r
  simp only [Rw.val] at h hT hin ⊢
  clear hB
  have Hin : Hid (∀ k, k < ls.length → (izAt ls k).length ≤ 1048576) := hin
  have Hit : Hid (∀ k, k < ls.length → (izAt ls k).all It.ok = false → eachK ls ls.length = false) := fun k hk g => eachK_hit hk g
  obtain ⟨len, hlen⟩ : ∃ n, ls.length = n := ⟨_, rfl⟩
  rw [hlen] at hT Hin Hit ⊢
  have Hlen : Hid (ls.length = len) := hlen
  clear hlen hin
  obtain ⟨W, hW⟩ : ∃ W, W = w.alloc (.cells #[.int .i64 f, .slice a len c] 29) := ⟨_, rfl⟩
  have X : Hid (IzAt W a ls ∧ Below w.heap.size w W ∧ Boxed W w.heap.size #[.int .i64 f, .slice a len c] 29) := by
    rw [hW]
    exact ⟨h.out.alloc _, (Below.refl _ _).alloc (Nat.le_refl _) _, Boxed.new _ _ _⟩
  have HW : Hid (W = _) := hW
  clear hW h
  go_enter Try.func32, Try.ntmps32
  go_wp2
  rw [← HW.out]
  have c1 : W.cell? ⟨w.heap.size, 1, none⟩ = some (.slice a len c) := X.out.2.2.cell 1 rfl
  go_wp2
  clear c1
  go_loopw [8] (fun i wr => ∃ k : Nat, k ≤ len ∧ i = .int .i64 k ∧ Hid (eachK ls k = true) ∧ Hid (Below W.heap.size W wr)) (fun i _ => len - (intOf i).toNat)
  case atStart => exact ⟨0, Nat.zero_le _, rfl, rfl, Below.refl _ _⟩
  case round =>
    obtain ⟨k, hk, rfl, Hg, Hb⟩ := hrel
    by_cases hlt : k < len
    · have hkl : k < ls.length := by rw [Hlen.out]; exact hlt
      obtain ⟨b, off, ak, ck, ha, hb, hc, hr, -⟩ := X.out.1.below Hb.out k hkl
      subst ha
      have hlt' : (k : Int) < (len : Int) := by omega
      have C := implContainsT ak ck (izAt ls k) 53 #[] #[] (fun _ => False) (fun _ => True) (fun r => !r.ok) wr (Hin.out k hlt) hr (fun _ _ => trivial) (notItTells wr)
      have Ha : Hid ((!((izAt ls k).any fun r => !r.ok)) = (izAt ls k).all It.ok) := by
        show _ = _
        rw [List.all_eq_not_any_not]
      have Hs := eachK_succ hkl
      have Hh := Hit.out k hlt
      rw [Hg.out, ← Ha.out] at Hs
      rw [← Ha.out] at Hh
      generalize ((izAt ls k).any fun r => !r.ok) = z at C Hs Hh
      generalize (izAt ls k).length = n at C hc
      have HS : Hid _ := Hs
      have HH : Hid _ := Hh
      clear Hs Hh Ha hr
      go_wp2_with fail
      refine C.mono ?_
      rintro e w1 ⟨rfl, b1⟩
      have B : Hid (Below W.heap.size W w1) := Hb.out.trans (b1.mono Hb.out.size)
      clear b1 C hc
      cases z
      · go_wp2
        go_roundw
        case rel => exact ⟨k + 1, by omega, by go_num, by show eachK ls (k + 1) = true; rw [HS.out]; rfl, B⟩
        case measure => simp [intOf]; omega
      · go_wp2
        go_ret
        exact ⟨ret_bool (by rw [HH.out rfl]), X.out.2.1.trans (B.out.mono X.out.2.1.size)⟩
    · obtain rfl : k = len := by omega
      go_wp2
      go_ret
      exact ⟨ret_bool Hg.out.symm, X.out.2.1.trans (Hb.out.mono X.out.2.1.size)⟩
end Go.Proofs.Ytdcekimldgjliaa
