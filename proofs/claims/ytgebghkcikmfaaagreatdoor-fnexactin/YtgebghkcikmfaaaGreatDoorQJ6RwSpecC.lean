import Derived.Test.YtgebghkcikmfaaaGreatDoorQJ0NumUp
import Derived.Test.YtgebghkcikmfaaaGreatDoorQJ1FrInner
/-
  The walks of the model's chapter 8 that only read: items, counts, ids. By the verifier.
-/
namespace Go.Proofs.YtgebghkcikmfaaaGreatDoor
open Go.RowKit

theorem specTime (t : Int) (w : World) :
    Calls Tryz.prog 210 #[.int .i64 t] w fun e w' => e = .returned (.bool (inB 0 1099511627776 t)) ∧ w' = w := by
  go_enter Tryz.func210, Tryz.ntmps210
  go_wp2_with (go_at_call 72; refine (specIn _ _ _ _).mono ?_; rintro e w' ⟨rfl, rfl⟩)
  go_ret
  exact ⟨rfl, rfl⟩

set_option maxHeartbeats 1600000 in
theorem specItem (i : It) (w : World) :
    Calls Tryz.prog 143 #[i.val] w fun e w' => e = .returned (.bool i.ok) ∧ w' = w.alloc (.cells i.cells.toArray 52) := by
  have Hok : Hid (i.ok = (inB 1 1000000 i.id && (inB 1 100000 i.size && inB 0 1099511627776 i.tm))) := rfl
  obtain ⟨k, x, m⟩ := i
  generalize It.ok _ = ok at Hok ⊢
  simp only [It.val, It.cells] at Hok ⊢
  have A1 := fun w => specIn k 1 1000000 w
  have A2 := fun w => specIn x 1 100000 w
  have A3 := fun w => specTime m w
  generalize inB 1 1000000 k = b1 at A1 Hok
  generalize inB 1 100000 x = b2 at A2 Hok
  generalize inB 0 1099511627776 m = b3 at A3 Hok
  have A1' : Hid _ := A1
  have A2' : Hid _ := A2
  have A3' : Hid _ := A3
  clear A1 A2 A3
  go_enter Tryz.func143, Tryz.ntmps143
  go_wp2_with fail
  refine (A1'.out _).mono ?_
  rintro e w' ⟨rfl, rfl⟩
  cases b1
  · go_wp2
    go_ret
    exact ⟨ret_bool (by rw [Hok.out]; rfl), rfl⟩
  go_wp2_with fail
  refine (A2'.out _).mono ?_
  rintro e w' ⟨rfl, rfl⟩
  cases b2
  · go_wp2
    go_ret
    exact ⟨ret_bool (by rw [Hok.out]; rfl), rfl⟩
  go_wp2_with fail
  refine (A3'.out _).mono ?_
  rintro e w' ⟨rfl, rfl⟩
  go_wp2
  go_ret
  exact ⟨ret_bool (by rw [Hok.out]; rfl), rfl⟩

theorem specHasI (a : Option Addr) (cap : Nat) (zs : List Int) (x : Int) (w : World) (hbig : zs.length ≤ 1048576) (hc : Hid (IntsAt w a zs)) :
    Calls Tryz.prog 144 #[.slice a zs.length cap, .int .i64 x] w fun e w' => e = .returned (.bool (decide (x ∈ zs))) ∧ w' = w := by
  obtain ⟨len, hlen⟩ : ∃ n, zs.length = n := ⟨_, rfl⟩
  obtain ⟨r, hr⟩ : ∃ r, decide (x ∈ zs) = r := ⟨_, rfl⟩
  rw [hlen] at hbig ⊢
  rw [hr]
  have Hlen : Hid (zs.length = len) := hlen
  have Hr : Hid (decide (x ∈ zs) = r) := hr
  clear hlen hr
  go_enter Tryz.func144, Tryz.ntmps144
  go_wp2
  go_loop [5] (fun i => ∃ k : Nat, k ≤ len ∧ i = .int .i64 k ∧ Hid (x ∉ zs.take k)) (fun i => len - (intOf i).toNat)
  case atStart => exact ⟨0, Nat.zero_le _, rfl, by show x ∉ zs.take 0; simp⟩
  case round =>
    obtain ⟨k, hk, rfl, Hno⟩ := hrel
    by_cases hlt : k < len
    · obtain ⟨b, off, ha, hb, hcell⟩ := hc.out k (by rw [Hlen.out]; exact hlt)
      subst ha
      have hkz : k < zs.length := by rw [Hlen.out]; exact hlt
      have hs : zs.take (k + 1) = zs.take k ++ [zs[k]?.getD 0] := by rw [List.take_succ_eq_append_getElem hkz, List.getElem?_eq_getElem hkz]; rfl
      have hm : zs[k]?.getD 0 ∈ zs := by rw [List.getElem?_eq_getElem hkz]; exact List.getElem_mem hkz
      generalize zs[k]?.getD 0 = z at hcell hs hm
      have Hs : Hid (zs.take (k + 1) = zs.take k ++ [z]) := hs
      have Hm : Hid (z ∈ zs) := hm
      clear hs hm
      by_cases hz : z = x
      · have er : r = true := by rw [← Hr.out]; simp; rw [← hz]; exact Hm.out
        subst er
        subst hz
        go_wp2
        go_ret
        exact ⟨rfl, rfl⟩
      · have hz' : ¬ z = x := hz
        go_wp2
        go_round
        case rel =>
          refine ⟨k + 1, by omega, by go_num, ?_⟩
          show x ∉ zs.take (k + 1)
          rw [Hs.out]
          intro h
          rcases List.mem_append.1 h with h | h
          · exact Hno.out h
          · exact hz (List.mem_singleton.1 h).symm
        case measure => simp [intOf]; omega
    · have er : r = false := by
        rw [← Hr.out]
        have : zs.take k = zs := List.take_of_length_le (by rw [Hlen.out]; omega)
        have h := Hno.out
        rw [this] at h
        simp [h]
      subst er
      go_wp2
      go_ret
      exact ⟨rfl, rfl⟩

end Go.Proofs.YtgebghkcikmfaaaGreatDoor

/-
  The walk of the model's count of items. By the verifier.
-/
namespace Go.Proofs.YtgebghkcikmfaaaGreatDoor
open Go.RowKit

set_option maxHeartbeats 1600000 in
set_option maxRecDepth 100000 in
theorem specCountL (r : Rw) (a : Option Addr) (c : Nat) (w : World) (hB : r.big ≤ 1048576) (h : Hid (IzAt w a r.lists)) :
    Calls Tryz.prog 128 #[r.val a c] w fun e w' => e = .returned (.int .i64 (izSum r.lists r.lists.length)) ∧ Below w.heap.size w w' := by
  obtain ⟨hT, hS, -⟩ := Rw.small hB
  obtain ⟨f, ls⟩ := r
  simp only [Rw.val] at h hT hS ⊢
  clear hB
  obtain ⟨len, hlen⟩ : ∃ n, ls.length = n := ⟨_, rfl⟩
  rw [hlen] at hT hS ⊢
  have Hlen : Hid (ls.length = len) := hlen
  clear hlen
  obtain ⟨W, hW⟩ : ∃ W, W = w.alloc (.cells #[.int .i64 f, .slice a len c] 44) := ⟨_, rfl⟩
  have X : Hid (IzAt W a ls ∧ Below w.heap.size w W ∧ Boxed W w.heap.size #[.int .i64 f, .slice a len c] 44) := by
    rw [hW]
    exact ⟨h.out.alloc _, (Below.refl _ _).alloc (Nat.le_refl _) _, Boxed.new _ _ _⟩
  have HW : Hid (W = _) := hW
  clear hW h
  go_enter Tryz.func128, Tryz.ntmps128
  go_wp2
  rw [← HW.out]
  have c1 : W.cell? ⟨w.heap.size, 1, none⟩ = some (.slice a len c) := X.out.2.2.cell 1 rfl
  go_loop [3, 4] (fun s i => ∃ (k : Nat) (q : Int), k ≤ len ∧ i = .int .i64 k ∧ s = .int .i64 q ∧ 0 ≤ q ∧ q ≤ 1048576 ∧ Hid (q = izSum ls k)) (fun _ i => len - (intOf i).toNat)
  case atStart => exact ⟨0, 0, Nat.zero_le _, rfl, rfl, by omega, by omega, by show (0 : Int) = (izSum ls 0 : Nat); rw [izSum_zero]; rfl⟩
  case round =>
    obtain ⟨k, q, hk, rfl, rfl, q0, q1, Hq⟩ := hrel
    by_cases hlt : k < len
    · have hkl : k < ls.length := by rw [Hlen.out]; exact hlt
      obtain ⟨b, off, ak, ck, ha, hb, hc, -, -⟩ := X.out.1 k hkl
      subst ha
      have hs := izSum_succ hkl
      have hm := izSum_mono (ls := ls) (i := k + 1) (j := len) (by omega) (by rw [Hlen.out]; exact Nat.le_refl _)
      have q2 : q + ((izAt ls k).length : Int) ≤ 1048576 := by have := Hq.out; omega
      have Hs : Hid (izSum ls (k + 1) = izSum ls k + (izAt ls k).length) := hs
      generalize (izAt ls k).length = n at hc q2 Hs
      clear hs hm
      go_wp2
      go_round
      case rel =>
        refine ⟨k + 1, q + n, by omega, by go_num, by go_num, by omega, by omega, ?_⟩
        show q + n = ((izSum ls (k + 1) : Nat) : Int)
        rw [Hs.out, Hq.out]
        push_cast
        rfl
      case measure => simp [intOf]; omega
    · obtain rfl : k = len := by omega
      go_wp2
      go_ret
      exact ⟨ret_num Hq.out, X.out.2.1⟩
end Go.Proofs.YtgebghkcikmfaaaGreatDoor
