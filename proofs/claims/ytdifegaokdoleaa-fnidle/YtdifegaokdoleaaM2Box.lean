import Derived.RowKit3
import Derived.Below
import Derived.WalkKit
import Derived.Laws.Rows
import Derived.Laws.Tables
import Derived.Test.YtdifegaokdoleaaRows
import Derived.WalkSpells
import Derived.WalkLawsBesides
import Derived.Test.YtdifegaokdoleaaM1FrBytes
/-
  A struct's block as one fact: a field put, all fields put. By the verifier.
-/
namespace Go.Proofs.Ytdifegaokdoleaa
open Go.RowKit

/-- A block that holds these cells. -/
def Boxed (w : World) (B : Nat) (cs : Array Value) (t : TypeId) : Prop := w.heap[B]? = some (.cells cs t)
theorem Boxed.cell {w : World} {B : Nat} {cs : Array Value} {t : TypeId} (h : Boxed w B cs t) (j : Nat) {v : Value} (hj : cs[j]? = some v) : w.cell? ⟨B, j, none⟩ = some v := by
  unfold Boxed at h
  simp [World.cell?, h, hj]
theorem Boxed.below {w w' : World} {B : Nat} {cs : Array Value} {t : TypeId} (h : Boxed w B cs t) {b : Nat} (hb : B < b) (g : Below b w w') : Boxed w' B cs t := by
  unfold Boxed; rw [g.block B hb]; exact h
theorem Boxed.new (w : World) (cs : Array Value) (t : TypeId) : Boxed (w.alloc (.cells cs t)) w.heap.size cs t := by show (w.heap.push _)[w.heap.size]? = _; simp
theorem heapLt {w : World} {k : Nat} {o : Obj} (h : w.heap[k]? = some o) : k < w.heap.size := (Array.getElem?_eq_some_iff.1 h).1
theorem Boxed.under {w : World} {k : Nat} {cs : Array Value} {t : TypeId} (x : Boxed w k cs t) : k < w.heap.size := heapLt x
theorem Boxed.put {w : World} {k : Nat} {cs : Array Value} {t : TypeId} (x : Boxed w k cs t) (j : Nat) (v : Value) : Boxed (w.setCell ⟨k, j, none⟩ v) k (cs.setIfInBounds j v) t := by
  unfold Boxed at *
  simp only [World.setCell, Array.getElem?_modify, if_true, x, Option.map_some]
  rfl
theorem Boxed.far {w : World} {k b : Nat} {cs : Array Value} {t : TypeId} (x : Boxed w k cs t) (h : k ≠ b) (j : Nat) (v : Value) : Boxed (w.setCell ⟨b, j, none⟩ v) k cs t := by
  unfold Boxed at *
  rw [Below.heap_setCell _ _ _ _ h]; exact x
theorem Boxed.ice {w : World} {B : Nat} {cs : Array Value} {t : TypeId} (h : Boxed w B cs t) (j : Nat) : w.frozen? ⟨B, j, none⟩ = false := by
  unfold Boxed at h
  simp [World.frozen?, h]
theorem Boxed.more {w : World} {B : Nat} {cs : Array Value} {t : TypeId} (h : Boxed w B cs t) (o : Obj) : Boxed (w.alloc o) B cs t := by
  unfold Boxed at *
  rw [Below.heap_alloc _ _ _ (heapLt h)]; exact h
end Go.Proofs.Ytdifegaokdoleaa

/-
  Numbers within bounds, the model's way. By the verifier.
-/
namespace Go.Proofs.Ytdifegaokdoleaa
open Go.RowKit

theorem ret_bool {a b : Bool} (h : a = b) : Ending.returned (.bool a) = .returned (.bool b) := by rw [h]
theorem ret_num {a b : Int} (h : a = b) : Ending.returned (.int .i64 a) = .returned (.int .i64 b) := by rw [h]
theorem specIn (n lo hi : Int) (w : World) :
    Calls Try.prog 49 #[.int .i64 n, .int .i64 lo, .int .i64 hi] w fun e w' => e = .returned (.bool (inB lo hi n)) ∧ w' = w := by
  by_cases h0 : lo ≤ n
  · by_cases h1 : n ≤ hi
    · have h : inB lo hi n = true := by rw [inB_true]; omega
      rw [h]
      go_enter Try.func49, Try.ntmps49
      go_wp2
      go_ret
      exact ⟨rfl, rfl⟩
    · have h : inB lo hi n = false := by rw [inB_false]; omega
      rw [h]
      go_enter Try.func49, Try.ntmps49
      go_wp2
      go_ret
      exact ⟨rfl, rfl⟩
  · have h : inB lo hi n = false := by rw [inB_false]; omega
    rw [h]
    go_enter Try.func49, Try.ntmps49
    go_wp2
    go_ret
    exact ⟨rfl, rfl⟩
end Go.Proofs.Ytdifegaokdoleaa

/-
  Numbers within bounds, the program's way; numbers that lie in cells. By the verifier.
-/
namespace Go.Proofs.Ytdifegaokdoleaa
open Go.RowKit

theorem all_take_succ' (p : Int → Bool) (zs : List Int) (k : Nat) (hk : k < zs.length) :
    (zs.take (k + 1)).all p = ((zs.take k).all p && p (zs[k]?.getD 0)) := by
  rw [List.take_succ_eq_append_getElem hk, List.all_append]; simp [List.getElem?_eq_getElem hk]
theorem all_hit' (p : Int → Bool) (zs : List Int) (k : Nat) (hk : k < zs.length) (h : p (zs[k]?.getD 0) = false) : zs.all p = false := by
  rw [List.all_eq_false]
  exact ⟨zs[k], List.getElem_mem hk, by simp [List.getElem?_eq_getElem hk] at h; simp [h]⟩

theorem implUpTo (most : Int) (a : Option Addr) (cap : Nat) (zs : List Int) (w : World) (hbig : zs.length ≤ 1048576) (hc : Hid (IntsAt w a zs)) :
    Calls Try.prog 61 #[.int .i64 most, .slice a zs.length cap] w fun e w' => e = .returned (.bool (zs.all (inB 0 most))) ∧ w' = w := by
  obtain ⟨len, hlen⟩ : ∃ n, zs.length = n := ⟨_, rfl⟩
  rw [hlen] at hbig ⊢
  have Hlen : Hid (zs.length = len) := hlen
  clear hlen
  go_enter Try.func61, Try.ntmps61
  go_wp2
  go_loop [9] (fun i => ∃ k : Nat, k ≤ len ∧ i = .int .i64 k ∧ (zs.take k).all (inB 0 most) = true) (fun i => len - (intOf i).toNat)
  case atStart => exact ⟨0, Nat.zero_le _, rfl, rfl⟩
  case round =>
    obtain ⟨k, hk, rfl, hall⟩ := hrel
    have Hall : Hid ((zs.take k).all (inB 0 most) = true) := hall
    clear hall
    by_cases hlt : k < len
    · obtain ⟨b, off, ha, hb, hcell⟩ := hc.out k (by rw [Hlen.out]; exact hlt)
      subst ha
      have hs := all_take_succ' (inB 0 most) zs k (by rw [Hlen.out]; exact hlt)
      have hh := all_hit' (inB 0 most) zs k (by rw [Hlen.out]; exact hlt)
      rw [Hall.out] at hs
      generalize zs[k]?.getD 0 = z at hcell hs hh
      have Hs : Hid ((zs.take (k + 1)).all (inB 0 most) = (true && inB 0 most z)) := hs
      have Hh : Hid (inB 0 most z = false → zs.all (inB 0 most) = false) := hh
      clear hs hh
      by_cases z0 : 0 ≤ z
      · by_cases z1 : z ≤ most
        · have hok : Hid (inB 0 most z = true) := by show inB 0 most z = true; rw [inB_true]; omega
          go_wp2
          go_round
          case rel => exact ⟨k + 1, by omega, by go_num, by rw [Hs.out, hok.out]; rfl⟩
          case measure => simp [intOf]; omega
        · have hok : Hid (inB 0 most z = false) := by show inB 0 most z = false; rw [inB_false]; omega
          go_wp2
          go_ret
          rw [Hh.out hok.out]
          exact ⟨rfl, rfl⟩
      · have hok : Hid (inB 0 most z = false) := by show inB 0 most z = false; rw [inB_false]; omega
        go_wp2
        go_ret
        rw [Hh.out hok.out]
        exact ⟨rfl, rfl⟩
    · go_wp2
      go_ret
      have : zs.take k = zs := List.take_of_length_le (by rw [Hlen.out]; omega)
      rw [← this, Hall.out]
      exact ⟨rfl, rfl⟩

theorem implUpTo1 (most n : Int) (w : World) (B : Nat) (hB : B = w.heap.size) :
    Calls Try.prog 61 #[.int .i64 most, .slice (some ⟨B, 0, none⟩) 1 1] (w.alloc (.cells #[.int .i64 n] 2)) fun e w' => e = .returned (.bool (inB 0 most n)) ∧ w' = w.alloc (.cells #[.int .i64 n] 2) := by
  have h := implUpTo most (some ⟨B, 0, none⟩) 1 [n] (w.alloc (.cells #[.int .i64 n] 2)) (by simp) (show Hid _ from ints_new w 2 [n] #[.int .i64 n] B hB rfl)
  simpa using h
end Go.Proofs.Ytdifegaokdoleaa

/-
  Addresses within bounds, the model's way. By the verifier.
-/
namespace Go.Proofs.Ytdifegaokdoleaa
open Go.RowKit

theorem specAddr (n : Int) (w : World) :
    Calls Try.prog 51 #[.int .i64 n] w fun e w' => e = .returned (.bool (inB 0 4294967295 n)) ∧ w' = w := by
  go_enter Try.func51, Try.ntmps51
  go_wp2_with (go_at_call 49; refine (specIn _ _ _ _).mono ?_; rintro e w' ⟨rfl, rfl⟩)
  go_ret
  exact ⟨rfl, rfl⟩
end Go.Proofs.Ytdifegaokdoleaa

/-
  A struct's block as one fact, with what tells numbers. By the verifier.
-/
