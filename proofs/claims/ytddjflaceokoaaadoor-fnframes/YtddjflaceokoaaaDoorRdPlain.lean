/-
  The reader of frames as plain data: how far it has come and what was wrong first. By the verifier.
-/
import Derived.Test.YtddjflaceokoaaaDoorFrHead
import Derived.Test.YtddjflaceokoaaaDoorErAs
namespace Go.Proofs.YtddjflaceokoaaaDoor
open Go.RowKit

/-- What can be wrong: none, too short; some none, bytes behind it; some (some c), the code c. -/
abbrev Er := Option (Option Int)
def Er.code : Er → Int
  | none => 1
  | (some none) => 6
  | some (some c) => c
/-- How far the reader has come; what was wrong first, and where. -/
structure Rst where
  pos : Nat
  err : Option (Nat × Er)
def Rst.code (σ : Rst) : Int := match σ.err with
  | none => 0
  | some (_, e) => e.code
def Rst.fail (σ : Rst) (e : Er) : Rst := match σ.err with
  | none => ⟨σ.pos, some (σ.pos, e)⟩
  | some _ => σ
def Rst.take (text : ByteArray) (σ : Rst) (k : Nat) : ByteArray × Rst := match σ.err with
  | none => if text.size < σ.pos + k then (⟨#[]⟩, σ.fail none) else (text.extract σ.pos (σ.pos + k), ⟨σ.pos + k, none⟩)
  | some _ => (⟨#[]⟩, σ)
/-- Bytes as a number, the highest first. -/
def numOf (l : List UInt8) : Int := l.foldl (fun n b => n * 256 + (b.toNat : Int)) 0
def Rst.number (text : ByteArray) (σ : Rst) (k : Nat) : Int × Rst := (numOf (σ.take text k).1.data.toList, (σ.take text k).2)
def Rst.atMost (text : ByteArray) (σ : Rst) (most : Int) (k : Nat) (code : Int) : Int × Rst :=
  if most < (σ.number text k).1 then (0, (σ.number text k).2.fail (some (some code))) else σ.number text k
theorem numOf_append (l : List UInt8) (b : UInt8) : numOf (l ++ [b]) = numOf l * 256 + (b.toNat : Int) := by simp [numOf]
theorem numOf_nonneg (l : List UInt8) : 0 ≤ numOf l := by
  have : ∀ (l : List UInt8) (n : Int), 0 ≤ n → 0 ≤ l.foldl (fun n b => n * 256 + (b.toNat : Int)) n := by
    intro l
    induction l with
    | nil => intro n h; exact h
    | cons b l ih => intro n h; exact ih _ (by show 0 ≤ n * 256 + (b.toNat : Int); omega)
  exact this l 0 (by decide)
theorem numOf_lt (l : List UInt8) : numOf l < 256 ^ l.length := by
  have : ∀ (l : List UInt8) (n : Int), l.foldl (fun n b => n * 256 + (b.toNat : Int)) n < (n + 1) * 256 ^ l.length := by
    intro l
    induction l with
    | nil => intro n; simp; omega
    | cons b l ih =>
      intro n
      refine Int.lt_of_lt_of_le (ih _) ?_
      have hb := b.toNat_lt
      rw [List.length_cons, Int.pow_succ, Int.mul_comm (256 ^ l.length) 256, ← Int.mul_assoc]
      exact Int.mul_le_mul_of_nonneg_right (by show n * 256 + (b.toNat : Int) + 1 ≤ (n + 1) * 256; omega) (Int.le_of_lt (Int.pow_pos (by decide)))
  simpa [numOf] using this l 0

/-- What is wrong, as a value. -/
def Er.val (es em : Addr) : Er → Value
  | none => .iface 111 (.pointer (some es))
  | (some none) => .iface 111 (.pointer (some em))
  | some (some c) => .iface 67 (.agg #[.int .i64 c])
def errVal (es em : Addr) : Option (Nat × Er) → Value
  | none => .nilIface
  | some (k, e) => .iface 77 (.agg #[.int .i64 k, e.val es em])

/-- The package's variables as they were laid. -/
structure Gl (es em : Addr) (w : World) : Prop where
  short : w.cell? ⟨1, 0, none⟩ = some (.iface 111 (.pointer (some es)))
  more : w.cell? ⟨0, 0, none⟩ = some (.iface 111 (.pointer (some em)))
  typ : w.cell? ⟨2, 0, none⟩ = some (.iface 96 (.agg #[.pointer (some ⟨3, 45, none⟩)]))
  ne : es ≠ em
  bs : ∃ c t, w.heap[es.block]? = some (.cells c t (0, 0))
  bm : ∃ c t, w.heap[em.block]? = some (.cells c t (0, 0))
theorem Gl.below {es em : Addr} {w w' : World} (h : Gl es em w) (g : Below w.heap.size w w') : Gl es em w' := by
  obtain ⟨h1, h2, h3, h4, ⟨c, t, h5⟩, ⟨c', t', h6⟩⟩ := h
  exact ⟨by rw [g.cell (World.block_lt_of_cell? _ _ h1)]; exact h1, by rw [g.cell (World.block_lt_of_cell? _ _ h2)]; exact h2, by rw [g.cell (World.block_lt_of_cell? _ _ h3)]; exact h3, h4,
    ⟨c, t, by rw [g.block _ (heap_lt h5)]; exact h5⟩, ⟨c', t', by rw [g.block _ (heap_lt h6)]; exact h6⟩⟩

set_option maxHeartbeats 3200000 in
theorem implCodeOf (es em : Addr) (σ : Rst) (w : World) (G : Hid (Gl es em w)) :
    Calls Tryd.prog 28 #[errVal es em σ.err] w fun e w' => e = .returned (.int .i64 σ.code) ∧ Below w.heap.size w w' := by
  have hS := G.out.short
  have hM := G.out.more
  have lS := World.block_lt_of_cell? _ _ hS
  have lM := World.block_lt_of_cell? _ _ hM
  have lT := World.block_lt_of_cell? _ _ G.out.typ
  obtain ⟨c, t, hbs⟩ := G.out.bs
  obtain ⟨c', t', hbm⟩ := G.out.bm
  have HS : Hid (w.heap[es.block]? = some (.cells c t (0, 0))) := hbs
  have HM : Hid (w.heap[em.block]? = some (.cells c' t' (0, 0))) := hbm
  clear hbs hbm
  obtain ⟨pos, err⟩ := σ
  match err with
  | none =>
    simp only [errVal, Rst.code]
    go_enter Tryd.func28, Tryd.ntmps28
    go_wp2_with fail
    refine (is_nil es _).mono ?_
    rintro e w' ⟨rfl, rfl⟩
    go_wp2_with fail
    refine (is_nil em _).mono ?_
    rintro e w' ⟨rfl, rfl⟩
    go_wp2_with fail
    refine (as_nil _ _).mono ?_
    rintro e w' ⟨rfl, rfl⟩
    go_wp2
    go_ret
    exact ⟨rfl, (Below.refl _ _).alloc (Nat.le_refl _) _⟩
  | some (k, none) =>
    simp only [errVal, Rst.code, Er.val, Er.code]
    go_enter Tryd.func28, Tryd.ntmps28
    go_wp2_with fail
    refine (is_mis_same k es _).mono ?_
    rintro e w' ⟨rfl, rfl⟩
    go_wp2
    go_ret
    exact ⟨rfl, (Below.refl _ _).alloc (Nat.le_refl _) _⟩
  | some (k, (some none)) =>
    simp only [errVal, Rst.code, Er.val, Er.code]
    go_enter Tryd.func28, Tryd.ntmps28
    go_wp2_with fail
    refine (is_mis_other k em es _ _ _ _ _ (Ne.symm G.out.ne) HM.out HS.out).mono ?_
    rintro e w' ⟨rfl, rfl⟩
    go_wp2_with fail
    refine (is_mis_same k em _).mono ?_
    rintro e w' ⟨rfl, rfl⟩
    go_wp2
    go_ret
    exact ⟨rfl, bel_alloc (bel_alloc (Below.refl _ _) (Nat.le_refl _) _) (Nat.le_refl _) _⟩
  | some (k, some (some d)) =>
    simp only [errVal, Rst.code, Er.val, Er.code]
    go_enter Tryd.func28, Tryd.ntmps28
    go_wp2_with fail
    refine (is_mis_ref k d es _).mono ?_
    rintro e w' ⟨rfl, rfl⟩
    go_wp2_with fail
    refine (is_mis_ref k d em _).mono ?_
    rintro e w' ⟨rfl, rfl⟩
    go_wp2_with fail
    have hg := G.out.typ
    refine (as_mis_ref k d _ (.int .i64 0) _ ?_ ?_ ?_).mono ?_
    · rw [World.cell?_alloc_lt _ _ _ (by simp; omega), World.cell?_alloc_lt _ _ _ (by simp; omega), World.cell?_alloc_lt _ _ _ lT]; exact hg
    · rw [World.cell?_alloc_at _ _ _ _ (by simp)]; rfl
    · go_simp
    rintro e w' ⟨rfl, rfl⟩
    go_wp2
    go_ret
    refine ⟨rfl, ?_⟩
    repeat (first | exact Below.refl _ _ | refine bel_alloc ?_ (Nat.le_refl _) _ | refine Below.setCell ?_ (by simp) _)
end Go.Proofs.YtddjflaceokoaaaDoor
