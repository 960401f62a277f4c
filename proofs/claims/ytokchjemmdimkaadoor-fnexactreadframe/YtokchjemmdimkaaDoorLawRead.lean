/-
  The walk of the law FnExactReadFrame. By the verifier.
-/
import Derived.Test.YtokchjemmdimkaaDoorFrMark
namespace Go.Proofs.YtokchjemmdimkaaDoor
open Go.RowKit

set_option maxHeartbeats 12800000 in
set_option maxRecDepth 100000 in
theorem fnExactReadFrame_walk {es em : Addr} (text : ByteArray) (w : World) (G : Hid (Gl es em w)) :
    Calls Tryd.prog 4 #[.string text] w fun e w' => e = .returned (.bool true) ∧ Below w.heap.size w w' := by
  by_cases hbig : 1048576 < text.size
  · have hbig' : (1048576 : Int) < text.size := by omega
    go_enter Tryd.func4, Tryd.ntmps4
    go_wp2
    go_ret
    exact ⟨rfl, Below.refl _ _⟩
  have hsz : text.size ≤ 1048576 := by omega
  have hbig' : ¬ (1048576 : Int) < text.size := by omega
  have S : ∀ w1, Calls Tryd.prog 10 #[.string text] w1 (fun e w' => ∃ a cap, e = .returned (.tuple #[(sRun text).1.val a cap, .int .i64 (sRun text).2]) ∧ IRow w1.heap.size w' (.slice a (sRun text).1.tags.length cap) (sRun text).1.tags ∧ Below w1.heap.size w1 w') := fun w1 => specRead text hsz w1
  have I : ∀ w1, Hid (Gl es em w1) → Calls Tryd.prog 9 #[.string text] w1 (fun e w' => ∃ a cap, e = .returned (.tuple #[(sRun text).1.val a cap, .int .i64 (sRun text).2]) ∧ IRow w1.heap.size w' (.slice a (sRun text).1.tags.length cap) (sRun text).1.tags ∧ Below w1.heap.size w1 w') := fun w1 G1 => by
    rw [← read_eq]
    exact implRead text hsz w1 G1
  have hlen := sRun_len text
  generalize (sRun text).2 = code at S I
  generalize (sRun text).1 = f at S I hlen
  have E := fun w1 a1 cap1 a2 cap2 (h1 : Hid (IntsAt w1 a1 f.tags)) (h2 : Hid (IntsAt w1 a2 f.tags)) => eqFrames f a1 a2 cap1 cap2 w1 (by omega) h1 h2
  have M := fun base a cap w1 hb (h : Hid (IRow base w1 (.slice a f.tags.length cap) f.tags)) => markFr base f a cap (by omega) w1 hb h
  have D := fun a cap w1 (h : Hid (IntsAt w1 a (mks 1 f.tags f.tags.length))) => heldFr f a cap (by omega) w1 h
  obtain ⟨dest, frm, tags, src, dst, proto, sport, dport, mark, sum, body⟩ := f
  simp only [Fr.val] at S I E M D hlen
  have S' : Hid _ := S
  have I' : Hid _ := I
  have E' : Hid _ := E
  have M' : Hid _ := M
  have D' : Hid _ := D
  clear S I E M D
  go_enter Tryd.func4, Tryd.ntmps4
  go_wp2_with fail
  refine (S'.out _).mono ?_
  rintro e w1 ⟨a1, cap1, rfl, r1, b1⟩
  have H1 : Hid (IRow w.heap.size w1 (.slice a1 tags.length cap1) tags ∧ Below w.heap.size w w1) := ⟨r1, b1⟩
  clear r1 b1
  go_wp2_with fail
  have g1 : Below w1.heap.size w1 (w1.alloc (.cells #[.int .i64 dest, .int .i64 frm, .slice a1 tags.length cap1, .int .i64 src, .int .i64 dst, .int .i64 proto, .int .i64 sport, .int .i64 dport, .int .i64 mark, .int .i64 sum, .string body] 26)) := (Below.refl _ _).alloc (Nat.le_refl _) _
  have x1 := Boxed.new w1 #[.int .i64 dest, .int .i64 frm, .slice a1 tags.length cap1, .int .i64 src, .int .i64 dst, .int .i64 proto, .int .i64 sport, .int .i64 dport, .int .i64 mark, .int .i64 sum, .string body] 26
  have s1 : (w1.alloc (.cells #[.int .i64 dest, .int .i64 frm, .slice a1 tags.length cap1, .int .i64 src, .int .i64 dst, .int .i64 proto, .int .i64 sport, .int .i64 dport, .int .i64 mark, .int .i64 sum, .string body] 26)).heap.size = w1.heap.size + 1 := by simp
  generalize w1.alloc (.cells #[.int .i64 dest, .int .i64 frm, .slice a1 tags.length cap1, .int .i64 src, .int .i64 dst, .int .i64 proto, .int .i64 sport, .int .i64 dport, .int .i64 mark, .int .i64 sum, .string body] 26) = w1' at g1 x1 s1 ⊢
  have sw := H1.out.2.size
  have X1 : Hid (IRow w.heap.size w1' (.slice a1 tags.length cap1) tags ∧ Below w.heap.size w w1' ∧ Boxed w1' w1.heap.size #[.int .i64 dest, .int .i64 frm, .slice a1 tags.length cap1, .int .i64 src, .int .i64 dst, .int .i64 proto, .int .i64 sport, .int .i64 dport, .int .i64 mark, .int .i64 sum, .string body] 26 ∧ w1'.heap.size = w1.heap.size + 1) := ⟨H1.out.1.carry fun k _ hk => g1.block k hk, H1.out.2.trans (g1.mono sw), x1, s1⟩
  clear g1 x1 s1 H1
  refine (I'.out _ (G.out.below X1.out.2.1)).mono ?_
  rintro e w2 ⟨a2, cap2, rfl, r2, b2⟩
  have H2 : Hid (IRow w1'.heap.size w2 (.slice a2 tags.length cap2) tags ∧ Below w1'.heap.size w1' w2) := ⟨r2, b2⟩
  clear r2 b2
  have sz2 : w1.heap.size < w2.heap.size := by have := H2.out.2.size; have := X1.out.2.2.2; omega
  have c0 : w2.cell? ⟨w1.heap.size, 0, none⟩ = some (.int .i64 dest) := (X1.out.2.2.1.below (by have := X1.out.2.2.2; omega) H2.out.2).cell 0 rfl
  have c1 : w2.cell? ⟨w1.heap.size, 1, none⟩ = some (.int .i64 frm) := (X1.out.2.2.1.below (by have := X1.out.2.2.2; omega) H2.out.2).cell 1 rfl
  have c2 : w2.cell? ⟨w1.heap.size, 2, none⟩ = some (.slice a1 tags.length cap1) := (X1.out.2.2.1.below (by have := X1.out.2.2.2; omega) H2.out.2).cell 2 rfl
  have c3 : w2.cell? ⟨w1.heap.size, 3, none⟩ = some (.int .i64 src) := (X1.out.2.2.1.below (by have := X1.out.2.2.2; omega) H2.out.2).cell 3 rfl
  have c4 : w2.cell? ⟨w1.heap.size, 4, none⟩ = some (.int .i64 dst) := (X1.out.2.2.1.below (by have := X1.out.2.2.2; omega) H2.out.2).cell 4 rfl
  have c5 : w2.cell? ⟨w1.heap.size, 5, none⟩ = some (.int .i64 proto) := (X1.out.2.2.1.below (by have := X1.out.2.2.2; omega) H2.out.2).cell 5 rfl
  have c6 : w2.cell? ⟨w1.heap.size, 6, none⟩ = some (.int .i64 sport) := (X1.out.2.2.1.below (by have := X1.out.2.2.2; omega) H2.out.2).cell 6 rfl
  have c7 : w2.cell? ⟨w1.heap.size, 7, none⟩ = some (.int .i64 dport) := (X1.out.2.2.1.below (by have := X1.out.2.2.2; omega) H2.out.2).cell 7 rfl
  have c8 : w2.cell? ⟨w1.heap.size, 8, none⟩ = some (.int .i64 mark) := (X1.out.2.2.1.below (by have := X1.out.2.2.2; omega) H2.out.2).cell 8 rfl
  have c9 : w2.cell? ⟨w1.heap.size, 9, none⟩ = some (.int .i64 sum) := (X1.out.2.2.1.below (by have := X1.out.2.2.2; omega) H2.out.2).cell 9 rfl
  have c10 : w2.cell? ⟨w1.heap.size, 10, none⟩ = some (.string body) := (X1.out.2.2.1.below (by have := X1.out.2.2.2; omega) H2.out.2).cell 10 rfl
  go_wp2_with fail
  have g2 : Below w2.heap.size w2 (w2.alloc (.cells #[.int .i64 dest, .int .i64 frm, .slice a2 tags.length cap2, .int .i64 src, .int .i64 dst, .int .i64 proto, .int .i64 sport, .int .i64 dport, .int .i64 mark, .int .i64 sum, .string body] 26)) := (Below.refl _ _).alloc (Nat.le_refl _) _
  have x2 := Boxed.new w2 #[.int .i64 dest, .int .i64 frm, .slice a2 tags.length cap2, .int .i64 src, .int .i64 dst, .int .i64 proto, .int .i64 sport, .int .i64 dport, .int .i64 mark, .int .i64 sum, .string body] 26
  have s2 : (w2.alloc (.cells #[.int .i64 dest, .int .i64 frm, .slice a2 tags.length cap2, .int .i64 src, .int .i64 dst, .int .i64 proto, .int .i64 sport, .int .i64 dport, .int .i64 mark, .int .i64 sum, .string body] 26)).heap.size = w2.heap.size + 1 := by simp
  generalize w2.alloc (.cells #[.int .i64 dest, .int .i64 frm, .slice a2 tags.length cap2, .int .i64 src, .int .i64 dst, .int .i64 proto, .int .i64 sport, .int .i64 dport, .int .i64 mark, .int .i64 sum, .string body] 26) = w2' at g2 x2 s2 ⊢
  clear c0 c1 c2 c3 c4 c5 c6 c7 c8 c9 c10
  have X2 : Hid (IRow w.heap.size w2' (.slice a1 tags.length cap1) tags ∧ IRow w1'.heap.size w2' (.slice a2 tags.length cap2) tags ∧ Boxed w2' w1.heap.size #[.int .i64 dest, .int .i64 frm, .slice a1 tags.length cap1, .int .i64 src, .int .i64 dst, .int .i64 proto, .int .i64 sport, .int .i64 dport, .int .i64 mark, .int .i64 sum, .string body] 26 ∧ Boxed w2' w2.heap.size #[.int .i64 dest, .int .i64 frm, .slice a2 tags.length cap2, .int .i64 src, .int .i64 dst, .int .i64 proto, .int .i64 sport, .int .i64 dport, .int .i64 mark, .int .i64 sum, .string body] 26 ∧ Below w.heap.size w w2' ∧ w2'.heap.size = w2.heap.size + 1 ∧ w1'.heap.size ≤ w2.heap.size ∧ Below w1'.heap.size w1' w2') := by
    have g : Below w1'.heap.size w1' w2' := H2.out.2.trans (g2.mono H2.out.2.size)
    have q := X1.out.2.2.2
    exact ⟨X1.out.1.carry fun k _ hk => g.block k hk, H2.out.1.carry fun k _ hk => g2.block k hk, X1.out.2.2.1.below (by omega) g, x2, X1.out.2.1.trans (g.mono (by omega)), s2, H2.out.2.size, g⟩
  clear g2 x2 s2 H2
  refine (E'.out _ _ _ _ _ X2.out.2.1.ints X2.out.1.ints).mono ?_
  rintro e w3 ⟨rfl, b3⟩
  have X3 : Hid (IRow w.heap.size w3 (.slice a1 tags.length cap1) tags ∧ IRow w1'.heap.size w3 (.slice a2 tags.length cap2) tags ∧ Boxed w3 w1.heap.size #[.int .i64 dest, .int .i64 frm, .slice a1 tags.length cap1, .int .i64 src, .int .i64 dst, .int .i64 proto, .int .i64 sport, .int .i64 dport, .int .i64 mark, .int .i64 sum, .string body] 26 ∧ Boxed w3 w2.heap.size #[.int .i64 dest, .int .i64 frm, .slice a2 tags.length cap2, .int .i64 src, .int .i64 dst, .int .i64 proto, .int .i64 sport, .int .i64 dport, .int .i64 mark, .int .i64 sum, .string body] 26 ∧ Below w.heap.size w w3 ∧ w2.heap.size < w3.heap.size ∧ w1'.heap.size = w1.heap.size + 1 ∧ Below w1'.heap.size w1' w3) := by
    have q := X2.out.2.2.2.2.2.1
    have q1 := X1.out.2.2.2
    have := b3.size
    have := X2.out.2.2.2.2.2.2.1
    exact ⟨X2.out.1.carry fun k _ hk => b3.block k hk, X2.out.2.1.carry fun k _ hk => b3.block k hk, X2.out.2.2.1.below (by omega) b3, X2.out.2.2.2.1.below (by omega) b3, X2.out.2.2.2.2.1.trans (b3.mono (by omega)), by omega, q1, X2.out.2.2.2.2.2.2.2.trans (b3.mono (by omega))⟩
  clear b3 X2
  have d0 : w3.cell? ⟨w2.heap.size, 0, none⟩ = some (.int .i64 dest) := X3.out.2.2.2.1.cell 0 rfl
  have d1 : w3.cell? ⟨w2.heap.size, 1, none⟩ = some (.int .i64 frm) := X3.out.2.2.2.1.cell 1 rfl
  have d2 : w3.cell? ⟨w2.heap.size, 2, none⟩ = some (.slice a2 tags.length cap2) := X3.out.2.2.2.1.cell 2 rfl
  have d3 : w3.cell? ⟨w2.heap.size, 3, none⟩ = some (.int .i64 src) := X3.out.2.2.2.1.cell 3 rfl
  have d4 : w3.cell? ⟨w2.heap.size, 4, none⟩ = some (.int .i64 dst) := X3.out.2.2.2.1.cell 4 rfl
  have d5 : w3.cell? ⟨w2.heap.size, 5, none⟩ = some (.int .i64 proto) := X3.out.2.2.2.1.cell 5 rfl
  have d6 : w3.cell? ⟨w2.heap.size, 6, none⟩ = some (.int .i64 sport) := X3.out.2.2.2.1.cell 6 rfl
  have d7 : w3.cell? ⟨w2.heap.size, 7, none⟩ = some (.int .i64 dport) := X3.out.2.2.2.1.cell 7 rfl
  have d8 : w3.cell? ⟨w2.heap.size, 8, none⟩ = some (.int .i64 mark) := X3.out.2.2.2.1.cell 8 rfl
  have d9 : w3.cell? ⟨w2.heap.size, 9, none⟩ = some (.int .i64 sum) := X3.out.2.2.2.1.cell 9 rfl
  have d10 : w3.cell? ⟨w2.heap.size, 10, none⟩ = some (.string body) := X3.out.2.2.2.1.cell 10 rfl
  go_wp2_with fail
  have ssz : w1'.heap.size ≤ w3.heap.size := by have := X3.out.2.2.2.2.2.1; have := X3.out.2.2.2.2.2.2.1; omega
  refine (M'.out w1'.heap.size a2 cap2 w3 ssz X3.out.2.1).mono ?_
  rintro e w4 ⟨rfl, r4, b4, o4⟩
  clear d0 d1 d2 d3 d4 d5 d6 d7 d8 d9 d10
  have X4 : Hid (IRow w.heap.size w4 (.slice a1 tags.length cap1) tags ∧ IntsAt w4 a2 (mks 1 tags tags.length) ∧ Boxed w4 w1.heap.size #[.int .i64 dest, .int .i64 frm, .slice a1 tags.length cap1, .int .i64 src, .int .i64 dst, .int .i64 proto, .int .i64 sport, .int .i64 dport, .int .i64 mark, .int .i64 sum, .string body] 26 ∧ Boxed w4 w2.heap.size #[.int .i64 dest, .int .i64 frm, .slice a2 tags.length cap2, .int .i64 src, .int .i64 dst, .int .i64 proto, .int .i64 sport, .int .i64 dport, .int .i64 mark, .int .i64 sum, .string body] 26 ∧ Below w.heap.size w w4 ∧ w2.heap.size < w4.heap.size) := by
    have g : Below w1'.heap.size w1' w4 := X3.out.2.2.2.2.2.2.2.trans b4
    have q := X3.out.2.2.2.2.2.1
    have q1 := X3.out.2.2.2.2.2.2.1
    have r4' : IRow w1'.heap.size w4 (.slice a2 (mks 1 tags tags.length).length cap2) (mks 1 tags tags.length) := by rw [mks_length 1 tags _ (Nat.le_refl _)]; exact r4
    refine ⟨X1.out.1.carry fun k _ hk => g.block k hk, r4'.ints, X1.out.2.2.1.below (by omega) g, ?_, X1.out.2.1.trans (g.mono X1.out.2.1.size), Nat.lt_of_lt_of_le q o4.size⟩
    unfold Boxed
    rw [o4.block _ (irow_ne X3.out.2.1 X3.out.2.2.2.1) q]
    exact X3.out.2.2.2.1
  clear r4 b4 o4 X3 X1
  have d0 : w4.cell? ⟨w2.heap.size, 0, none⟩ = some (.int .i64 dest) := X4.out.2.2.2.1.cell 0 rfl
  have d1 : w4.cell? ⟨w2.heap.size, 1, none⟩ = some (.int .i64 frm) := X4.out.2.2.2.1.cell 1 rfl
  have d2 : w4.cell? ⟨w2.heap.size, 2, none⟩ = some (.slice a2 tags.length cap2) := X4.out.2.2.2.1.cell 2 rfl
  have d3 : w4.cell? ⟨w2.heap.size, 3, none⟩ = some (.int .i64 src) := X4.out.2.2.2.1.cell 3 rfl
  have d4 : w4.cell? ⟨w2.heap.size, 4, none⟩ = some (.int .i64 dst) := X4.out.2.2.2.1.cell 4 rfl
  have d5 : w4.cell? ⟨w2.heap.size, 5, none⟩ = some (.int .i64 proto) := X4.out.2.2.2.1.cell 5 rfl
  have d6 : w4.cell? ⟨w2.heap.size, 6, none⟩ = some (.int .i64 sport) := X4.out.2.2.2.1.cell 6 rfl
  have d7 : w4.cell? ⟨w2.heap.size, 7, none⟩ = some (.int .i64 dport) := X4.out.2.2.2.1.cell 7 rfl
  have d8 : w4.cell? ⟨w2.heap.size, 8, none⟩ = some (.int .i64 mark) := X4.out.2.2.2.1.cell 8 rfl
  have d9 : w4.cell? ⟨w2.heap.size, 9, none⟩ = some (.int .i64 sum) := X4.out.2.2.2.1.cell 9 rfl
  have d10 : w4.cell? ⟨w2.heap.size, 10, none⟩ = some (.string body) := X4.out.2.2.2.1.cell 10 rfl
  go_wp2_with fail
  refine (D'.out a2 cap2 w4 X4.out.2.1).mono ?_
  rintro e w5 ⟨rfl, b5⟩
  clear d0 d1 d2 d3 d4 d5 d6 d7 d8 d9 d10
  have X5 : Hid (IRow w.heap.size w5 (.slice a1 tags.length cap1) tags ∧ IntsAt w5 a2 (mks 1 tags tags.length) ∧ Boxed w5 w1.heap.size #[.int .i64 dest, .int .i64 frm, .slice a1 tags.length cap1, .int .i64 src, .int .i64 dst, .int .i64 proto, .int .i64 sport, .int .i64 dport, .int .i64 mark, .int .i64 sum, .string body] 26 ∧ Boxed w5 w2.heap.size #[.int .i64 dest, .int .i64 frm, .slice a2 tags.length cap2, .int .i64 src, .int .i64 dst, .int .i64 proto, .int .i64 sport, .int .i64 dport, .int .i64 mark, .int .i64 sum, .string body] 26 ∧ Below w.heap.size w w5 ∧ w2.heap.size < w5.heap.size) := by
    have q := X4.out.2.2.2.2.2
    have := b5.size
    have := X4.out.2.2.2.2.1.size
    exact ⟨X4.out.1.carry fun k _ hk => b5.block k hk, X4.out.2.1.below b5, X4.out.2.2.1.below (by omega) b5, X4.out.2.2.2.1.below (by omega) b5, X4.out.2.2.2.2.1.trans (b5.mono (by omega)), by omega⟩
  clear b5 X4
  go_wp2_with fail
  refine (I'.out _ (G.out.below X5.out.2.2.2.2.1)).mono ?_
  rintro e w6 ⟨a6, cap6, rfl, r6, b6⟩
  have X6 : Hid (IRow w.heap.size w6 (.slice a1 tags.length cap1) tags ∧ IntsAt w6 a2 (mks 1 tags tags.length) ∧ Boxed w6 w1.heap.size #[.int .i64 dest, .int .i64 frm, .slice a1 tags.length cap1, .int .i64 src, .int .i64 dst, .int .i64 proto, .int .i64 sport, .int .i64 dport, .int .i64 mark, .int .i64 sum, .string body] 26 ∧ Boxed w6 w2.heap.size #[.int .i64 dest, .int .i64 frm, .slice a2 tags.length cap2, .int .i64 src, .int .i64 dst, .int .i64 proto, .int .i64 sport, .int .i64 dport, .int .i64 mark, .int .i64 sum, .string body] 26 ∧ Below w.heap.size w w6 ∧ w2.heap.size < w6.heap.size ∧ IntsAt w6 a6 tags) := by
    have q := X5.out.2.2.2.2.2
    have := b6.size
    have := X5.out.2.2.2.2.1.size
    exact ⟨X5.out.1.carry fun k _ hk => b6.block k hk, X5.out.2.1.below b6, X5.out.2.2.1.below (by omega) b6, X5.out.2.2.2.1.below (by omega) b6, X5.out.2.2.2.2.1.trans (b6.mono (by omega)), by omega, r6.ints⟩
  clear r6 b6 X5
  have l6 := X6.out.2.2.2.2.2.1
  have l6' : w1.heap.size < w6.heap.size := by omega
  have c0 : w6.cell? ⟨w1.heap.size, 0, none⟩ = some (.int .i64 dest) := X6.out.2.2.1.cell 0 rfl
  have c1 : w6.cell? ⟨w1.heap.size, 1, none⟩ = some (.int .i64 frm) := X6.out.2.2.1.cell 1 rfl
  have c2 : w6.cell? ⟨w1.heap.size, 2, none⟩ = some (.slice a1 tags.length cap1) := X6.out.2.2.1.cell 2 rfl
  have c3 : w6.cell? ⟨w1.heap.size, 3, none⟩ = some (.int .i64 src) := X6.out.2.2.1.cell 3 rfl
  have c4 : w6.cell? ⟨w1.heap.size, 4, none⟩ = some (.int .i64 dst) := X6.out.2.2.1.cell 4 rfl
  have c5 : w6.cell? ⟨w1.heap.size, 5, none⟩ = some (.int .i64 proto) := X6.out.2.2.1.cell 5 rfl
  have c6 : w6.cell? ⟨w1.heap.size, 6, none⟩ = some (.int .i64 sport) := X6.out.2.2.1.cell 6 rfl
  have c7 : w6.cell? ⟨w1.heap.size, 7, none⟩ = some (.int .i64 dport) := X6.out.2.2.1.cell 7 rfl
  have c8 : w6.cell? ⟨w1.heap.size, 8, none⟩ = some (.int .i64 mark) := X6.out.2.2.1.cell 8 rfl
  have c9 : w6.cell? ⟨w1.heap.size, 9, none⟩ = some (.int .i64 sum) := X6.out.2.2.1.cell 9 rfl
  have c10 : w6.cell? ⟨w1.heap.size, 10, none⟩ = some (.string body) := X6.out.2.2.1.cell 10 rfl
  go_wp2_with fail
  have g7 : Below w6.heap.size w6 (w6.alloc (.cells #[.int .i64 dest, .int .i64 frm, .slice a6 tags.length cap6, .int .i64 src, .int .i64 dst, .int .i64 proto, .int .i64 sport, .int .i64 dport, .int .i64 mark, .int .i64 sum, .string body] 26)) := (Below.refl _ _).alloc (Nat.le_refl _) _
  generalize w6.alloc (.cells #[.int .i64 dest, .int .i64 frm, .slice a6 tags.length cap6, .int .i64 src, .int .i64 dst, .int .i64 proto, .int .i64 sport, .int .i64 dport, .int .i64 mark, .int .i64 sum, .string body] 26) = w7 at g7 ⊢
  clear c0 c1 c2 c3 c4 c5 c6 c7 c8 c9 c10
  have X7 : Hid (IRow w.heap.size w7 (.slice a1 tags.length cap1) tags ∧ IntsAt w7 a2 (mks 1 tags tags.length) ∧ Boxed w7 w2.heap.size #[.int .i64 dest, .int .i64 frm, .slice a2 tags.length cap2, .int .i64 src, .int .i64 dst, .int .i64 proto, .int .i64 sport, .int .i64 dport, .int .i64 mark, .int .i64 sum, .string body] 26 ∧ Below w.heap.size w w7 ∧ w2.heap.size < w7.heap.size ∧ IntsAt w7 a6 tags) := by
    have := g7.size
    have := X6.out.2.2.2.2.1.size
    exact ⟨X6.out.1.carry fun k _ hk => g7.block k hk, X6.out.2.1.below g7, X6.out.2.2.2.1.below (by omega) g7, X6.out.2.2.2.2.1.trans (g7.mono (by omega)), by omega, X6.out.2.2.2.2.2.2.below g7⟩
  clear g7 X6
  refine (E'.out _ _ _ _ _ X7.out.2.2.2.2.2 X7.out.1.ints).mono ?_
  rintro e w8 ⟨rfl, b8⟩
  have X8 : Hid (IntsAt w8 a2 (mks 1 tags tags.length) ∧ Boxed w8 w2.heap.size #[.int .i64 dest, .int .i64 frm, .slice a2 tags.length cap2, .int .i64 src, .int .i64 dst, .int .i64 proto, .int .i64 sport, .int .i64 dport, .int .i64 mark, .int .i64 sum, .string body] 26 ∧ Below w.heap.size w w8) := by
    have := X7.out.2.2.2.1.size
    exact ⟨X7.out.2.1.below b8, X7.out.2.2.1.below X7.out.2.2.2.2.1 b8, X7.out.2.2.2.1.trans (b8.mono (by omega))⟩
  clear b8 X7 l6
  have d0 : w8.cell? ⟨w2.heap.size, 0, none⟩ = some (.int .i64 dest) := X8.out.2.1.cell 0 rfl
  have d1 : w8.cell? ⟨w2.heap.size, 1, none⟩ = some (.int .i64 frm) := X8.out.2.1.cell 1 rfl
  have d2 : w8.cell? ⟨w2.heap.size, 2, none⟩ = some (.slice a2 tags.length cap2) := X8.out.2.1.cell 2 rfl
  have d3 : w8.cell? ⟨w2.heap.size, 3, none⟩ = some (.int .i64 src) := X8.out.2.1.cell 3 rfl
  have d4 : w8.cell? ⟨w2.heap.size, 4, none⟩ = some (.int .i64 dst) := X8.out.2.1.cell 4 rfl
  have d5 : w8.cell? ⟨w2.heap.size, 5, none⟩ = some (.int .i64 proto) := X8.out.2.1.cell 5 rfl
  have d6 : w8.cell? ⟨w2.heap.size, 6, none⟩ = some (.int .i64 sport) := X8.out.2.1.cell 6 rfl
  have d7 : w8.cell? ⟨w2.heap.size, 7, none⟩ = some (.int .i64 dport) := X8.out.2.1.cell 7 rfl
  have d8 : w8.cell? ⟨w2.heap.size, 8, none⟩ = some (.int .i64 mark) := X8.out.2.1.cell 8 rfl
  have d9 : w8.cell? ⟨w2.heap.size, 9, none⟩ = some (.int .i64 sum) := X8.out.2.1.cell 9 rfl
  have d10 : w8.cell? ⟨w2.heap.size, 10, none⟩ = some (.string body) := X8.out.2.1.cell 10 rfl
  go_wp2_with fail
  refine (D'.out a2 cap2 w8 X8.out.1).mono ?_
  rintro e w9 ⟨rfl, b9⟩
  clear d0 d1 d2 d3 d4 d5 d6 d7 d8 d9 d10
  have X9 : Hid (Below w.heap.size w w9) := X8.out.2.2.trans (b9.mono X8.out.2.2.size)
  clear b9 X8
  go_wp2
  go_ret
  exact ⟨rfl, X9.out⟩
end Go.Proofs.YtokchjemmdimkaaDoor
