/-
  Facts of the variables of the round of the hosts: a host written down behind those seen; the next deal laid. By the verifier.
-/
import Derived.Test.YtojmghnbekneiaaDlVs
import Derived.Test.YtojmghnbekneiaaM3IntApp
namespace Go.Proofs.Ytojmghnbekneiaa
open Go.RowKit

section
variable {w w15 : World} {bs gz gy gx gd zb zt yb yt bx tx bd td : Nat} {cz cy cx cd : Array Value} {Y2 Y X d : Dl} {s : Value} {seen : List Int}
theorem houses_app (hh : Int)
    (H : Dvs [⟨gz, cz, Y2, zb, zt⟩, ⟨gy, cy, Y, yb, yt⟩, ⟨gx, cx, X, bx, tx⟩, ⟨gd, cd, d, bd, td⟩] w w15) (R : IRow bs w15 s seen)
    (H17 : ∀ y, s.ownBlock = some y → y < zb)
    (Hgy : (tx ≤ gy ∧ td ≤ gy) ∧ (gx < gy ∧ gd < gy) ∧ w.heap.size ≤ gy ∧ (tx ≤ bs ∧ td ≤ bs) ∧ w.heap.size ≤ bs ∧ bs ≤ gy) :
    (IRow bs (w15.alloc (.cells #[.int .i64 hh] 2)) s seen ∧ (∀ k, k < 1 → (w15.alloc (.cells #[.int .i64 hh] 2)).cell? ⟨w15.heap.size, 0 + k, none⟩ = some (.int .i64 ([hh][k]?.getD 0))) ∧ bs ≤ (w15.alloc (.cells #[.int .i64 hh] 2)).heap.size) ∧
    ∀ v' wn, IRow bs wn v' (seen ++ [hh]) → Below bs (w15.alloc (.cells #[.int .i64 hh] 2)) wn → World.grownBy (w15.alloc (.cells #[.int .i64 hh] 2)) wn s.ownBlock →
      Dvs [⟨gz, cz, Y2, zb, zt⟩, ⟨gx, cx, X, bx, tx⟩, ⟨gd, cd, d, bd, td⟩] w wn ∧ Boxed wn gy cy 26 ∧ IRow bs wn v' (seen ++ [hh]) := by
  have hbs : bs ≤ w15.heap.size := by have h2 := (H.at 1 rfl).under; omega
  have ea : Below w15.heap.size w15 (w15.alloc (.cells #[.int .i64 hh] 2)) := (Below.refl _ _).alloc (Nat.le_refl _) _
  have hr : IRow bs (w15.alloc (.cells #[.int .i64 hh] 2)) s seen := R.alloc _
  have h3 : Dvs [⟨gz, cz, Y2, zb, zt⟩, ⟨gx, cx, X, bx, tx⟩, ⟨gd, cd, d, bd, td⟩] w (w15.alloc (.cells #[.int .i64 hh] 2)) := (H.below ea).sub fun e he => by
    simp only [List.mem_cons, List.not_mem_nil, or_false] at he ⊢
    rcases he with he | he | he
    · exact .inl he
    · exact .inr (.inr (.inl he))
    · exact .inr (.inr (.inr he))
  have h4 : Boxed (w15.alloc (.cells #[.int .i64 hh] 2)) gy cy 26 := (H.at 1 rfl).more _
  have hc : ∀ k, k < 1 → (w15.alloc (.cells #[.int .i64 hh] 2)).cell? ⟨w15.heap.size, 0 + k, none⟩ = some (.int .i64 ([hh][k]?.getD 0)) := fun k hk => by
    obtain rfl : k = 0 := by omega
    exact (Boxed.new w15 #[.int .i64 hh] 2).cell 0 rfl
  refine ⟨⟨hr, hc, Nat.le_trans hbs ea.size⟩, ?_⟩
  generalize w15.alloc (.cells #[.int .i64 hh] 2) = wa at hr h3 h4
  intro v' wn q1 q2 q3
  have o : ∀ k, s.ownBlock ≠ some k → k < wa.heap.size → wn.heap[k]? = wa.heap[k]? := fun k hP hl => q3.block k hl (fun e => hP e.symm)
  refine ⟨h3.other (P := fun k => s.ownBlock ≠ some k) (h3.bel.trans (q2.mono (by omega))) q2.size o ?_, (o gy (irow_off hr h4) h4.under).trans h4, q1⟩
  intro e he
  refine ⟨irow_off hr (h3.box e he).1, fun k k1 k2 hk => ?_⟩
  have g1 := (hr.lt k hk).1
  have g2 := H17 k hk
  simp only [List.mem_cons, List.not_mem_nil, or_false] at he
  rcases he with rfl | rfl | rfl
  · simp only at k1; omega
  · simp only at k2; omega
  · simp only at k2; omega
theorem houses_lay {wn : World} {v' : Value}
    (Q : Dvs [⟨gz, cz, Y2, zb, zt⟩, ⟨gx, cx, X, bx, tx⟩, ⟨gd, cd, d, bd, td⟩] w wn ∧ Boxed wn gy cy 26 ∧ IRow bs wn v' seen)
    (h17 : gy < zb) (h1 : (tx ≤ gy ∧ td ≤ gy) ∧ (gx < gy ∧ gd < gy) ∧ w.heap.size ≤ gy ∧ (tx ≤ bs ∧ td ≤ bs) ∧ w.heap.size ≤ bs ∧ bs ≤ gy) :
    Dvs [⟨gy, cz, Y2, zb, zt⟩, ⟨gx, cx, X, bx, tx⟩, ⟨gd, cd, d, bd, td⟩] w (wn.setRow gy cz) ∧ IRow bs (wn.setRow gy cz) v' seen := by
  refine ⟨(Q.1.sub (M := [⟨gx, cx, X, bx, tx⟩, ⟨gd, cd, d, bd, td⟩]) (fun e he => List.mem_cons_of_mem _ he)).lay Q.2.1 h1.2.2.1 ?_ (Q.1.mem 0 rfl) (.inr h17) (Q.1.top 0 rfl), irow_put Q.2.2 Q.2.1⟩
  intro e he
  simp only [List.mem_cons, List.not_mem_nil, or_false] at he
  rcases he with rfl | rfl
  · exact ⟨by simp only; omega, .inl h1.1.1⟩
  · exact ⟨by simp only; omega, .inl h1.1.2⟩
end
end Go.Proofs.Ytojmghnbekneiaa
