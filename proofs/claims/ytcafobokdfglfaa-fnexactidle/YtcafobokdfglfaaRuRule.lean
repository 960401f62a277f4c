/-
  Right rules as plain data, and the model's way to tell one. By the verifier.
-/
import Derived.Test.YtcafobokdfglfaaRuPlain
import Derived.Test.YtcafobokdfglfaaRtNet
namespace Go.Proofs.Ytcafobokdfglfaa
open Go.RowKit

/-- A right rule. -/
def Ru.ok (r : Ru) : Bool := inB 1 999 r.id && (inB 0 99 r.prio && (netB r.snet r.sbits && (netB r.dnet r.dbits && (inB (-1) 255 r.proto && (inB 0 65535 r.high && (inB 0 r.high r.low && inB 0 15 r.cls))))))

set_option maxHeartbeats 3200000 in
set_option maxRecDepth 100000 in
theorem specRule (r : Ru) (w : World) :
    Calls Try.prog 32 #[r.val] w fun e w' => e = .returned (.bool r.ok) ∧ w' = w.alloc (.cells r.cells.toArray 36) := by
  have Hok : Hid (r.ok = (inB 1 999 r.id && (inB 0 99 r.prio && (netB r.snet r.sbits && (netB r.dnet r.dbits && (inB (-1) 255 r.proto && (inB 0 65535 r.high && (inB 0 r.high r.low && inB 0 15 r.cls)))))))) := rfl
  obtain ⟨i, p, sn, sb, dn, db, pr, lo, hi, cl⟩ := r
  generalize Ru.ok _ = ok at Hok ⊢
  simp only [Ru.val, Ru.cells] at Hok ⊢
  have A1 := fun w => specIn i 1 999 w
  have A2 := fun w => specIn p 0 99 w
  have A3 := fun w => specNet sn sb w
  have A4 := fun w => specNet dn db w
  have A5 := fun w => specIn pr (-1) 255 w
  have A6 := fun w => specIn hi 0 65535 w
  have A7 := fun w => specIn lo 0 hi w
  have A8 := fun w => specIn cl 0 15 w
  generalize inB 1 999 i = b1 at A1 Hok
  generalize inB 0 99 p = b2 at A2 Hok
  generalize netB sn sb = b3 at A3 Hok
  generalize netB dn db = b4 at A4 Hok
  generalize inB (-1) 255 pr = b5 at A5 Hok
  generalize inB 0 65535 hi = b6 at A6 Hok
  generalize inB 0 hi lo = b7 at A7 Hok
  generalize inB 0 15 cl = b8 at A8 Hok
  have A1' : Hid _ := A1
  have A2' : Hid _ := A2
  have A3' : Hid _ := A3
  have A4' : Hid _ := A4
  have A5' : Hid _ := A5
  have A6' : Hid _ := A6
  have A7' : Hid _ := A7
  have A8' : Hid _ := A8
  clear A1 A2 A3 A4 A5 A6 A7 A8
  go_enter Try.func32, Try.ntmps32
  go_wp2_with fail
  refine (A1'.out _).mono ?_
  rintro e w' ⟨rfl, rfl⟩
  cases b1
  · go_wp2
    go_ret
    exact ⟨ret_bool (by rw [Hok.out]; rfl), rfl⟩
  go_wp2_with fail
  refine (A2'.out _).mono ?_
  rintro e w' ⟨rfl, rfl⟩
  cases b2
  · go_wp2
    go_ret
    exact ⟨ret_bool (by rw [Hok.out]; rfl), rfl⟩
  go_wp2_with fail
  refine (A3'.out _).mono ?_
  rintro e w' ⟨rfl, rfl⟩
  cases b3
  · go_wp2
    go_ret
    exact ⟨ret_bool (by rw [Hok.out]; rfl), rfl⟩
  go_wp2_with fail
  refine (A4'.out _).mono ?_
  rintro e w' ⟨rfl, rfl⟩
  cases b4
  · go_wp2
    go_ret
    exact ⟨ret_bool (by rw [Hok.out]; rfl), rfl⟩
  go_wp2_with fail
  refine (A5'.out _).mono ?_
  rintro e w' ⟨rfl, rfl⟩
  cases b5
  · go_wp2
    go_ret
    exact ⟨ret_bool (by rw [Hok.out]; rfl), rfl⟩
  go_wp2_with fail
  refine (A6'.out _).mono ?_
  rintro e w' ⟨rfl, rfl⟩
  cases b6
  · go_wp2
    go_ret
    exact ⟨ret_bool (by rw [Hok.out]; rfl), rfl⟩
  go_wp2_with fail
  refine (A7'.out _).mono ?_
  rintro e w' ⟨rfl, rfl⟩
  cases b7
  · go_wp2
    go_ret
    exact ⟨ret_bool (by rw [Hok.out]; rfl), rfl⟩
  go_wp2_with fail
  refine (A8'.out _).mono ?_
  rintro e w' ⟨rfl, rfl⟩
  go_wp2
  go_ret
  exact ⟨ret_bool (by rw [Hok.out]; rfl), rfl⟩
end Go.Proofs.Ytcafobokdfglfaa
