/-
  The walk of the law of frames. By the verifier.
-/
import Derived.Test.YtddjflaceokoaaaDoorDrawSh
import Derived.Test.YtddjflaceokoaaaDoorDrawRd
import Derived.Test.YtddjflaceokoaaaDoorFrSize
import Derived.Test.YtddjflaceokoaaaDoorRdRead
import Derived.Test.YtddjflaceokoaaaDoorRdShort
import Derived.Test.YtddjflaceokoaaaDoorPick
import Derived.Test.YtddjflaceokoaaaDoorLike
import Derived.Test.YtddjflaceokoaaaDoorQuiet
import Derived.Test.YtddjflaceokoaaaDoorLie
import Derived.BigQuiet
import Derived.Laws.Closers25b
import Derived.Deep.DeepCutAuto
namespace Go.Proofs.YtddjflaceokoaaaDoor
open Go.RowKit

theorem tail_cases (text : ByteArray) (dest frm : Int) (T : List Int) (p : Nat) : (sTail text dest frm T p).2 = 0 ∨ (1 ≤ (sTail text dest frm T p).2 ∧ (sTail text dest frm T p).2 ≤ 6 ∧ (sTail text dest frm T p).1 = noFr) := by
  unfold sTail
  repeat' split
  all_goals simp
theorem kind_cases (text : ByteArray) (dest frm : Int) : ∀ (k p : Nat) (T : List Int), (sKind text dest frm k p T).2 = 0 ∨ (1 ≤ (sKind text dest frm k p T).2 ∧ (sKind text dest frm k p T).2 ≤ 6 ∧ (sKind text dest frm k p T).1 = noFr) := by
  intro k
  induction k with
  | zero =>
    intro p T
    unfold sKind
    split
    · simp
    · split
      · exact tail_cases _ _ _ _ _
      · split <;> simp
  | succ k ih =>
    intro p T
    unfold sKind
    split
    · simp
    · split
      · exact tail_cases _ _ _ _ _
      · split
        · simp
        · split
          · simp
          · split
            · simp
            · exact ih _ _
theorem run_cases (text : ByteArray) : (sRun text).2 = 0 ∨ (1 ≤ (sRun text).2 ∧ (sRun text).2 ≤ 6 ∧ (sRun text).1 = noFr) := by
  unfold sRun
  split
  · simp
  · exact kind_cases _ _ _ _ _ _
theorem run_tags (text : ByteArray) : (sRun text).1.tags.length ≤ 3 := by
  rcases run_cases text with h | h
  · have := (run_back text (sRun text).1 (by rw [← h])).1.2.2.1
    omega
  · rw [h.2.2]; simp [noFr]
theorem more_read (f : Fr) (ok : f.Ok) : sRun (f.show ++ ⟨#[120]⟩) = (noFr, 6) := by
  rw [run_shown (f.show ++ ⟨#[120]⟩) f ok [120] (by rw [ByteArray.data_append, Array.toList_append, show_bytes f ok, List.append_assoc]), if_neg (by simp)]
theorem less_read (f : Fr) (ok : f.Ok) (m : Nat) (hm : m < f.show.size) : sRun (f.show.extract 0 m) = (noFr, 1) := by
  have e : f.show.size = (f.head.map u8 ++ f.body.data.toList).length := by rw [← show_bytes f ok, Array.length_toList]; rfl
  refine run_short _ f ok m (by rw [← e]; exact hm) ?_
  rw [← show_bytes f ok, ByteArray.data_extract, Array.toList_extract]
  simp

set_option maxHeartbeats 12800000 in
set_option maxRecDepth 100000 in
theorem fnFrames_walk {es em : Addr} (a : Option Addr) (len cap : Nat) (w : World) (G : Hid (Gl es em w))
    (hcode : ∀ k, k < len → ∃ b off z, a = some ⟨b, off, none⟩ ∧ b < w.heap.size ∧ w.cell? ⟨b, off + k, none⟩ = some (.int .u8 z) ∧ 0 ≤ z ∧ z ≤ 255) :
    Calls Tryd.prog 3 #[.slice a len cap] w fun e w' => e = .returned (.bool true) ∧ Below w.heap.size w w' := by
  by_cases hbig : 4096 < len
  · clear hcode
    go_enter Tryd.func3, Tryd.ntmps3
    go_wp2
    go_ret
    exact ⟨rfl, Below.refl _ _⟩
  have hc : Hid (Code w a len) := ⟨by omega, hcode⟩
  have hb : Hid (Below w.heap.size w w) := Below.refl _ _
  clear hcode
  go_enter Tryd.func3, Tryd.ntmps3
  go_wp2_with (go_at_call 5; go_in)
  refine (drawShowFrame hc _ hb).mono ?_
  rintro e w1 ⟨⟨F, a3, c3, rfl, hT, hB, row⟩, b1⟩
  have K1 : Hid (Lie w [] [(a3, F.tags)] w1) := Lie.tags (bs := []) (ts := []) ⟨(fun p hp => by cases hp), (fun p hp => by cases hp), b1⟩ a3 F.tags row.ints
  clear row b1 hb
  have SI := fun w h => implShow F a3 c3 w (by omega) h
  have SS := fun w h => specShow F a3 c3 w (by omega) h
  have OI := fun w h => implFrameOk F a3 c3 w (by omega) h
  have OS := fun w h => specFrameOk F a3 c3 w (by omega) h
  have ZI := fun w h => implHeadSize F a3 c3 w (by omega) h
  have ZS := fun w h => specHeadSize F a3 c3 w (by omega) h
  have LF := fun a1 a2 c1 c2 w h1 h2 => likeFrames F a1 a2 c1 c2 w (by omega) h1 h2
  have R0 : F.ok = true → sRun F.show = (F, 0) := fun h => show_read F (Fr.ok_true.1 h)
  have R1 : F.ok = true → sRun (F.show ++ ⟨#[120]⟩) = (noFr, 6) := fun h => more_read F (Fr.ok_true.1 h)
  have R2 : F.ok = true → ∀ m, m < F.show.size → sRun (F.show.extract 0 m) = (noFr, 1) := fun h m hm => less_read F (Fr.ok_true.1 h) m hm
  have R3 : F.ok = true → F.headSize + F.body.size = F.show.size ∧ 23 ≤ F.show.size := fun h => by
    rw [show_size F (Fr.ok_true.1 h), Fr.headSize, if_pos h]
    omega
  have R4 : F.ok = false → F.show = ⟨#[]⟩ ∧ F.headSize = 0 := fun h => ⟨Fr.show_no h, by rw [Fr.headSize, if_neg (by rw [h]; simp)]⟩
  have hsz := (show_bound hT hB).1
  generalize F.show = s at SI SS R0 R1 R2 R3 R4 hsz
  generalize F.ok = ok at OI OS R0 R1 R2 R3 R4
  generalize F.headSize = hd at ZI ZS R3 R4
  have RF : Hid (ok = true → ∀ w1, Gl es em w1 → Calls Tryd.prog 9 #[.string s] w1 (fun e w' => ∃ a cap, e = .returned (.tuple #[F.val a cap, .int .i64 0]) ∧ IRow w1.heap.size w' (.slice a F.tags.length cap) F.tags ∧ Below w1.heap.size w1 w')) := by
    show ok = true → _
    intro h w1 g
    have q := implRead s (by omega) w1 g
    unfold RdPost at q
    rw [read_eq, R0 h] at q
    exact q
  have RN : ∀ (u : ByteArray) (c : Int), u.size ≤ 5000 → sRun u = (noFr, c) → ∀ w1, Gl es em w1 → Calls Tryd.prog 9 #[.string u] w1 (fun e w' => ∃ a cap, e = .returned (.tuple #[noFr.val a cap, .int .i64 c]) ∧ Below w1.heap.size w1 w') := by
    intro u c hu h w1 g
    have q := implRead u (by omega) w1 g
    unfold RdPost at q
    rw [read_eq, h] at q
    exact q.mono fun e w' ⟨a, cap, h1, _, h3⟩ => ⟨a, cap, h1, h3⟩
  have Frow : Hid (∀ b w a c, IRow b w (.slice a F.tags.length c) F.tags → IntsAt w a F.tags) := fun b w a c h => h.ints
  obtain ⟨f0, f1, ft, f3, f4, f5, f6, f7, f8, f9, fb⟩ := F
  simp only [Fr.val, noFr, List.length_nil] at SI SS OI OS ZI ZS LF RF RN R3 hT hB K1 Frow ⊢
  obtain ⟨nf, hnf⟩ : ∃ n, ft.length = n := ⟨_, rfl⟩
  simp only [hnf] at SI SS OI OS ZI ZS LF RF Frow hT ⊢
  have SI' : Hid _ := SI
  have SS' : Hid _ := SS
  have OI' : Hid _ := OI
  have OS' : Hid _ := OS
  have ZI' : Hid _ := ZI
  have ZS' : Hid _ := ZS
  have LF' : Hid _ := LF
  have RN' : Hid _ := RN
  have R1' : Hid _ := R1
  have R2' : Hid _ := R2
  have R3' : Hid _ := R3
  have R4' : Hid _ := R4
  clear SI SS OI OS ZI ZS LF RN R0 R1 R2 R3 R4 hnf
  go_wp2_with fail
  have K2 : Hid (Lie w [(w1.heap.size, #[.int .i64 f0, .int .i64 f1, .slice a3 nf c3, .int .i64 f3, .int .i64 f4, .int .i64 f5, .int .i64 f6, .int .i64 f7, .int .i64 f8, .int .i64 f9, .string fb])] [(a3, ft)] (w1.alloc (.cells #[.int .i64 f0, .int .i64 f1, .slice a3 nf c3, .int .i64 f3, .int .i64 f4, .int .i64 f5, .int .i64 f6, .int .i64 f7, .int .i64 f8, .int .i64 f9, .string fb] 26))) := K1.out.box _
  refine (SI'.out _ (K2.out.ints (a3, ft) (by simp))).mono ?_
  rintro e w3 ⟨rfl, b3⟩
  have K3 : Hid (Lie w [(w1.heap.size, #[.int .i64 f0, .int .i64 f1, .slice a3 nf c3, .int .i64 f3, .int .i64 f4, .int .i64 f5, .int .i64 f6, .int .i64 f7, .int .i64 f8, .int .i64 f9, .string fb])] [(a3, ft)] w3) := K2.out.below b3
  clear b3 K2 K1
  generalize w1.heap.size = B3 at K3 ⊢
  go_wp2_with fail
  refine (drawReadFrame hc _ K3.out.2.2).mono ?_
  rintro e w4 ⟨⟨t, rfl, ht⟩, b4⟩
  have K4 : Hid (Lie w [(B3, #[.int .i64 f0, .int .i64 f1, .slice a3 nf c3, .int .i64 f3, .int .i64 f4, .int .i64 f5, .int .i64 f6, .int .i64 f7, .int .i64 f8, .int .i64 f9, .string fb])] [(a3, ft)] w4) := K3.out.below b4
  clear b4 K3
  have TI : ∀ w1, Gl es em w1 → Calls Tryd.prog 9 #[.string t] w1 (fun e w' => ∃ a cap, e = .returned (.tuple #[(sRun t).1.val a cap, .int .i64 (sRun t).2]) ∧ IRow w1.heap.size w' (.slice a (sRun t).1.tags.length cap) (sRun t).1.tags ∧ Below w1.heap.size w1 w') := fun w1 g => by
    rw [← read_eq]
    exact implRead t (by omega) w1 g
  have TS : ∀ w1, Calls Tryd.prog 10 #[.string t] w1 (fun e w' => ∃ a cap, e = .returned (.tuple #[(sRun t).1.val a cap, .int .i64 (sRun t).2]) ∧ IRow w1.heap.size w' (.slice a (sRun t).1.tags.length cap) (sRun t).1.tags ∧ Below w1.heap.size w1 w') := fun w1 => specRead t (by omega) w1
  have hx := run_tags t
  have V0 : (sRun t).2 = 0 → (sRun t).1.show = t := fun h => back_show t _ (by rw [← h])
  have V1 := run_cases t
  obtain ⟨X, hX⟩ : ∃ X, (sRun t).1 = X := ⟨_, rfl⟩
  generalize (sRun t).2 = kd at TI TS V0 V1
  rw [hX] at TI TS hx V0 V1
  clear hX
  have LX := fun a1 a2 c1 c2 w h1 h2 => likeFrames X a1 a2 c1 c2 w (by omega) h1 h2
  have XS := fun a c w h => implShow X a c w (by omega) h
  generalize X.show = xs at XS V0
  have Xrow : Hid (∀ b w a c, IRow b w (.slice a X.tags.length c) X.tags → IntsAt w a X.tags) := fun b w a c h => h.ints
  obtain ⟨x0, x1, xt, x3, x4, x5, x6, x7, x8, x9, xb⟩ := X
  simp only [Fr.val] at TI TS LX XS Xrow hx
  obtain ⟨nx, hnx⟩ : ∃ n, xt.length = n := ⟨_, rfl⟩
  have Hnx : Hid (xt.length = nx) := hnx
  simp only [hnx] at TI TS LX XS Xrow hx
  have TI' : Hid _ := TI
  have TS' : Hid _ := TS
  have LX' : Hid _ := LX
  have XS' : Hid _ := XS
  have V0' : Hid _ := V0
  have V1' : Hid _ := V1
  clear TI TS LX XS V0 V1 hnx
  go_wp2_with fail
  refine (TI'.out _ (G.out.below K4.out.2.2)).mono ?_
  rintro e w5 ⟨a6, c6, rfl, row, b5⟩
  have K5 : Hid (Lie w [(B3, #[.int .i64 f0, .int .i64 f1, .slice a3 nf c3, .int .i64 f3, .int .i64 f4, .int .i64 f5, .int .i64 f6, .int .i64 f7, .int .i64 f8, .int .i64 f9, .string fb])] [(a6, xt), (a3, ft)] w5) := (K4.out.below b5).tags a6 xt (Xrow.out _ _ _ _ row)
  clear row b5 K4 TI'
  go_wp2_with fail
  have K6 : Hid (Lie w [(w5.heap.size, #[.int .i64 x0, .int .i64 x1, .slice a6 nx c6, .int .i64 x3, .int .i64 x4, .int .i64 x5, .int .i64 x6, .int .i64 x7, .int .i64 x8, .int .i64 x9, .string xb]), (B3, #[.int .i64 f0, .int .i64 f1, .slice a3 nf c3, .int .i64 f3, .int .i64 f4, .int .i64 f5, .int .i64 f6, .int .i64 f7, .int .i64 f8, .int .i64 f9, .string fb])] [(a6, xt), (a3, ft)] (w5.alloc (.cells #[.int .i64 x0, .int .i64 x1, .slice a6 nx c6, .int .i64 x3, .int .i64 x4, .int .i64 x5, .int .i64 x6, .int .i64 x7, .int .i64 x8, .int .i64 x9, .string xb] 26))) := K5.out.box _
  obtain ⟨w6, hw6⟩ : ∃ w6, w6 = w5.alloc (.cells #[.int .i64 x0, .int .i64 x1, .slice a6 nx c6, .int .i64 x3, .int .i64 x4, .int .i64 x5, .int .i64 x6, .int .i64 x7, .int .i64 x8, .int .i64 x9, .string xb] 26) := ⟨_, rfl⟩
  rw [← hw6] at K6 ⊢
  generalize w5.heap.size = B6 at K6 ⊢
  clear hw6 K5
  refine (TS'.out _).mono ?_
  rintro e w7 ⟨a8, c8, rfl, row, b7⟩
  have K7 : Hid (Lie w [(B6, #[.int .i64 x0, .int .i64 x1, .slice a6 nx c6, .int .i64 x3, .int .i64 x4, .int .i64 x5, .int .i64 x6, .int .i64 x7, .int .i64 x8, .int .i64 x9, .string xb]), (B3, #[.int .i64 f0, .int .i64 f1, .slice a3 nf c3, .int .i64 f3, .int .i64 f4, .int .i64 f5, .int .i64 f6, .int .i64 f7, .int .i64 f8, .int .i64 f9, .string fb])] [(a8, xt), (a6, xt), (a3, ft)] w7) := (K6.out.below b7).tags a8 xt (Xrow.out _ _ _ _ row)
  clear row b7 K6 TS' Xrow
  go_wp2_with fail
  have K8 : Hid (Lie w [(w7.heap.size, #[.int .i64 x0, .int .i64 x1, .slice a8 nx c8, .int .i64 x3, .int .i64 x4, .int .i64 x5, .int .i64 x6, .int .i64 x7, .int .i64 x8, .int .i64 x9, .string xb]), (B6, #[.int .i64 x0, .int .i64 x1, .slice a6 nx c6, .int .i64 x3, .int .i64 x4, .int .i64 x5, .int .i64 x6, .int .i64 x7, .int .i64 x8, .int .i64 x9, .string xb]), (B3, #[.int .i64 f0, .int .i64 f1, .slice a3 nf c3, .int .i64 f3, .int .i64 f4, .int .i64 f5, .int .i64 f6, .int .i64 f7, .int .i64 f8, .int .i64 f9, .string fb])] [(a8, xt), (a6, xt), (a3, ft)] (w7.alloc (.cells #[.int .i64 x0, .int .i64 x1, .slice a8 nx c8, .int .i64 x3, .int .i64 x4, .int .i64 x5, .int .i64 x6, .int .i64 x7, .int .i64 x8, .int .i64 x9, .string xb] 26))) := K7.out.box _
  obtain ⟨w8, hw8⟩ : ∃ w8, w8 = w7.alloc (.cells #[.int .i64 x0, .int .i64 x1, .slice a8 nx c8, .int .i64 x3, .int .i64 x4, .int .i64 x5, .int .i64 x6, .int .i64 x7, .int .i64 x8, .int .i64 x9, .string xb] 26) := ⟨_, rfl⟩
  rw [← hw8] at K8 ⊢
  generalize w7.heap.size = B8 at K8 ⊢
  clear hw8 K7
  have YB6 : Hid (Boxed w8 B6 #[.int .i64 x0, .int .i64 x1, .slice a6 nx c6, .int .i64 x3, .int .i64 x4, .int .i64 x5, .int .i64 x6, .int .i64 x7, .int .i64 x8, .int .i64 x9, .string xb] 26) := K8.out.boxed (B6, #[.int .i64 x0, .int .i64 x1, .slice a6 nx c6, .int .i64 x3, .int .i64 x4, .int .i64 x5, .int .i64 x6, .int .i64 x7, .int .i64 x8, .int .i64 x9, .string xb]) (by simp)
  have u0 : ∀ p : BelW w8.heap.size w8, p.w'.cell? ⟨B6, 0, none⟩ = some (.int .i64 x0) := fun p => (YB6.out.below YB6.out.under p.h).cell 0 rfl
  have u1 : ∀ p : BelW w8.heap.size w8, p.w'.cell? ⟨B6, 1, none⟩ = some (.int .i64 x1) := fun p => (YB6.out.below YB6.out.under p.h).cell 1 rfl
  have u2 : ∀ p : BelW w8.heap.size w8, p.w'.cell? ⟨B6, 2, none⟩ = some (.slice a6 nx c6) := fun p => (YB6.out.below YB6.out.under p.h).cell 2 rfl
  have u3 : ∀ p : BelW w8.heap.size w8, p.w'.cell? ⟨B6, 3, none⟩ = some (.int .i64 x3) := fun p => (YB6.out.below YB6.out.under p.h).cell 3 rfl
  have u4 : ∀ p : BelW w8.heap.size w8, p.w'.cell? ⟨B6, 4, none⟩ = some (.int .i64 x4) := fun p => (YB6.out.below YB6.out.under p.h).cell 4 rfl
  have u5 : ∀ p : BelW w8.heap.size w8, p.w'.cell? ⟨B6, 5, none⟩ = some (.int .i64 x5) := fun p => (YB6.out.below YB6.out.under p.h).cell 5 rfl
  have u6 : ∀ p : BelW w8.heap.size w8, p.w'.cell? ⟨B6, 6, none⟩ = some (.int .i64 x6) := fun p => (YB6.out.below YB6.out.under p.h).cell 6 rfl
  have u7 : ∀ p : BelW w8.heap.size w8, p.w'.cell? ⟨B6, 7, none⟩ = some (.int .i64 x7) := fun p => (YB6.out.below YB6.out.under p.h).cell 7 rfl
  have u8 : ∀ p : BelW w8.heap.size w8, p.w'.cell? ⟨B6, 8, none⟩ = some (.int .i64 x8) := fun p => (YB6.out.below YB6.out.under p.h).cell 8 rfl
  have u9 : ∀ p : BelW w8.heap.size w8, p.w'.cell? ⟨B6, 9, none⟩ = some (.int .i64 x9) := fun p => (YB6.out.below YB6.out.under p.h).cell 9 rfl
  have u10 : ∀ p : BelW w8.heap.size w8, p.w'.cell? ⟨B6, 10, none⟩ = some (.string xb) := fun p => (YB6.out.below YB6.out.under p.h).cell 10 rfl
  clear YB6
  have YB8 : Hid (Boxed w8 B8 #[.int .i64 x0, .int .i64 x1, .slice a8 nx c8, .int .i64 x3, .int .i64 x4, .int .i64 x5, .int .i64 x6, .int .i64 x7, .int .i64 x8, .int .i64 x9, .string xb] 26) := K8.out.boxed (B8, #[.int .i64 x0, .int .i64 x1, .slice a8 nx c8, .int .i64 x3, .int .i64 x4, .int .i64 x5, .int .i64 x6, .int .i64 x7, .int .i64 x8, .int .i64 x9, .string xb]) (by simp)
  have v0 : ∀ p : BelW w8.heap.size w8, p.w'.cell? ⟨B8, 0, none⟩ = some (.int .i64 x0) := fun p => (YB8.out.below YB8.out.under p.h).cell 0 rfl
  have v1 : ∀ p : BelW w8.heap.size w8, p.w'.cell? ⟨B8, 1, none⟩ = some (.int .i64 x1) := fun p => (YB8.out.below YB8.out.under p.h).cell 1 rfl
  have v2 : ∀ p : BelW w8.heap.size w8, p.w'.cell? ⟨B8, 2, none⟩ = some (.slice a8 nx c8) := fun p => (YB8.out.below YB8.out.under p.h).cell 2 rfl
  have v3 : ∀ p : BelW w8.heap.size w8, p.w'.cell? ⟨B8, 3, none⟩ = some (.int .i64 x3) := fun p => (YB8.out.below YB8.out.under p.h).cell 3 rfl
  have v4 : ∀ p : BelW w8.heap.size w8, p.w'.cell? ⟨B8, 4, none⟩ = some (.int .i64 x4) := fun p => (YB8.out.below YB8.out.under p.h).cell 4 rfl
  have v5 : ∀ p : BelW w8.heap.size w8, p.w'.cell? ⟨B8, 5, none⟩ = some (.int .i64 x5) := fun p => (YB8.out.below YB8.out.under p.h).cell 5 rfl
  have v6 : ∀ p : BelW w8.heap.size w8, p.w'.cell? ⟨B8, 6, none⟩ = some (.int .i64 x6) := fun p => (YB8.out.below YB8.out.under p.h).cell 6 rfl
  have v7 : ∀ p : BelW w8.heap.size w8, p.w'.cell? ⟨B8, 7, none⟩ = some (.int .i64 x7) := fun p => (YB8.out.below YB8.out.under p.h).cell 7 rfl
  have v8 : ∀ p : BelW w8.heap.size w8, p.w'.cell? ⟨B8, 8, none⟩ = some (.int .i64 x8) := fun p => (YB8.out.below YB8.out.under p.h).cell 8 rfl
  have v9 : ∀ p : BelW w8.heap.size w8, p.w'.cell? ⟨B8, 9, none⟩ = some (.int .i64 x9) := fun p => (YB8.out.below YB8.out.under p.h).cell 9 rfl
  have v10 : ∀ p : BelW w8.heap.size w8, p.w'.cell? ⟨B8, 10, none⟩ = some (.string xb) := fun p => (YB8.out.below YB8.out.under p.h).cell 10 rfl
  clear YB8
  have YB3 : Hid (Boxed w8 B3 #[.int .i64 f0, .int .i64 f1, .slice a3 nf c3, .int .i64 f3, .int .i64 f4, .int .i64 f5, .int .i64 f6, .int .i64 f7, .int .i64 f8, .int .i64 f9, .string fb] 26) := K8.out.boxed (B3, #[.int .i64 f0, .int .i64 f1, .slice a3 nf c3, .int .i64 f3, .int .i64 f4, .int .i64 f5, .int .i64 f6, .int .i64 f7, .int .i64 f8, .int .i64 f9, .string fb]) (by simp)
  have y0 : ∀ p : BelW w8.heap.size w8, p.w'.cell? ⟨B3, 0, none⟩ = some (.int .i64 f0) := fun p => (YB3.out.below YB3.out.under p.h).cell 0 rfl
  have y1 : ∀ p : BelW w8.heap.size w8, p.w'.cell? ⟨B3, 1, none⟩ = some (.int .i64 f1) := fun p => (YB3.out.below YB3.out.under p.h).cell 1 rfl
  have y2 : ∀ p : BelW w8.heap.size w8, p.w'.cell? ⟨B3, 2, none⟩ = some (.slice a3 nf c3) := fun p => (YB3.out.below YB3.out.under p.h).cell 2 rfl
  have y3 : ∀ p : BelW w8.heap.size w8, p.w'.cell? ⟨B3, 3, none⟩ = some (.int .i64 f3) := fun p => (YB3.out.below YB3.out.under p.h).cell 3 rfl
  have y4 : ∀ p : BelW w8.heap.size w8, p.w'.cell? ⟨B3, 4, none⟩ = some (.int .i64 f4) := fun p => (YB3.out.below YB3.out.under p.h).cell 4 rfl
  have y5 : ∀ p : BelW w8.heap.size w8, p.w'.cell? ⟨B3, 5, none⟩ = some (.int .i64 f5) := fun p => (YB3.out.below YB3.out.under p.h).cell 5 rfl
  have y6 : ∀ p : BelW w8.heap.size w8, p.w'.cell? ⟨B3, 6, none⟩ = some (.int .i64 f6) := fun p => (YB3.out.below YB3.out.under p.h).cell 6 rfl
  have y7 : ∀ p : BelW w8.heap.size w8, p.w'.cell? ⟨B3, 7, none⟩ = some (.int .i64 f7) := fun p => (YB3.out.below YB3.out.under p.h).cell 7 rfl
  have y8 : ∀ p : BelW w8.heap.size w8, p.w'.cell? ⟨B3, 8, none⟩ = some (.int .i64 f8) := fun p => (YB3.out.below YB3.out.under p.h).cell 8 rfl
  have y9 : ∀ p : BelW w8.heap.size w8, p.w'.cell? ⟨B3, 9, none⟩ = some (.int .i64 f9) := fun p => (YB3.out.below YB3.out.under p.h).cell 9 rfl
  have y10 : ∀ p : BelW w8.heap.size w8, p.w'.cell? ⟨B3, 10, none⟩ = some (.string fb) := fun p => (YB3.out.below YB3.out.under p.h).cell 10 rfl
  clear YB3
  haveI : Nonempty (BelW w8.heap.size w8) := ⟨⟨w8, Below.refl _ _⟩⟩
  have Q1 := fun p : BelW w8.heap.size w8 => LX'.out a6 a8 c6 c8 p.w' ((K8.out.ints (a6, xt) (by simp)).below p.h) ((K8.out.ints (a8, xt) (by simp)).below p.h)
  have Q2 := fun p : BelW w8.heap.size w8 => SS'.out p.w' ((K8.out.ints (a3, ft) (by simp)).below p.h)
  have Q3 := fun p : BelW w8.heap.size w8 => OI'.out p.w' ((K8.out.ints (a3, ft) (by simp)).below p.h)
  have Q4 := fun p : BelW w8.heap.size w8 => OS'.out p.w' ((K8.out.ints (a3, ft) (by simp)).below p.h)
  have Q5 := fun p : BelW w8.heap.size w8 => ZI'.out p.w' ((K8.out.ints (a3, ft) (by simp)).below p.h)
  have Q6 := fun p : BelW w8.heap.size w8 => ZS'.out p.w' ((K8.out.ints (a3, ft) (by simp)).below p.h)
  have Q1' : Hid _ := Q1
  have Q2' : Hid _ := Q2
  have Q3' : Hid _ := Q3
  have Q4' : Hid _ := Q4
  have Q5' : Hid _ := Q5
  have Q6' : Hid _ := Q6
  clear Q1 Q2 Q3 Q4 Q5 Q6
  refine region_below w8.heap.size (by kernel_rfl) (by kernel_rfl) ?_
  repeat (go_big_quiet_step ((first | (go_at_call 11; refine quiet_below (Nat.le_refl _) (Q1'.out _)) | (go_at_call 12; refine quiet_below (Nat.le_refl _) (Q2'.out _)) | (go_at_call 13; refine quiet_below (Nat.le_refl _) (Q3'.out _)) | (go_at_call 14; refine quiet_below (Nat.le_refl _) (Q4'.out _)) | (go_at_call 15; refine quiet_below (Nat.le_refl _) (Q5'.out _)) | (go_at_call 16; refine quiet_below (Nat.le_refl _) (Q6'.out _)))))
  refine wpQuiet_nil ?_
  intro wq hx
  have hq := BelW.out hx
  have K9 : Hid (Lie w [(B6, #[.int .i64 x0, .int .i64 x1, .slice a6 nx c6, .int .i64 x3, .int .i64 x4, .int .i64 x5, .int .i64 x6, .int .i64 x7, .int .i64 x8, .int .i64 x9, .string xb]), (B3, #[.int .i64 f0, .int .i64 f1, .slice a3 nf c3, .int .i64 f3, .int .i64 f4, .int .i64 f5, .int .i64 f6, .int .i64 f7, .int .i64 f8, .int .i64 f9, .string fb])] [(a6, xt), (a3, ft)] wq) := by
    have q := K8.out.below hq
    exact ⟨fun p hp => q.1 p (List.mem_cons_of_mem _ hp), fun p hp => q.2.1 p (List.mem_cons_of_mem _ hp), q.2.2⟩
  clear hx hq K8 u0 u1 u2 u3 u4 u5 u6 u7 u8 u9 u10 v0 v1 v2 v3 v4 v5 v6 v7 v8 v9 v10 y0 y1 y2 y3 y4 y5 y6 y7 y8 y9 y10 Q1' Q2' Q3' Q4' Q5' Q6' SS' OS' ZS'
  go_upto_region 10 with fail
  go_cut [88] (fun s wc => Hid (s = .bool false ∧ Lie w [(B3, #[.int .i64 f0, .int .i64 f1, .slice a3 nf c3, .int .i64 f3, .int .i64 f4, .int .i64 f5, .int .i64 f6, .int .i64 f7, .int .i64 f8, .int .i64 f9, .string fb])] [(a3, ft)] wc))
  case first =>
    have K9b : Hid (∀ wz, Below wq.heap.size wq wz → Lie w [(B3, #[.int .i64 f0, .int .i64 f1, .slice a3 nf c3, .int .i64 f3, .int .i64 f4, .int .i64 f5, .int .i64 f6, .int .i64 f7, .int .i64 f8, .int .i64 f9, .string fb])] [(a3, ft)] wz) := fun wz b => by
      have q := K9.out.below b
      exact ⟨fun p hp => q.1 p (List.mem_cons_of_mem _ hp), fun p hp => q.2.1 p (List.mem_cons_of_mem _ hp), q.2.2⟩
    rcases V1'.out with rfl | ⟨k1, k2, hX⟩
    · have e := V0'.out rfl
      subst e
      have YB6 : Hid (Boxed wq B6 #[.int .i64 x0, .int .i64 x1, .slice a6 nx c6, .int .i64 x3, .int .i64 x4, .int .i64 x5, .int .i64 x6, .int .i64 x7, .int .i64 x8, .int .i64 x9, .string xb] 26) := K9.out.boxed (B6, #[.int .i64 x0, .int .i64 x1, .slice a6 nx c6, .int .i64 x3, .int .i64 x4, .int .i64 x5, .int .i64 x6, .int .i64 x7, .int .i64 x8, .int .i64 x9, .string xb]) (by simp)
      have u0 : wq.cell? ⟨B6, 0, none⟩ = some (.int .i64 x0) := YB6.out.cell 0 rfl
      have u1 : wq.cell? ⟨B6, 1, none⟩ = some (.int .i64 x1) := YB6.out.cell 1 rfl
      have u2 : wq.cell? ⟨B6, 2, none⟩ = some (.slice a6 nx c6) := YB6.out.cell 2 rfl
      have u3 : wq.cell? ⟨B6, 3, none⟩ = some (.int .i64 x3) := YB6.out.cell 3 rfl
      have u4 : wq.cell? ⟨B6, 4, none⟩ = some (.int .i64 x4) := YB6.out.cell 4 rfl
      have u5 : wq.cell? ⟨B6, 5, none⟩ = some (.int .i64 x5) := YB6.out.cell 5 rfl
      have u6 : wq.cell? ⟨B6, 6, none⟩ = some (.int .i64 x6) := YB6.out.cell 6 rfl
      have u7 : wq.cell? ⟨B6, 7, none⟩ = some (.int .i64 x7) := YB6.out.cell 7 rfl
      have u8 : wq.cell? ⟨B6, 8, none⟩ = some (.int .i64 x8) := YB6.out.cell 8 rfl
      have u9 : wq.cell? ⟨B6, 9, none⟩ = some (.int .i64 x9) := YB6.out.cell 9 rfl
      have u10 : wq.cell? ⟨B6, 10, none⟩ = some (.string xb) := YB6.out.cell 10 rfl
      clear YB6
      have I6 : Hid (IntsAt wq a6 xt) := K9.out.ints (a6, xt) (by simp)
      go_wp2_with fail
      refine (XS'.out _ _ _ I6.out).mono ?_
      rintro e wz ⟨rfl, bz⟩
      have KA : Hid (Lie w [(B3, #[.int .i64 f0, .int .i64 f1, .slice a3 nf c3, .int .i64 f3, .int .i64 f4, .int .i64 f5, .int .i64 f6, .int .i64 f7, .int .i64 f8, .int .i64 f9, .string fb])] [(a3, ft)] wz) := K9b.out _ bz
      clear bz K9 K9b I6 u0 u1 u2 u3 u4 u5 u6 u7 u8 u9 u10
      go_wp2_with fail
      go_meet
      exact ⟨rfl, KA.out⟩
    · unfold noFr at hX
      cases hX
      have e := Hnx.out
      simp only [List.length_nil] at e
      subst e
      have k3 : ¬ kd = 0 := by omega
      have k4 : ¬ kd < 0 := by omega
      have k5 : ¬ 6 < kd := by omega
      have YB6 : Hid (Boxed wq B6 #[.int .i64 0, .int .i64 0, .slice a6 0 c6, .int .i64 0, .int .i64 0, .int .i64 0, .int .i64 0, .int .i64 0, .int .i64 0, .int .i64 0, .string ⟨#[]⟩] 26) := K9.out.boxed (B6, #[.int .i64 0, .int .i64 0, .slice a6 0 c6, .int .i64 0, .int .i64 0, .int .i64 0, .int .i64 0, .int .i64 0, .int .i64 0, .int .i64 0, .string ⟨#[]⟩]) (by simp)
      have u0 : wq.cell? ⟨B6, 0, none⟩ = some (.int .i64 0) := YB6.out.cell 0 rfl
      have u1 : wq.cell? ⟨B6, 1, none⟩ = some (.int .i64 0) := YB6.out.cell 1 rfl
      have u2 : wq.cell? ⟨B6, 2, none⟩ = some (.slice a6 0 c6) := YB6.out.cell 2 rfl
      have u3 : wq.cell? ⟨B6, 3, none⟩ = some (.int .i64 0) := YB6.out.cell 3 rfl
      have u4 : wq.cell? ⟨B6, 4, none⟩ = some (.int .i64 0) := YB6.out.cell 4 rfl
      have u5 : wq.cell? ⟨B6, 5, none⟩ = some (.int .i64 0) := YB6.out.cell 5 rfl
      have u6 : wq.cell? ⟨B6, 6, none⟩ = some (.int .i64 0) := YB6.out.cell 6 rfl
      have u7 : wq.cell? ⟨B6, 7, none⟩ = some (.int .i64 0) := YB6.out.cell 7 rfl
      have u8 : wq.cell? ⟨B6, 8, none⟩ = some (.int .i64 0) := YB6.out.cell 8 rfl
      have u9 : wq.cell? ⟨B6, 9, none⟩ = some (.int .i64 0) := YB6.out.cell 9 rfl
      have u10 : wq.cell? ⟨B6, 10, none⟩ = some (.string ⟨#[]⟩) := YB6.out.cell 10 rfl
      clear YB6
      have I6 : Hid (IntsAt wq a6 []) := IntsAt.nil _ _
      have I7 : Hid (IntsAt wq none []) := IntsAt.nil _ _
      go_wp2_with fail
      refine (LX'.out _ _ _ _ _ I6.out I7.out).mono ?_
      rintro e wz ⟨rfl, bz⟩
      have KA : Hid (Lie w [(B3, #[.int .i64 f0, .int .i64 f1, .slice a3 nf c3, .int .i64 f3, .int .i64 f4, .int .i64 f5, .int .i64 f6, .int .i64 f7, .int .i64 f8, .int .i64 f9, .string fb])] [(a3, ft)] wz) := K9b.out _ bz
      clear bz K9 K9b I6 I7 u0 u1 u2 u3 u4 u5 u6 u7 u8 u9 u10
      go_wp2_with fail
      go_meet
      exact ⟨by rw [decide_eq_false (show ¬ kd < 0 by omega), decide_eq_false (show ¬ 6 < kd by omega)]; rfl, KA.out⟩
  case rest =>
    obtain ⟨rfl, hK⟩ := hcut.out
    obtain ⟨wr, rfl⟩ : ∃ wr, wr = wc := ⟨_, rfl⟩
    have KA : Hid (Lie w [(B3, #[.int .i64 f0, .int .i64 f1, .slice a3 nf c3, .int .i64 f3, .int .i64 f4, .int .i64 f5, .int .i64 f6, .int .i64 f7, .int .i64 f8, .int .i64 f9, .string fb])] [(a3, ft)] wr) := hK
    clear hcut hK K9 V0' V1' LX' XS' Hnx
    cases ok
    · obtain ⟨e1, e2⟩ := R4'.out rfl
      subst e1
      subst e2
      have YB3 : Hid (Boxed wr B3 #[.int .i64 f0, .int .i64 f1, .slice a3 nf c3, .int .i64 f3, .int .i64 f4, .int .i64 f5, .int .i64 f6, .int .i64 f7, .int .i64 f8, .int .i64 f9, .string fb] 26) := KA.out.boxed (B3, #[.int .i64 f0, .int .i64 f1, .slice a3 nf c3, .int .i64 f3, .int .i64 f4, .int .i64 f5, .int .i64 f6, .int .i64 f7, .int .i64 f8, .int .i64 f9, .string fb]) (by simp)
      have y0 : wr.cell? ⟨B3, 0, none⟩ = some (.int .i64 f0) := YB3.out.cell 0 rfl
      have y1 : wr.cell? ⟨B3, 1, none⟩ = some (.int .i64 f1) := YB3.out.cell 1 rfl
      have y2 : wr.cell? ⟨B3, 2, none⟩ = some (.slice a3 nf c3) := YB3.out.cell 2 rfl
      have y3 : wr.cell? ⟨B3, 3, none⟩ = some (.int .i64 f3) := YB3.out.cell 3 rfl
      have y4 : wr.cell? ⟨B3, 4, none⟩ = some (.int .i64 f4) := YB3.out.cell 4 rfl
      have y5 : wr.cell? ⟨B3, 5, none⟩ = some (.int .i64 f5) := YB3.out.cell 5 rfl
      have y6 : wr.cell? ⟨B3, 6, none⟩ = some (.int .i64 f6) := YB3.out.cell 6 rfl
      have y7 : wr.cell? ⟨B3, 7, none⟩ = some (.int .i64 f7) := YB3.out.cell 7 rfl
      have y8 : wr.cell? ⟨B3, 8, none⟩ = some (.int .i64 f8) := YB3.out.cell 8 rfl
      have y9 : wr.cell? ⟨B3, 9, none⟩ = some (.int .i64 f9) := YB3.out.cell 9 rfl
      have y10 : wr.cell? ⟨B3, 10, none⟩ = some (.string fb) := YB3.out.cell 10 rfl
      clear YB3
      have I3 : Hid (IntsAt wr a3 ft) := KA.out.ints (a3, ft) (by simp)
      go_wp2_with fail
      refine (OI'.out _ I3.out).mono ?_
      rintro e wz ⟨rfl, bz⟩
      have KB : Hid (Lie w [(B3, #[.int .i64 f0, .int .i64 f1, .slice a3 nf c3, .int .i64 f3, .int .i64 f4, .int .i64 f5, .int .i64 f6, .int .i64 f7, .int .i64 f8, .int .i64 f9, .string fb])] [(a3, ft)] wz) := KA.out.below bz
      clear bz KA I3 y0 y1 y2 y3 y4 y5 y6 y7 y8 y9 y10
      have YB3 : Hid (Boxed wz B3 #[.int .i64 f0, .int .i64 f1, .slice a3 nf c3, .int .i64 f3, .int .i64 f4, .int .i64 f5, .int .i64 f6, .int .i64 f7, .int .i64 f8, .int .i64 f9, .string fb] 26) := KB.out.boxed (B3, #[.int .i64 f0, .int .i64 f1, .slice a3 nf c3, .int .i64 f3, .int .i64 f4, .int .i64 f5, .int .i64 f6, .int .i64 f7, .int .i64 f8, .int .i64 f9, .string fb]) (by simp)
      have y0 : wz.cell? ⟨B3, 0, none⟩ = some (.int .i64 f0) := YB3.out.cell 0 rfl
      have y1 : wz.cell? ⟨B3, 1, none⟩ = some (.int .i64 f1) := YB3.out.cell 1 rfl
      have y2 : wz.cell? ⟨B3, 2, none⟩ = some (.slice a3 nf c3) := YB3.out.cell 2 rfl
      have y3 : wz.cell? ⟨B3, 3, none⟩ = some (.int .i64 f3) := YB3.out.cell 3 rfl
      have y4 : wz.cell? ⟨B3, 4, none⟩ = some (.int .i64 f4) := YB3.out.cell 4 rfl
      have y5 : wz.cell? ⟨B3, 5, none⟩ = some (.int .i64 f5) := YB3.out.cell 5 rfl
      have y6 : wz.cell? ⟨B3, 6, none⟩ = some (.int .i64 f6) := YB3.out.cell 6 rfl
      have y7 : wz.cell? ⟨B3, 7, none⟩ = some (.int .i64 f7) := YB3.out.cell 7 rfl
      have y8 : wz.cell? ⟨B3, 8, none⟩ = some (.int .i64 f8) := YB3.out.cell 8 rfl
      have y9 : wz.cell? ⟨B3, 9, none⟩ = some (.int .i64 f9) := YB3.out.cell 9 rfl
      have y10 : wz.cell? ⟨B3, 10, none⟩ = some (.string fb) := YB3.out.cell 10 rfl
      clear YB3
      have I3 : Hid (IntsAt wz a3 ft) := KB.out.ints (a3, ft) (by simp)
      go_wp2_with fail
      refine (ZI'.out _ I3.out).mono ?_
      rintro e wy ⟨rfl, by'⟩
      have KC : Hid (Below w.heap.size w wy) := (KB.out.below by').2.2
      clear by' KB I3 y0 y1 y2 y3 y4 y5 y6 y7 y8 y9 y10
      go_wp2
      go_ret
      exact ⟨rfl, KC.out⟩
    · obtain ⟨h1, h2⟩ := R3'.out rfl
      have R1 := R1'.out rfl
      have R2 := R2'.out rfl
      have M1 := RN'.out (s ++ ⟨#[120]⟩) 6 (by rw [ByteArray.size_append]; show s.size + 1 ≤ 5000; omega) R1
      have M2 : ∀ m, m < s.size → ∀ w1, Gl es em w1 → Calls Tryd.prog 9 #[.string (s.extract 0 m)] w1 _ := fun m hm => RN'.out (s.extract 0 m) 1 (by rw [ByteArray.size_extract]; omega) (R2 m hm)
      have M1' : Hid _ := M1
      have M2' : Hid _ := M2
      have hne : s.toList.isEmpty = false := by
        cases he : s.toList.isEmpty
        · rfl
        · have e := (toList_nil_iff_emptyBytes s).1 (List.isEmpty_iff.1 he)
          rw [e] at h2
          exact absurd h2 (by decide)
      have Hh : Hid (hd + fb.size = s.size) := h1
      clear M1 M2 R1 R2 R1' R2' R3' R4' RN' h1
      go_wp2_with fail
      refine (RF.out (by first | exact trivial | exact rfl) _ (G.out.below KA.out.2.2)).mono ?_
      rintro e wz ⟨aA, cA, rfl, row, bz⟩
      have KB : Hid (Lie w [(B3, #[.int .i64 f0, .int .i64 f1, .slice a3 nf c3, .int .i64 f3, .int .i64 f4, .int .i64 f5, .int .i64 f6, .int .i64 f7, .int .i64 f8, .int .i64 f9, .string fb])] [(aA, ft), (a3, ft)] wz) := (KA.out.below bz).tags aA ft (Frow.out _ _ _ _ row)
      clear row bz KA RF
      have KC : Hid (Lie w [(wz.heap.size, #[.int .i64 f0, .int .i64 f1, .slice aA nf cA, .int .i64 f3, .int .i64 f4, .int .i64 f5, .int .i64 f6, .int .i64 f7, .int .i64 f8, .int .i64 f9, .string fb]), (B3, #[.int .i64 f0, .int .i64 f1, .slice a3 nf c3, .int .i64 f3, .int .i64 f4, .int .i64 f5, .int .i64 f6, .int .i64 f7, .int .i64 f8, .int .i64 f9, .string fb])] [(aA, ft), (a3, ft)] (wz.alloc (.cells #[.int .i64 f0, .int .i64 f1, .slice aA nf cA, .int .i64 f3, .int .i64 f4, .int .i64 f5, .int .i64 f6, .int .i64 f7, .int .i64 f8, .int .i64 f9, .string fb] 26))) := KB.out.box _
      have hm1 : ¬ 9223372036854775807 < s.size + 1 := by omega
      go_wp2_with fail
      obtain ⟨wA, hwA⟩ : ∃ wA, wA = wz.alloc (.cells #[.int .i64 f0, .int .i64 f1, .slice aA nf cA, .int .i64 f3, .int .i64 f4, .int .i64 f5, .int .i64 f6, .int .i64 f7, .int .i64 f8, .int .i64 f9, .string fb] 26) := ⟨_, rfl⟩
      rw [← hwA] at KC ⊢
      generalize wz.heap.size = B10 at KC ⊢
      clear hwA KB
      refine (M1'.out _ (G.out.below KC.out.2.2)).mono ?_
      rintro e wB ⟨a', c', rfl, bB⟩
      have KD : Hid (Lie w [(B10, #[.int .i64 f0, .int .i64 f1, .slice aA nf cA, .int .i64 f3, .int .i64 f4, .int .i64 f5, .int .i64 f6, .int .i64 f7, .int .i64 f8, .int .i64 f9, .string fb]), (B3, #[.int .i64 f0, .int .i64 f1, .slice a3 nf c3, .int .i64 f3, .int .i64 f4, .int .i64 f5, .int .i64 f6, .int .i64 f7, .int .i64 f8, .int .i64 f9, .string fb])] [(aA, ft), (a3, ft)] wB) := KC.out.below bB
      clear bB KC M1' hm1
      have KE : Hid (∀ cs : Array Value, Lie w [(B10, #[.int .i64 f0, .int .i64 f1, .slice aA nf cA, .int .i64 f3, .int .i64 f4, .int .i64 f5, .int .i64 f6, .int .i64 f7, .int .i64 f8, .int .i64 f9, .string fb]), (B3, #[.int .i64 f0, .int .i64 f1, .slice a3 nf c3, .int .i64 f3, .int .i64 f4, .int .i64 f5, .int .i64 f6, .int .i64 f7, .int .i64 f8, .int .i64 f9, .string fb])] [(aA, ft), (a3, ft)] (wB.alloc (.cells cs 26))) := fun cs => KD.out.below ((Below.refl _ wB).alloc (Nat.le_refl _) _)
      go_wp2_with fail
      obtain ⟨wC, hwC⟩ : ∃ wC, wC = wB.alloc (.cells #[.int .i64 0, .int .i64 0, .slice a' 0 c', .int .i64 0, .int .i64 0, .int .i64 0, .int .i64 0, .int .i64 0, .int .i64 0, .int .i64 0, .string ⟨#[]⟩] 26) := ⟨_, rfl⟩
      have KF : Hid (Lie w [(B10, #[.int .i64 f0, .int .i64 f1, .slice aA nf cA, .int .i64 f3, .int .i64 f4, .int .i64 f5, .int .i64 f6, .int .i64 f7, .int .i64 f8, .int .i64 f9, .string fb]), (B3, #[.int .i64 f0, .int .i64 f1, .slice a3 nf c3, .int .i64 f3, .int .i64 f4, .int .i64 f5, .int .i64 f6, .int .i64 f7, .int .i64 f8, .int .i64 f9, .string fb])] [(aA, ft), (a3, ft)] wC) := by rw [hwC]; exact KE.out _
      rw [← hwC]
      generalize wB.heap.size = B12
      clear hwC KD KE
      refine (lawPick hc s.size (by omega) (by omega) _ KF.out.2.2).mono ?_
      rintro e wD ⟨⟨x, rfl, xx0, xx1⟩, hwD⟩
      have hwD := hwD.symm
      subst hwD
      obtain ⟨k, rfl⟩ := Int.eq_ofNat_of_zero_le xx0
      have hk : k < s.size := by omega
      have hki : (k : Int) ≤ s.size := by omega
      have M3 : Hid _ := M2'.out k hk
      clear M2'
      go_wp2_with fail
      refine (M3.out _ (G.out.below KF.out.2.2)).mono ?_
      rintro e wE ⟨a'', c'', rfl, bE⟩
      have KG : Hid (Lie w [(B10, #[.int .i64 f0, .int .i64 f1, .slice aA nf cA, .int .i64 f3, .int .i64 f4, .int .i64 f5, .int .i64 f6, .int .i64 f7, .int .i64 f8, .int .i64 f9, .string fb]), (B3, #[.int .i64 f0, .int .i64 f1, .slice a3 nf c3, .int .i64 f3, .int .i64 f4, .int .i64 f5, .int .i64 f6, .int .i64 f7, .int .i64 f8, .int .i64 f9, .string fb])] [(aA, ft), (a3, ft)] wE) := KF.out.below bE
      clear bE KF M3
      have KH : Hid (∀ cs : Array Value, Lie w [(B10, #[.int .i64 f0, .int .i64 f1, .slice aA nf cA, .int .i64 f3, .int .i64 f4, .int .i64 f5, .int .i64 f6, .int .i64 f7, .int .i64 f8, .int .i64 f9, .string fb]), (B3, #[.int .i64 f0, .int .i64 f1, .slice a3 nf c3, .int .i64 f3, .int .i64 f4, .int .i64 f5, .int .i64 f6, .int .i64 f7, .int .i64 f8, .int .i64 f9, .string fb])] [(aA, ft), (a3, ft)] (wE.alloc (.cells cs 26))) := fun cs => KG.out.below ((Below.refl _ wE).alloc (Nat.le_refl _) _)
      go_wp2_with fail
      obtain ⟨wF, hwF⟩ : ∃ wF, wF = wE.alloc (.cells #[.int .i64 0, .int .i64 0, .slice a'' 0 c'', .int .i64 0, .int .i64 0, .int .i64 0, .int .i64 0, .int .i64 0, .int .i64 0, .int .i64 0, .string ⟨#[]⟩] 26) := ⟨_, rfl⟩
      have KI : Hid (Lie w [(B10, #[.int .i64 f0, .int .i64 f1, .slice aA nf cA, .int .i64 f3, .int .i64 f4, .int .i64 f5, .int .i64 f6, .int .i64 f7, .int .i64 f8, .int .i64 f9, .string fb]), (B3, #[.int .i64 f0, .int .i64 f1, .slice a3 nf c3, .int .i64 f3, .int .i64 f4, .int .i64 f5, .int .i64 f6, .int .i64 f7, .int .i64 f8, .int .i64 f9, .string fb])] [(aA, ft), (a3, ft)] wF) := by rw [hwF]; exact KH.out _
      rw [← hwF]
      generalize wE.heap.size = B14
      clear hwF KG KH
      have YB10 : Hid (Boxed wF B10 #[.int .i64 f0, .int .i64 f1, .slice aA nf cA, .int .i64 f3, .int .i64 f4, .int .i64 f5, .int .i64 f6, .int .i64 f7, .int .i64 f8, .int .i64 f9, .string fb] 26) := KI.out.boxed (B10, #[.int .i64 f0, .int .i64 f1, .slice aA nf cA, .int .i64 f3, .int .i64 f4, .int .i64 f5, .int .i64 f6, .int .i64 f7, .int .i64 f8, .int .i64 f9, .string fb]) (by simp)
      have u0 : ∀ p : BelW wF.heap.size wF, p.w'.cell? ⟨B10, 0, none⟩ = some (.int .i64 f0) := fun p => (YB10.out.below YB10.out.under p.h).cell 0 rfl
      have u1 : ∀ p : BelW wF.heap.size wF, p.w'.cell? ⟨B10, 1, none⟩ = some (.int .i64 f1) := fun p => (YB10.out.below YB10.out.under p.h).cell 1 rfl
      have u2 : ∀ p : BelW wF.heap.size wF, p.w'.cell? ⟨B10, 2, none⟩ = some (.slice aA nf cA) := fun p => (YB10.out.below YB10.out.under p.h).cell 2 rfl
      have u3 : ∀ p : BelW wF.heap.size wF, p.w'.cell? ⟨B10, 3, none⟩ = some (.int .i64 f3) := fun p => (YB10.out.below YB10.out.under p.h).cell 3 rfl
      have u4 : ∀ p : BelW wF.heap.size wF, p.w'.cell? ⟨B10, 4, none⟩ = some (.int .i64 f4) := fun p => (YB10.out.below YB10.out.under p.h).cell 4 rfl
      have u5 : ∀ p : BelW wF.heap.size wF, p.w'.cell? ⟨B10, 5, none⟩ = some (.int .i64 f5) := fun p => (YB10.out.below YB10.out.under p.h).cell 5 rfl
      have u6 : ∀ p : BelW wF.heap.size wF, p.w'.cell? ⟨B10, 6, none⟩ = some (.int .i64 f6) := fun p => (YB10.out.below YB10.out.under p.h).cell 6 rfl
      have u7 : ∀ p : BelW wF.heap.size wF, p.w'.cell? ⟨B10, 7, none⟩ = some (.int .i64 f7) := fun p => (YB10.out.below YB10.out.under p.h).cell 7 rfl
      have u8 : ∀ p : BelW wF.heap.size wF, p.w'.cell? ⟨B10, 8, none⟩ = some (.int .i64 f8) := fun p => (YB10.out.below YB10.out.under p.h).cell 8 rfl
      have u9 : ∀ p : BelW wF.heap.size wF, p.w'.cell? ⟨B10, 9, none⟩ = some (.int .i64 f9) := fun p => (YB10.out.below YB10.out.under p.h).cell 9 rfl
      have u10 : ∀ p : BelW wF.heap.size wF, p.w'.cell? ⟨B10, 10, none⟩ = some (.string fb) := fun p => (YB10.out.below YB10.out.under p.h).cell 10 rfl
      clear YB10
      have YB3 : Hid (Boxed wF B3 #[.int .i64 f0, .int .i64 f1, .slice a3 nf c3, .int .i64 f3, .int .i64 f4, .int .i64 f5, .int .i64 f6, .int .i64 f7, .int .i64 f8, .int .i64 f9, .string fb] 26) := KI.out.boxed (B3, #[.int .i64 f0, .int .i64 f1, .slice a3 nf c3, .int .i64 f3, .int .i64 f4, .int .i64 f5, .int .i64 f6, .int .i64 f7, .int .i64 f8, .int .i64 f9, .string fb]) (by simp)
      have y0 : ∀ p : BelW wF.heap.size wF, p.w'.cell? ⟨B3, 0, none⟩ = some (.int .i64 f0) := fun p => (YB3.out.below YB3.out.under p.h).cell 0 rfl
      have y1 : ∀ p : BelW wF.heap.size wF, p.w'.cell? ⟨B3, 1, none⟩ = some (.int .i64 f1) := fun p => (YB3.out.below YB3.out.under p.h).cell 1 rfl
      have y2 : ∀ p : BelW wF.heap.size wF, p.w'.cell? ⟨B3, 2, none⟩ = some (.slice a3 nf c3) := fun p => (YB3.out.below YB3.out.under p.h).cell 2 rfl
      have y3 : ∀ p : BelW wF.heap.size wF, p.w'.cell? ⟨B3, 3, none⟩ = some (.int .i64 f3) := fun p => (YB3.out.below YB3.out.under p.h).cell 3 rfl
      have y4 : ∀ p : BelW wF.heap.size wF, p.w'.cell? ⟨B3, 4, none⟩ = some (.int .i64 f4) := fun p => (YB3.out.below YB3.out.under p.h).cell 4 rfl
      have y5 : ∀ p : BelW wF.heap.size wF, p.w'.cell? ⟨B3, 5, none⟩ = some (.int .i64 f5) := fun p => (YB3.out.below YB3.out.under p.h).cell 5 rfl
      have y6 : ∀ p : BelW wF.heap.size wF, p.w'.cell? ⟨B3, 6, none⟩ = some (.int .i64 f6) := fun p => (YB3.out.below YB3.out.under p.h).cell 6 rfl
      have y7 : ∀ p : BelW wF.heap.size wF, p.w'.cell? ⟨B3, 7, none⟩ = some (.int .i64 f7) := fun p => (YB3.out.below YB3.out.under p.h).cell 7 rfl
      have y8 : ∀ p : BelW wF.heap.size wF, p.w'.cell? ⟨B3, 8, none⟩ = some (.int .i64 f8) := fun p => (YB3.out.below YB3.out.under p.h).cell 8 rfl
      have y9 : ∀ p : BelW wF.heap.size wF, p.w'.cell? ⟨B3, 9, none⟩ = some (.int .i64 f9) := fun p => (YB3.out.below YB3.out.under p.h).cell 9 rfl
      have y10 : ∀ p : BelW wF.heap.size wF, p.w'.cell? ⟨B3, 10, none⟩ = some (.string fb) := fun p => (YB3.out.below YB3.out.under p.h).cell 10 rfl
      clear YB3
      haveI : Nonempty (BelW wF.heap.size wF) := ⟨⟨wF, Below.refl _ _⟩⟩
      have Q1 := fun p : BelW wF.heap.size wF => LF'.out aA a3 cA c3 p.w' ((KI.out.ints (aA, ft) (by simp)).below p.h) ((KI.out.ints (a3, ft) (by simp)).below p.h)
      have Q2 := fun p : BelW wF.heap.size wF => ZI'.out p.w' ((KI.out.ints (a3, ft) (by simp)).below p.h)
      have Q1' : Hid _ := Q1
      have Q2' : Hid _ := Q2
      clear Q1 Q2
      have hh := Hh.out
      have hw1 : IntKind.i64.wrap (hd + (fb.size : Int)) = (s.size : Int) := by rw [hh, IntKind.wrap_i64]; omega
      clear hh
      refine region_below wF.heap.size (by kernel_rfl) (by kernel_rfl) ?_
      repeat (go_big_quiet_step ((first | (go_at_call 11; refine quiet_below (Nat.le_refl _) (Q1'.out _)) | (go_at_call 15; refine quiet_below (Nat.le_refl _) (Q2'.out _)))))
      refine wpQuiet_nil ?_
      intro wq2 hx
      have KJ : Hid (Below w.heap.size w wq2) := (KI.out.below (BelW.out hx)).2.2
      clear hx KI u0 u1 u2 u3 u4 u5 u6 u7 u8 u9 u10 y0 y1 y2 y3 y4 y5 y6 y7 y8 y9 y10 Q1' Q2'
      go_wp2
      go_ret
      exact ⟨rfl, KJ.out⟩
end Go.Proofs.YtddjflaceokoaaaDoor
