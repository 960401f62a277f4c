/-
  The walks of FrameOk, the program's and the model's: both answer whether the frame is right, and change nothing. By the verifier.
-/
import Derived.Test.YtdifegaokdoleaaRows
import Derived.WalkKit
import Derived.WalkSpells
import Derived.WalkLawsBesides
import Derived.RowKit3
import Derived.Test.YtdifegaokdoleaaM2Box
namespace Go.Proofs.Ytdifegaokdoleaa
open Go.RowKit

theorem specWord (n : Int) (w : World) :
    Calls Try.prog 50 #[.int .i64 n] w fun e w' => e = .returned (.bool (inB 0 65535 n)) ∧ w' = w := by
  go_enter Try.func50, Try.ntmps50
  go_wp2_with (go_at_call 49; refine (specIn _ _ _ _).mono ?_; rintro e w' ⟨rfl, rfl⟩)
  go_ret
  exact ⟨rfl, rfl⟩

theorem okA (f : Fr) : f.ok = ([f.to, f.frm, f.sport, f.dport, f.sum].all (inB 0 65535) && [f.src, f.dst].all (inB 0 4294967295) && [f.proto].all (inB 0 255) && [f.mark].all (inB 0 3) && decide (f.tags.length ≤ 2) && f.tags.all (inB 0 4095) && decide (f.body.size ≤ 1500)) := by
  rw [Bool.eq_iff_iff]
  simp only [Fr.ok_true, Fr.Ok, Bool.and_eq_true, List.all_cons, List.all_nil, decide_eq_true_eq, inB_true, and_true]
  constructor
  · rintro ⟨h1, h2, h3, h4, h5, h6, h7, h8, h9, h10, h11, h12⟩
    exact ⟨⟨⟨⟨⟨⟨⟨h1, h2, h7, h8, h10⟩, h4, h5⟩, h6⟩, h9⟩, h3⟩, h12⟩, h11⟩
  · rintro ⟨⟨⟨⟨⟨⟨⟨h1, h2, h7, h8, h10⟩, h4, h5⟩, h6⟩, h9⟩, h3⟩, h12⟩, h11⟩
    exact ⟨h1, h2, h3, h4, h5, h6, h7, h8, h9, h10, h11, h12⟩
theorem okB' (f : Fr) : f.ok = (f.tags.all (inB 0 4095) && inB 0 65535 f.to && inB 0 65535 f.frm && decide (f.tags.length ≤ 2) && inB 0 4294967295 f.src && inB 0 4294967295 f.dst && inB 0 255 f.proto && inB 0 65535 f.sport && inB 0 65535 f.dport && inB 0 3 f.mark && inB 0 65535 f.sum && decide (f.body.size ≤ 1500)) := by
  rw [Bool.eq_iff_iff]
  simp only [Fr.ok_true, Fr.Ok, Bool.and_eq_true, decide_eq_true_eq, inB_true]
  constructor
  · rintro ⟨h1, h2, h3, h4, h5, h6, h7, h8, h9, h10, h11, h12⟩
    exact ⟨⟨⟨⟨⟨⟨⟨⟨⟨⟨⟨h12, h1⟩, h2⟩, h3⟩, h4⟩, h5⟩, h6⟩, h7⟩, h8⟩, h9⟩, h10⟩, h11⟩
  · rintro ⟨⟨⟨⟨⟨⟨⟨⟨⟨⟨⟨h12, h1⟩, h2⟩, h3⟩, h4⟩, h5⟩, h6⟩, h7⟩, h8⟩, h9⟩, h10⟩, h11⟩
    exact ⟨h1, h2, h3, h4, h5, h6, h7, h8, h9, h10, h11, h12⟩

set_option maxHeartbeats 1600000 in
set_option maxRecDepth 100000 in
theorem implFrameOk (f : Fr) (a : Option Addr) (cap : Nat) (w : World) (hT : f.tags.length ≤ 1048576) (hc : Hid (IntsAt w a f.tags)) :
    Calls Try.prog 32 #[f.val a cap] w fun e w' => e = .returned (.bool f.ok) ∧ Below w.heap.size w w' := by
  have hok : Hid (f.ok = _) := okA f
  obtain ⟨to, frm, tags, src, dst, proto, sport, dport, mark, sum, body⟩ := f
  simp only [Fr.val] at hT hok ⊢
  go_enter Try.func32, Try.ntmps32
  go_wp2_with fail
  refine (implUpTo 65535 _ 5 [to, frm, sport, dport, sum] _ (by simp) (ints_new _ _ _ _ _ (by simp) rfl)).mono ?_
  rintro e w' ⟨rfl, rfl⟩
  cases hb1 : [to, frm, sport, dport, sum].all (inB 0 65535)
  · have H1 : Hid (_ = false) := hb1
    clear hb1
    go_wp2
    go_ret
    refine ⟨by rw [hok.out, H1.out]; rfl, ?_⟩
    repeat (first | exact Below.refl _ _ | refine bel_alloc ?_ (Nat.le_refl _) _)
  have H1 : Hid (_ = true) := hb1
  clear hb1
  go_wp2_with fail
  refine (implUpTo 4294967295 _ 2 [src, dst] _ (by simp) (ints_new _ _ _ _ _ (by simp) rfl)).mono ?_
  rintro e w' ⟨rfl, rfl⟩
  cases hb1 : [src, dst].all (inB 0 4294967295)
  · have H2 : Hid (_ = false) := hb1
    clear hb1
    go_wp2
    go_ret
    refine ⟨by rw [hok.out, H1.out, H2.out]; rfl, ?_⟩
    repeat (first | exact Below.refl _ _ | refine bel_alloc ?_ (Nat.le_refl _) _)
  have H2 : Hid (_ = true) := hb1
  clear hb1
  go_wp2_with fail
  refine (implUpTo 255 _ 1 [proto] _ (by simp) (ints_new _ _ _ _ _ (by simp) rfl)).mono ?_
  rintro e w' ⟨rfl, rfl⟩
  cases hb1 : [proto].all (inB 0 255)
  · have H3 : Hid (_ = false) := hb1
    clear hb1
    go_wp2
    go_ret
    refine ⟨by rw [hok.out, H1.out, H2.out, H3.out]; rfl, ?_⟩
    repeat (first | exact Below.refl _ _ | refine bel_alloc ?_ (Nat.le_refl _) _)
  have H3 : Hid (_ = true) := hb1
  clear hb1
  go_wp2_with fail
  refine (implUpTo 3 _ 1 [mark] _ (by simp) (ints_new _ _ _ _ _ (by simp) rfl)).mono ?_
  rintro e w' ⟨rfl, rfl⟩
  cases hb1 : [mark].all (inB 0 3)
  · have H4 : Hid (_ = false) := hb1
    clear hb1
    go_wp2
    go_ret
    refine ⟨by rw [hok.out, H1.out, H2.out, H3.out, H4.out]; rfl, ?_⟩
    repeat (first | exact Below.refl _ _ | refine bel_alloc ?_ (Nat.le_refl _) _)
  have H4 : Hid (_ = true) := hb1
  clear hb1
  by_cases hl : tags.length ≤ 2
  · go_wp2_with fail
    refine (implUpTo 4095 a cap tags _ hT ((((((hc.out.alloc _).alloc _).alloc _).alloc _).alloc _))).mono ?_
    rintro e w' ⟨rfl, rfl⟩
    cases hb1 : tags.all (inB 0 4095)
    · have H5 : Hid (_ = false) := hb1
      clear hb1
      go_wp2
      go_ret
      refine ⟨by rw [hok.out, H1.out, H2.out, H3.out, H4.out, H5.out]; simp, ?_⟩
      repeat (first | exact Below.refl _ _ | refine bel_alloc ?_ (Nat.le_refl _) _)
    · have H5 : Hid (_ = true) := hb1
      clear hb1
      by_cases hB : body.size ≤ 1500
      · go_wp2
        go_ret
        refine ⟨by rw [hok.out, H1.out, H2.out, H3.out, H4.out, H5.out]; simp [hl, hB]; omega, ?_⟩
        repeat (first | exact Below.refl _ _ | refine bel_alloc ?_ (Nat.le_refl _) _)
      · go_wp2
        go_ret
        refine ⟨by rw [hok.out, H1.out, H2.out, H3.out, H4.out, H5.out]; simp [hl, hB]; omega, ?_⟩
        repeat (first | exact Below.refl _ _ | refine bel_alloc ?_ (Nat.le_refl _) _)
  · go_wp2
    go_ret
    refine ⟨by rw [hok.out, H1.out, H2.out, H3.out, H4.out]; simp [hl], ?_⟩
    repeat (first | exact Below.refl _ _ | refine bel_alloc ?_ (Nat.le_refl _) _)

set_option maxHeartbeats 3200000 in
set_option maxRecDepth 100000 in
theorem specFrameOk (f : Fr) (a : Option Addr) (cap : Nat) (w : World) (hT : f.tags.length ≤ 1048576) (hc : Hid (IntsAt w a f.tags)) :
    Calls Try.prog 19 #[f.val a cap] w fun e w' => e = .returned (.bool f.ok) ∧ Below w.heap.size w w' := by
  have hok : Hid (f.ok = _) := okB' f
  obtain ⟨to, frm, tags, src, dst, proto, sport, dport, mark, sum, body⟩ := f
  simp only [Fr.val] at hT hok hc ⊢
  obtain ⟨len, hlen⟩ : ∃ n, tags.length = n := ⟨_, rfl⟩
  rw [hlen] at hT ⊢
  have Hlen : Hid (tags.length = len) := hlen
  clear hlen
  go_enter Try.func19, Try.ntmps19
  go_wp2
  go_loop [3] (fun i => ∃ k : Nat, k ≤ len ∧ i = .int .i64 k ∧ (tags.take k).all (inB 0 4095) = true) (fun i => len - (intOf i).toNat)
  case atStart => exact ⟨0, Nat.zero_le _, rfl, rfl⟩
  case round =>
    obtain ⟨k, hk, rfl, hall⟩ := hrel
    have Hall : Hid ((tags.take k).all (inB 0 4095) = true) := hall
    clear hall
    by_cases hlt : k < len
    · obtain ⟨b, off, ha, hb, hcell⟩ := hc.out k (by rw [Hlen.out]; exact hlt)
      subst ha
      have hs := all_take_succ' (inB 0 4095) tags k (by rw [Hlen.out]; exact hlt)
      have hh := all_hit' (inB 0 4095) tags k (by rw [Hlen.out]; exact hlt)
      rw [Hall.out] at hs
      generalize tags[k]?.getD 0 = z at hcell hs hh
      have Hs : Hid ((tags.take (k + 1)).all (inB 0 4095) = (true && inB 0 4095 z)) := hs
      have Hh : Hid (inB 0 4095 z = false → tags.all (inB 0 4095) = false) := hh
      clear hs hh
      go_wp2_with fail
      refine (specIn z 0 4095 _).mono ?_
      rintro e w' ⟨rfl, rfl⟩
      cases hz : inB 0 4095 z
      · have Hz : Hid (_ = false) := hz
        clear hz
        go_wp2
        go_ret
        refine ⟨by rw [hok.out, Hh.out Hz.out]; rfl, ?_⟩
        repeat (first | exact Below.refl _ _ | refine bel_alloc ?_ (Nat.le_refl _) _)
      · have Hz : Hid (_ = true) := hz
        clear hz
        go_wp2
        go_round
        case rel => exact ⟨k + 1, by omega, by go_num, by rw [Hs.out, Hz.out]; rfl⟩
        case measure => simp [intOf]; omega
    · have H0 : Hid (tags.all (inB 0 4095) = true) := by
        have : tags.take k = tags := List.take_of_length_le (by rw [Hlen.out]; omega)
        show tags.all (inB 0 4095) = true
        rw [← this, Hall.out]
      have Hok : Hid (_ = _) := hok.out.trans (by rw [H0.out, Hlen.out])
      clear hok H0 Hall hc
      go_wp2_with fail
      refine (specWord to _).mono ?_
      rintro e w' ⟨rfl, rfl⟩
      cases hz : inB 0 65535 to
      · have Hz : Hid (_ = false) := hz
        clear hz
        go_wp2
        go_ret
        refine ⟨by rw [Hok.out, Hz.out]; simp, ?_⟩
        repeat (first | exact Below.refl _ _ | refine bel_alloc ?_ (Nat.le_refl _) _)
      have Hok0 : Hid (_ = _) := Hok.out.trans (by rw [hz])
      clear hz Hok; have Hok := Hok0; clear Hok0
      go_wp2_with fail
      refine (specWord frm _).mono ?_
      rintro e w' ⟨rfl, rfl⟩
      cases hz : inB 0 65535 frm
      · have Hz : Hid (_ = false) := hz
        clear hz
        go_wp2
        go_ret
        refine ⟨by rw [Hok.out, Hz.out]; simp, ?_⟩
        repeat (first | exact Below.refl _ _ | refine bel_alloc ?_ (Nat.le_refl _) _)
      have Hok1 : Hid (_ = _) := Hok.out.trans (by rw [hz])
      clear hz Hok; have Hok := Hok1; clear Hok1
      by_cases hl : len ≤ 2
      rotate_left
      · go_wp2
        go_ret
        refine ⟨by rw [Hok.out]; simp [hl], ?_⟩
        repeat (first | exact Below.refl _ _ | refine bel_alloc ?_ (Nat.le_refl _) _)
      have Hok3 : Hid (_ = _) := Hok.out.trans (by rw [show decide (len ≤ 2) = true by simp [hl]])
      clear Hok; have Hok := Hok3; clear Hok3
      go_wp2_with fail
      refine (specAddr src _).mono ?_
      rintro e w' ⟨rfl, rfl⟩
      cases hz : inB 0 4294967295 src
      · have Hz : Hid (_ = false) := hz
        clear hz
        go_wp2
        go_ret
        refine ⟨by rw [Hok.out, Hz.out]; simp, ?_⟩
        repeat (first | exact Below.refl _ _ | refine bel_alloc ?_ (Nat.le_refl _) _)
      have Hok3 : Hid (_ = _) := Hok.out.trans (by rw [hz])
      clear hz Hok; have Hok := Hok3; clear Hok3
      go_wp2_with fail
      refine (specAddr dst _).mono ?_
      rintro e w' ⟨rfl, rfl⟩
      cases hz : inB 0 4294967295 dst
      · have Hz : Hid (_ = false) := hz
        clear hz
        go_wp2
        go_ret
        refine ⟨by rw [Hok.out, Hz.out]; simp, ?_⟩
        repeat (first | exact Below.refl _ _ | refine bel_alloc ?_ (Nat.le_refl _) _)
      have Hok4 : Hid (_ = _) := Hok.out.trans (by rw [hz])
      clear hz Hok; have Hok := Hok4; clear Hok4
      go_wp2_with fail
      refine (specIn proto 0 255 _).mono ?_
      rintro e w' ⟨rfl, rfl⟩
      cases hz : inB 0 255 proto
      · have Hz : Hid (_ = false) := hz
        clear hz
        go_wp2
        go_ret
        refine ⟨by rw [Hok.out, Hz.out]; simp, ?_⟩
        repeat (first | exact Below.refl _ _ | refine bel_alloc ?_ (Nat.le_refl _) _)
      have Hok5 : Hid (_ = _) := Hok.out.trans (by rw [hz])
      clear hz Hok; have Hok := Hok5; clear Hok5
      go_wp2_with fail
      refine (specWord sport _).mono ?_
      rintro e w' ⟨rfl, rfl⟩
      cases hz : inB 0 65535 sport
      · have Hz : Hid (_ = false) := hz
        clear hz
        go_wp2
        go_ret
        refine ⟨by rw [Hok.out, Hz.out]; simp, ?_⟩
        repeat (first | exact Below.refl _ _ | refine bel_alloc ?_ (Nat.le_refl _) _)
      have Hok6 : Hid (_ = _) := Hok.out.trans (by rw [hz])
      clear hz Hok; have Hok := Hok6; clear Hok6
      go_wp2_with fail
      refine (specWord dport _).mono ?_
      rintro e w' ⟨rfl, rfl⟩
      cases hz : inB 0 65535 dport
      · have Hz : Hid (_ = false) := hz
        clear hz
        go_wp2
        go_ret
        refine ⟨by rw [Hok.out, Hz.out]; simp, ?_⟩
        repeat (first | exact Below.refl _ _ | refine bel_alloc ?_ (Nat.le_refl _) _)
      have Hok7 : Hid (_ = _) := Hok.out.trans (by rw [hz])
      clear hz Hok; have Hok := Hok7; clear Hok7
      go_wp2_with fail
      refine (specIn mark 0 3 _).mono ?_
      rintro e w' ⟨rfl, rfl⟩
      cases hz : inB 0 3 mark
      · have Hz : Hid (_ = false) := hz
        clear hz
        go_wp2
        go_ret
        refine ⟨by rw [Hok.out, Hz.out]; simp, ?_⟩
        repeat (first | exact Below.refl _ _ | refine bel_alloc ?_ (Nat.le_refl _) _)
      have Hok8 : Hid (_ = _) := Hok.out.trans (by rw [hz])
      clear hz Hok; have Hok := Hok8; clear Hok8
      go_wp2_with fail
      refine (specWord sum _).mono ?_
      rintro e w' ⟨rfl, rfl⟩
      cases hz : inB 0 65535 sum
      · have Hz : Hid (_ = false) := hz
        clear hz
        go_wp2
        go_ret
        refine ⟨by rw [Hok.out, Hz.out]; simp, ?_⟩
        repeat (first | exact Below.refl _ _ | refine bel_alloc ?_ (Nat.le_refl _) _)
      have Hok9 : Hid (_ = _) := Hok.out.trans (by rw [hz])
      clear hz Hok; have Hok := Hok9; clear Hok9
      by_cases hB : body.size ≤ 1500
      · go_wp2
        go_ret
        refine ⟨by rw [Hok.out]; simp [hB]; omega, ?_⟩
        repeat (first | exact Below.refl _ _ | refine bel_alloc ?_ (Nat.le_refl _) _)
      · go_wp2
        go_ret
        refine ⟨by rw [Hok.out]; simp [hB]; omega, ?_⟩
        repeat (first | exact Below.refl _ _ | refine bel_alloc ?_ (Nat.le_refl _) _)
end Go.Proofs.Ytdifegaokdoleaa
