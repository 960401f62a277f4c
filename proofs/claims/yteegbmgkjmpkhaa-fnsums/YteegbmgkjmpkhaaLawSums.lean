/-
  The walk of the law of sums. By the verifier.
-/
import Derived.Test.YteegbmgkjmpkhaaDrawText
import Derived.Test.YteegbmgkjmpkhaaDrawPair
import Derived.Test.YteegbmgkjmpkhaaSumFold
import Derived.Test.YteegbmgkjmpkhaaSumMath
import Derived.Deep.DeepCutAuto
namespace Go.Proofs.Yteegbmgkjmpkhaa
open Go.RowKit

theorem fold_cases (x y : Int) : foldOr x y = -1 ∨ (0 ≤ foldOr x y ∧ foldOr x y ≤ 65535 ∧ foldOr y x = foldOr x y ∧ (foldOr x y - x - y = 0 ∨ foldOr x y - x - y = -65535)) := by
  unfold foldOr
  cases h : (inB 0 65535 x && inB 0 65535 y)
  · exact .inl rfl
  · have h' : (inB 0 65535 y && inB 0 65535 x) = true := by rw [Bool.and_comm]; exact h
    rw [h']
    rw [Bool.and_eq_true, inB_true, inB_true] at h
    have a := fold16_in h.1.1 h.1.2 h.2.1 h.2.2
    have b := fold_facts x y
    exact .inr ⟨a.1, a.2, b.1, b.2⟩

set_option maxHeartbeats 3200000 in
set_option maxRecDepth 100000 in
theorem fnSums_walk (a : Option Addr) (len cap : Nat) (w : World)
    (hcode : ∀ k, k < len → ∃ b off z, a = some ⟨b, off, none⟩ ∧ b < w.heap.size ∧ w.cell? ⟨b, off + k, none⟩ = some (.int .u8 z) ∧ 0 ≤ z ∧ z ≤ 255) :
    Calls Try.prog 3 #[.slice a len cap] w fun e w' => e = .returned (.bool true) ∧ Below w.heap.size w w' := by
  by_cases hbig : 4096 < len
  · clear hcode
    go_enter Try.func3, Try.ntmps3
    go_wp2
    go_ret
    exact ⟨rfl, Below.refl _ _⟩
  have hc : Hid (Code w a len) := ⟨by omega, hcode⟩
  have hb : Hid (Below w.heap.size w w) := Below.refl _ _
  clear hcode
  go_enter Try.func3, Try.ntmps3
  go_wp2_with (go_at_call 9; go_in)
  refine (drawSum16 hc _ hb).mono ?_
  rintro e w1 ⟨⟨t, rfl, ht⟩, b1⟩
  have H1 : Hid (Below w.heap.size w w1) := b1
  clear b1
  have I1 : ∀ (u : ByteArray) (w1 : World), u.size ≤ 20 → Calls Try.prog 11 #[.string u] w1 _ := fun u w1 h => implSum16 u (by omega) w1
  have S1 : ∀ w1 : World, Calls Try.prog 14 #[.string t] w1 _ := fun w1 => specSum16 t (by omega) w1
  have hn := sum16_in t
  have Q1 := sum_odd t ⟨#[0]⟩ rfl rfl
  have Q2 := fun u h => sum_own t u h
  have Q3 := fun u h => @sum_same u t h
  have I2 := I1 t
  generalize sum16 t = n at hn Q1 Q2 Q3 S1 I2
  obtain ⟨n0, n1⟩ := hn
  have I1' : Hid _ := I1
  have I2' : Hid _ := I2
  have S1' : Hid _ := S1
  have Q1' : Hid _ := Q1
  have Q2' : Hid _ := Q2
  have Q3' : Hid _ := Q3
  clear I1 I2 S1 Q1 Q2 Q3
  go_wp2_with fail
  refine (I2'.out w1 (by omega)).mono ?_
  rintro e w2 ⟨rfl, b2⟩
  have H2 : Hid (Below w.heap.size w w2) := H1.out.trans (b2.mono H1.out.size)
  clear b2
  go_wp2_with fail
  refine (drawFold hc _ H2).mono ?_
  rintro e w3 ⟨⟨x, y, rfl, ⟨x0, x1⟩, ⟨y0, y1⟩⟩, b3⟩
  have H3 : Hid (Below w.heap.size w w3) := b3
  clear b3
  have F1 : ∀ w1 : World, Calls Try.prog 13 #[.int .i64 x, .int .i64 y] w1 _ := fun w1 => implFold x y w1
  have F2 : ∀ w1 : World, Calls Try.prog 13 #[.int .i64 y, .int .i64 x] w1 _ := fun w1 => implFold y x w1
  have F3 : ∀ w1 : World, Calls Try.prog 15 #[.int .i64 x, .int .i64 y] w1 _ := fun w1 => specFold x y w1
  have hf := fold_cases x y
  generalize foldOr x y = f at F1 F3 hf
  generalize foldOr y x = f' at F2 hf
  have Hf : Hid _ := hf
  have F1' : Hid _ := F1
  have F2' : Hid _ := F2
  have F3' : Hid _ := F3
  clear F1 F2 F3 hf
  go_wp2_with fail
  refine (F1'.out w3).mono ?_
  rintro e w4 ⟨rfl, g4⟩
  have H4 : Hid (Below w.heap.size w w4) := H3.out.trans (g4.2.mono H3.out.size)
  clear g4 H1 H2 H3
  have nn : ¬ n < 0 := by omega
  have nm : ¬ 65535 < n := by omega
  go_upto_region 9 with (first | (go_at_call 14; refine (S1'.out _).mono ?_; rintro e w' ⟨rfl, rfl⟩) | (go_at_call 15; refine (F3'.out _).mono ?_; rintro e w' ⟨rfl, rfl⟩))
  go_cut [65] (fun s wc => Hid (s = .bool false ∧ Below w.heap.size w wc))
  case first =>
    rcases Hf.out with rfl | ⟨f0, f1, rfl, hd⟩
    · go_wp2_with fail
      go_meet
      exact ⟨rfl, H4.out⟩
    · rcases hd with hd | hd
      · go_wp2_with (go_at_call 13; refine (F2'.out _).mono ?_; rintro e w5 ⟨rfl, g5⟩; have H5 : Hid (Below w.heap.size w w5) := H4.out.trans (g5.2.mono H4.out.size); clear g5)
        go_meet
        exact ⟨by rw [decide_eq_false (by omega)], H5.out⟩
      · go_wp2_with (go_at_call 13; refine (F2'.out _).mono ?_; rintro e w5 ⟨rfl, g5⟩; have H5 : Hid (Below w.heap.size w w5) := H4.out.trans (g5.2.mono H4.out.size); clear g5)
        go_meet
        exact ⟨by rw [decide_eq_false (by omega)], H5.out⟩
  case rest =>
    obtain ⟨rfl, h5⟩ := hcut.out
    have H5 : Hid (Below w.heap.size w wc) := h5
    clear hcut h5
    by_cases hp : t.size % 2 = 1
    · have hp' : (t.size : Int) % 2 = 1 := by omega
      have hq := Q1'.out hp
      have hs : (t ++ ⟨#[0]⟩ : ByteArray).size ≤ 20 := by rw [ByteArray.size_append]; show t.size + 1 ≤ 20; omega
      have I3 : Calls Try.prog 11 #[.string (t ++ ⟨#[0]⟩)] wc (fun e w' => e = .returned (.int .i64 n) ∧ Below wc.heap.size wc w') := by
        have := I1'.out (t ++ ⟨#[0]⟩) wc hs
        rw [hq] at this
        exact this
      have I3' : Hid _ := I3
      clear I3 hs hq
      go_wp2_with fail
      refine Calls.mono I3'.out ?_
      rintro e w6 ⟨rfl, b6⟩
      have H6 : Hid (Below w.heap.size w w6) := H5.out.trans (b6.mono H5.out.size)
      clear b6
      go_wp2
      go_ret
      exact ⟨rfl, H6.out⟩
    · have hp' : (t.size : Int) % 2 = 0 := by omega
      have r6 : Row w.heap.size (wc.alloc (.cells #[.int .u8 (n / 256), .int .u8 (n % 256)] 5)) (.slice (some ⟨wc.heap.size, 0, none⟩) 2 2) [n / 256, n % 256] := World.ownsRow_lit (size := 1) wc #[.int .u8 (n / 256), .int .u8 (n % 256)] 2 H5.out.size (by unfold maxLen; omega) rfl
      have k1 : (convert 22 9 (.slice (some ⟨wc.heap.size, 0, none⟩) 2 2)).run Try.prog (wc.alloc (.cells #[.int .u8 (n / 256), .int .u8 (n % 256)] 5)) = .ok (.string (strB [n / 256, n % 256])) (wc.alloc (.cells #[.int .u8 (n / 256), .int .u8 (n % 256)] 5)) := r6.conv
      have H6 : Hid (Below w.heap.size w (wc.alloc (.cells #[.int .u8 (n / 256), .int .u8 (n % 256)] 5))) := H5.out.alloc H5.out.size _
      clear r6
      have hsz2 : (strB [n / 256, n % 256]).size = 2 := by rw [strB_size]; rfl
      have ho := Q2'.out (strB [n / 256, n % 256]) (by omega) hsz2 (by show (((UInt8.ofNat (n / 256).toNat).toNat : Int)) * 256 + ((UInt8.ofNat (n % 256).toNat).toNat : Int) = n; rw [UInt8.toNat_ofNat', UInt8.toNat_ofNat']; omega)
      have I3 : ∀ w6 : World, Calls Try.prog 11 #[.string (t ++ strB [n / 256, n % 256])] w6 (fun e w' => e = .returned (.int .i64 0) ∧ Below w6.heap.size w6 w') := fun w6 => by
        have := I1'.out (t ++ strB [n / 256, n % 256]) w6 (by rw [ByteArray.size_append, hsz2]; omega)
        rw [ho] at this
        exact this
      have I4 : ∀ (u : ByteArray) (w6 : World), u.size = t.size → totalTo u (u.size / 2) = totalTo t (t.size / 2) → Calls Try.prog 11 #[.string u] w6 (fun e w' => e = .returned (.int .i64 n) ∧ Below w6.heap.size w6 w') := fun u w6 h1 h2 => by
        have := I1'.out u w6 (by omega)
        rw [Q3'.out u h1 (by rw [show (u.size + 1) / 2 = u.size / 2 by omega, h2, h1])] at this
        exact this
      have I3' : Hid _ := I3
      have I4' : Hid _ := I4
      clear I3 I4 ho
      have hmax : t.size + 2 ≤ maxLen := by unfold maxLen; omega
      go_wp2_with fail
      clear k1
      generalize strB [n / 256, n % 256] = own at hsz2 I3' ⊢
      generalize wc.alloc (.cells #[.int .u8 (n / 256), .int .u8 (n % 256)] 5) = w6 at H6 ⊢
      go_loop [9, 10] (fun back i => ∃ (u : ByteArray) (j : Nat) (iv : Int), back = .string u ∧ i = .int .i64 iv ∧ Hid (iv = 2 * (j : Int) ∧ 2 * j ≤ t.size ∧ u.size + 2 * j = t.size ∧ totalTo u (u.size / 2) + totalTo t j = totalTo t (t.size / 2))) (fun _ i => (intOf i).toNat)
      case atStart =>
        exact ⟨_, t.size / 2, _, rfl, rfl, by show (t.size : Int) = 2 * ((t.size / 2 : Nat) : Int); omega, by omega, by show 0 + 2 * (t.size / 2) = t.size; omega, by show totalTo _ 0 + _ = _; rw [show totalTo ⟨#[]⟩ 0 = 0 from rfl]; omega⟩
      case round =>
        obtain ⟨u, j, iv, rfl, rfl, hj⟩ := hrel
        by_cases hiv : 2 ≤ iv
        · obtain ⟨k, rfl⟩ : ∃ k, j = k + 1 := ⟨j - 1, by have := hj.out.1; omega⟩
          have e1 : (iv - 2).toNat = 2 * k := by have := hj.out.1; omega
          have e2 : iv.toNat = 2 * k + 2 := by have := hj.out.1; omega
          have q0 : 0 ≤ iv - 2 := by omega
          have q1 : iv - 2 ≤ iv := by omega
          have q2 : iv ≤ t.size := by have := hj.out.1; have := hj.out.2.1; omega
          have q3 : 0 ≤ iv := by omega
          have q4 : iv ≤ 13 := by omega
          have q5 : u.size ≤ 13 := by have := hj.out.2.2.1; omega
          have hx : (t.extract (2 * k) (2 * k + 2)).size = 2 := by rw [ByteArray.size_extract]; have := hj.out.2.1; omega
          have hmx : u.size + 2 ≤ maxLen := by unfold maxLen; omega
          have T := total_pair u t (u.size / 2) k (by have := hj.out.2.2.1; omega) (by have := hj.out.2.1; omega)
          have hn : Hid (iv - 2 = 2 * (k : Int) ∧ 2 * k ≤ t.size ∧ (u ++ t.extract (2 * k) (2 * k + 2)).size + 2 * k = t.size ∧ totalTo (u ++ t.extract (2 * k) (2 * k + 2)) ((u ++ t.extract (2 * k) (2 * k + 2)).size / 2) + totalTo t k = totalTo t (t.size / 2)) := by
            have hs : (u ++ t.extract (2 * k) (2 * k + 2)).size = u.size + 2 := by rw [ByteArray.size_append, hx]
            have h4 := hj.out.2.2.2
            have hr : totalTo t (k + 1) = totalTo t k + (byteAt t (2 * k) * 256 + byteAt t (2 * k + 1)) := rfl
            refine ⟨by have := hj.out.1; omega, by have := hj.out.2.1; omega, by rw [hs]; have := hj.out.2.2.1; omega, ?_⟩
            rw [hs, show (u.size + 2) / 2 = u.size / 2 + 1 by omega, T]
            omega
          clear T hj
          go_wp2
          go_round
          case rel => exact ⟨_, k, iv - 2, rfl, rfl, hn⟩
          case measure => simp [intOf]; omega
        · have hiv' : iv < 2 := by omega
          obtain rfl : j = 0 := by have := hj.out.1; omega
          have J4 := I4'.out u
          have hu := hj.out.2.2.1
          have hv := hj.out.2.2.2
          have J4' : Hid (∀ w6 : World, Calls Try.prog 11 #[.string u] w6 (fun e w' => e = .returned (.int .i64 n) ∧ Below w6.heap.size w6 w')) := fun w6 => J4 w6 (by omega) (by rw [← hv]; show _ = _ + 0; omega)
          clear J4 hu hv hj
          go_wp2_with fail
          refine (I3'.out w6).mono ?_
          rintro e w7 ⟨rfl, b7⟩
          have H7 : Hid (Below w.heap.size w w7) := H6.out.trans (b7.mono H6.out.size)
          clear b7
          go_wp2_with fail
          refine (J4'.out w7).mono ?_
          rintro e w8 ⟨rfl, b8⟩
          have H8 : Hid (Below w.heap.size w w8) := H7.out.trans (b8.mono H7.out.size)
          clear b8
          go_wp2
          go_ret
          exact ⟨rfl, H8.out⟩
end Go.Proofs.Yteegbmgkjmpkhaa
