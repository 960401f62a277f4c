/-
  The walk of the law of what is renewed. By the verifier.
-/
import Derived.Test.YtppgidcebhfjkaaDrawMk
import Derived.Test.YtppgidcebhfjkaaSumMark
import Derived.Test.YtppgidcebhfjkaaSumMarkI
import Derived.Test.YtppgidcebhfjkaaSumRenew
import Derived.Test.YtppgidcebhfjkaaDrawTri
import Derived.Test.YtppgidcebhfjkaaDrawText
import Derived.Test.YtppgidcebhfjkaaPick
import Derived.Test.YtppgidcebhfjkaaLike
import Derived.Test.YtppgidcebhfjkaaSumSwap
import Derived.Test.YtppgidcebhfjkaaQuiet
import Derived.BigQuiet
import Derived.Deep.DeepCutAuto
import Derived.Deep.RegionLaw
namespace Go.Proofs.Ytppgidcebhfjkaa
open Go.RowKit

/-- What lies in a world: frames' cells, lists of tags, and all that lay. -/
def Lie (w : World) (bs : List (Nat × Array Value)) (ts : List (Option Addr × List Int)) (x : World) : Prop := (∀ p ∈ bs, Boxed x p.1 p.2 29) ∧ (∀ p ∈ ts, IntsAt x p.1 p.2) ∧ Below w.heap.size w x
theorem Lie.below {w : World} {bs : List (Nat × Array Value)} {ts : List (Option Addr × List Int)} {x y : World} (h : Lie w bs ts x) (g : Below x.heap.size x y) : Lie w bs ts y :=
  ⟨fun p hp => (h.1 p hp).below (h.1 p hp).under g, fun p hp => (h.2.1 p hp).below g, h.2.2.trans (g.mono h.2.2.size)⟩
theorem Lie.box {w : World} {bs : List (Nat × Array Value)} {ts : List (Option Addr × List Int)} {x : World} (h : Lie w bs ts x) (cs : Array Value) : Lie w ((x.heap.size, cs) :: bs) ts (x.alloc (.cells cs 29)) := by
  have h2 := h.below ((Below.refl _ x).alloc (Nat.le_refl _) (.cells cs 29))
  refine ⟨fun p hp => ?_, h2.2⟩
  rcases List.mem_cons.1 hp with rfl | h1
  · exact Boxed.new _ _ _
  · exact h2.1 p h1
theorem Lie.tags {w : World} {bs : List (Nat × Array Value)} {ts : List (Option Addr × List Int)} {x : World} (h : Lie w bs ts x) (a : Option Addr) (l : List Int) (hr : IntsAt x a l) : Lie w bs ((a, l) :: ts) x := by
  refine ⟨h.1, fun p hp => ?_, h.2.2⟩
  rcases List.mem_cons.1 hp with rfl | h1
  · exact hr
  · exact h.2.1 p h1
theorem Lie.boxed {w : World} {bs : List (Nat × Array Value)} {ts : List (Option Addr × List Int)} {x : World} (h : Lie w bs ts x) (p : Nat × Array Value) (hp : p ∈ bs) : Boxed x p.1 p.2 29 := h.1 p hp
theorem Lie.ints {w : World} {bs : List (Nat × Array Value)} {ts : List (Option Addr × List Int)} {x : World} (h : Lie w bs ts x) (p : Option Addr × List Int) (hp : p ∈ ts) : IntsAt x p.1 p.2 := h.2.1 p hp

theorem marked_facts {f : Fr} {m : Int} {M : Fr} {is : Bool} (h : markedOr f m = (M, is)) (hT : f.tags.length ≤ 3) : M.tags.length ≤ 3 ∧ (is = true → M.mark = m ∧ M.sum = M.sumOr ∧ M.body = f.body ∧ M.dst = f.dst ∧ M.ok = true) := by
  cases hg : good f m
  · rw [markedOr_no hg] at h
    cases h
    exact ⟨by simp [noFr], fun e => by cases e⟩
  · rw [markedOr_yes hg] at h
    cases h
    refine ⟨hT, fun _ => ?_⟩
    have hg2 := hg
    unfold good at hg2
    rw [Bool.and_eq_true, Bool.and_eq_true] at hg2
    have hok : (f.marked m).ok = true := by
      have h1 := Fr.withMark_ok hg2.1.1 hg2.1.2
      rw [Fr.ok_true] at h1 ⊢
      obtain ⟨h1, h2, h3, h4, h5, h6, h7, h8, h9, h10, h11, h12⟩ := h1
      exact ⟨h1, h2, h3, h4, h5, h6, h7, h8, h9, Fr.sumOf_in _, h11, h12⟩
    refine ⟨rfl, ?_, rfl, rfl, hok⟩
    unfold Fr.sumOr
    rw [if_pos hok]
    rfl
theorem renewed_cases (s o n : Int) : renewedOr s o n = -1 ∨ (0 ≤ renewedOr s o n ∧ 0 ≤ n ∧ n ≤ 65535) := by
  unfold renewedOr
  cases h : (inB 0 65535 s && inB 0 65535 o && inB 0 65535 n)
  · exact .inl rfl
  · rw [Bool.and_eq_true, Bool.and_eq_true, inB_true, inB_true, inB_true] at h
    obtain ⟨⟨⟨h1, h2⟩, ⟨h3, h4⟩⟩, ⟨h5, h6⟩⟩ := h
    have a := fold16_in (show 0 ≤ 65535 - s by omega) (by omega) (show 0 ≤ 65535 - o by omega) (by omega)
    have b := fold16_in a.1 a.2 h5 h6
    rw [if_pos rfl]
    exact .inr ⟨by omega, h5, h6⟩

theorem swap_facts (s : ByteArray) (k : Nat) (fresh : Int) (n0 : 0 ≤ fresh) (n1 : fresh ≤ 65535) (hk : 2 * k + 2 ≤ s.size) (t : ByteArray) (ht : t = s.extract 0 (2 * k) ++ strB [fresh / 256, fresh % 256] ++ s.extract (2 * k + 2) s.size) :
    t.size = s.size ∧ pairN t k = fresh ∧ ∀ i, i ≠ 2 * k → i ≠ 2 * k + 1 → byteAt t i = byteAt s i := by
  have hA : (s.extract 0 (2 * k)).size = 2 * k := by rw [ByteArray.size_extract]; omega
  have hB : (strB [fresh / 256, fresh % 256]).size = 2 := by rw [strB_size]; rfl
  have hC : (s.extract (2 * k + 2) s.size).size = s.size - (2 * k + 2) := by rw [ByteArray.size_extract]; omega
  have hAB : (s.extract 0 (2 * k) ++ strB [fresh / 256, fresh % 256]).size = 2 * k + 2 := by rw [ByteArray.size_append, hA, hB]
  have b0 : byteAt (strB [fresh / 256, fresh % 256]) 0 = fresh / 256 := by
    show ((UInt8.ofNat (fresh / 256).toNat).toNat : Int) = _
    rw [UInt8.toNat_ofNat']
    omega
  have b1 : byteAt (strB [fresh / 256, fresh % 256]) 1 = fresh % 256 := by
    show ((UInt8.ofNat (fresh % 256).toNat).toNat : Int) = _
    rw [UInt8.toNat_ofNat']
    omega
  have c0 := byteAt_right (s.extract 0 (2 * k)) (strB [fresh / 256, fresh % 256]) 0
  have c1 := byteAt_right (s.extract 0 (2 * k)) (strB [fresh / 256, fresh % 256]) 1
  rw [hA] at c0 c1
  refine ⟨by rw [ht, ByteArray.size_append, hAB, hC]; omega, ?_, fun i h0 h1 => ?_⟩
  · have d0 : byteAt t (2 * k) = fresh / 256 := by
      rw [ht, byteAt_left (s.extract 0 (2 * k) ++ strB [fresh / 256, fresh % 256]) _ (by rw [hAB]; omega)]
      exact c0.trans b0
    have d1 : byteAt t (2 * k + 1) = fresh % 256 := by
      rw [ht, byteAt_left (s.extract 0 (2 * k) ++ strB [fresh / 256, fresh % 256]) _ (by rw [hAB]; omega)]
      exact c1.trans b1
    unfold pairN
    rw [d0, d1]
    omega
  · rw [ht]
    by_cases hi : i < 2 * k
    · rw [byteAt_left _ _ (by rw [hAB]; omega), byteAt_left _ _ (by rw [hA]; exact hi), byteAt_extract s 0 (2 * k) (by omega) (by omega), Nat.zero_add]
    · obtain ⟨j, rfl⟩ : ∃ j, i = 2 * k + 2 + j := ⟨i - (2 * k + 2), by omega⟩
      have c2 := byteAt_right (s.extract 0 (2 * k) ++ strB [fresh / 256, fresh % 256]) (s.extract (2 * k + 2) s.size) j
      rw [hAB] at c2
      rw [c2]
      by_cases hj : j < s.size - (2 * k + 2)
      · rw [byteAt_extract s (2 * k + 2) s.size (Nat.le_refl _) hj]
      · rw [byteAt_beyond _ (by rw [hC]; omega), byteAt_beyond _ (by omega)]

set_option maxHeartbeats 12800000 in
set_option maxRecDepth 100000 in
theorem fnRenewed_walk (a : Option Addr) (len cap : Nat) (w : World)
    (hcode : ∀ k, k < len → ∃ b off z, a = some ⟨b, off, none⟩ ∧ b < w.heap.size ∧ w.cell? ⟨b, off + k, none⟩ = some (.int .u8 z) ∧ 0 ≤ z ∧ z ≤ 255) :
    Calls Try.prog 3 #[.slice a len cap] w fun e w' => e = .returned (.bool true) ∧ Below w.heap.size w w' := by
  by_cases hbig : 4096 < len
  · clear hcode
    go_enter Try.func3, Try.ntmps3
    go_wp2
    go_ret
    exact ⟨rfl, Below.refl _ _⟩
  have hc : Hid (Code w a len) := ⟨by omega, hcode⟩
  have hb : Hid (Below w.heap.size w w) := Below.refl _ _
  clear hcode
  go_enter Try.func3, Try.ntmps3
  go_wp2_with (go_at_call 4; go_in)
  refine (drawRenewed hc _ hb).mono ?_
  rintro e w1 ⟨⟨sum, old, fresh, rfl, -, -, -⟩, b1⟩
  have H1 : Hid (Below w.heap.size w w1) := b1
  clear b1 hb
  have RI := fun w => implRenewed sum old fresh w
  have RS := fun w => specRenewed sum old fresh w
  have hr := renewed_cases sum old fresh
  generalize renewedOr sum old fresh = r at RI RS hr
  have RI' : Hid _ := RI
  have RS' : Hid _ := RS
  have Hr : Hid _ := hr
  clear RI RS hr
  go_wp2_with fail
  refine (RI'.out _).mono ?_
  rintro e w2 ⟨rfl, n2⟩
  have H2 : Hid (Below w.heap.size w w2) := H1.out.trans (n2.2.mono H1.out.size)
  clear n2 H1 RI'
  go_wp2_with fail
  refine (drawMarked hc _ H2).mono ?_
  rintro e w3 ⟨⟨F, a7, c7, mk, rfl, hT, hB, row⟩, b3⟩
  have K3 : Hid (Lie w [] [(a7, F.tags)] w3) := Lie.tags (bs := []) (ts := []) ⟨(fun p hp => by cases hp), (fun p hp => by cases hp), H2.out.trans (b3.mono H2.out.size)⟩ a7 F.tags row.ints
  clear row b3 H2
  have MI := fun w h => implMarked F mk a7 c7 w (by omega) h
  have MS := fun w h => specMarked F mk a7 c7 w (by omega) h
  obtain ⟨R, hR⟩ : ∃ R, markedOr F mk = R := ⟨_, rfl⟩
  rw [hR] at MI MS
  obtain ⟨M, is⟩ := R
  have MF := marked_facts hR hT
  unfold MPost at MI MS
  simp only [] at MI MS
  have LK := fun a1 a2 c1 c2 w h1 h2 => likeFrames M a1 a2 c1 c2 w (by omega) h1 h2
  have SM := fun a c w h => implSumOf M a c w (by omega) h
  have OM := fun a c w h => implFrameOk M a c w (by omega) h
  have Mrow : Hid (∀ b w a c, IRow b w (.slice a M.tags.length c) M.tags → IntsAt w a M.tags) := fun b w a c h => h.ints
  obtain ⟨hMT, hMF⟩ := MF
  generalize M.sumOr = so at SM hMF
  generalize M.ok = ok at OM hMF
  obtain ⟨f0, f1, ft, f3, f4, f5, f6, f7, f8, f9, fb⟩ := F
  obtain ⟨m0, m1, mt, m3, m4, m5, m6, m7, m8, m9, mb⟩ := M
  simp only [Fr.val] at MI MS LK SM OM Mrow hMT hMF hT hB K3 ⊢
  obtain ⟨nf, hnf⟩ : ∃ n, ft.length = n := ⟨_, rfl⟩
  obtain ⟨nm, hnm⟩ : ∃ n, mt.length = n := ⟨_, rfl⟩
  simp only [hnf] at MI MS hT ⊢
  simp only [hnm] at MI MS LK SM OM Mrow hMT
  have MI' : Hid _ := MI
  have MS' : Hid _ := MS
  have LK' : Hid _ := LK
  have SM' : Hid _ := SM
  have OM' : Hid _ := OM
  have MF' : Hid _ := hMF
  clear MI MS LK SM OM hMF hR hnf hnm
  go_wp2_with fail
  have K4 : Hid (Lie w [(w3.heap.size, #[.int .i64 f0, .int .i64 f1, .slice a7 nf c7, .int .i64 f3, .int .i64 f4, .int .i64 f5, .int .i64 f6, .int .i64 f7, .int .i64 f8, .int .i64 f9, .string fb])] [(a7, ft)] (w3.alloc (.cells #[.int .i64 f0, .int .i64 f1, .slice a7 nf c7, .int .i64 f3, .int .i64 f4, .int .i64 f5, .int .i64 f6, .int .i64 f7, .int .i64 f8, .int .i64 f9, .string fb] 29))) := K3.out.box _
  refine (MI'.out _ (K4.out.ints (a7, ft) (by simp))).mono ?_
  rintro e w5 ⟨a9, c9, rfl, row, b5⟩
  have K5 : Hid (Lie w [(w3.heap.size, #[.int .i64 f0, .int .i64 f1, .slice a7 nf c7, .int .i64 f3, .int .i64 f4, .int .i64 f5, .int .i64 f6, .int .i64 f7, .int .i64 f8, .int .i64 f9, .string fb])] [(a9, mt), (a7, ft)] w5) := (K4.out.below b5).tags a9 mt (Mrow.out _ _ _ _ row)
  clear row b5 K4 K3 MI'
  generalize w3.heap.size = B7 at K5 ⊢
  go_wp2_with fail
  have K6 : Hid (Lie w [(w5.heap.size, #[.int .i64 m0, .int .i64 m1, .slice a9 nm c9, .int .i64 m3, .int .i64 m4, .int .i64 m5, .int .i64 m6, .int .i64 m7, .int .i64 m8, .int .i64 m9, .string mb]), (B7, #[.int .i64 f0, .int .i64 f1, .slice a7 nf c7, .int .i64 f3, .int .i64 f4, .int .i64 f5, .int .i64 f6, .int .i64 f7, .int .i64 f8, .int .i64 f9, .string fb])] [(a9, mt), (a7, ft)] (w5.alloc (.cells #[.int .i64 m0, .int .i64 m1, .slice a9 nm c9, .int .i64 m3, .int .i64 m4, .int .i64 m5, .int .i64 m6, .int .i64 m7, .int .i64 m8, .int .i64 m9, .string mb] 29))) := K5.out.box _
  clear K5
  obtain ⟨w6, hw6⟩ : ∃ w6, w6 = w5.alloc (.cells #[.int .i64 m0, .int .i64 m1, .slice a9 nm c9, .int .i64 m3, .int .i64 m4, .int .i64 m5, .int .i64 m6, .int .i64 m7, .int .i64 m8, .int .i64 m9, .string mb] 29) := ⟨_, rfl⟩
  rw [← hw6] at K6 ⊢
  generalize w5.heap.size = B9 at K6 ⊢
  clear hw6
  refine (drawSumOf hc _ K6.out.2.2).mono ?_
  rintro e w7 ⟨⟨G, ag, cg, rfl, gT, gB, row⟩, b7⟩
  have K7 : Hid (Lie w [(B9, #[.int .i64 m0, .int .i64 m1, .slice a9 nm c9, .int .i64 m3, .int .i64 m4, .int .i64 m5, .int .i64 m6, .int .i64 m7, .int .i64 m8, .int .i64 m9, .string mb]), (B7, #[.int .i64 f0, .int .i64 f1, .slice a7 nf c7, .int .i64 f3, .int .i64 f4, .int .i64 f5, .int .i64 f6, .int .i64 f7, .int .i64 f8, .int .i64 f9, .string fb])] [(ag, G.tags), (a9, mt), (a7, ft)] w7) := (K6.out.below b7).tags ag G.tags row.ints
  clear row b7 K6
  have GI := fun w h => implSumOf G ag cg w (by omega) h
  have GS := fun w h => specSumOf G ag cg w (by omega) h
  generalize G.sumOr = sg at GI GS
  obtain ⟨g0, g1, gt, g3, g4, g5, g6, g7, g8, g9, gb⟩ := G
  simp only [Fr.val] at GI GS gT gB K7 ⊢
  obtain ⟨ng, hng⟩ : ∃ n, gt.length = n := ⟨_, rfl⟩
  simp only [hng] at GI GS gT ⊢
  have GI' : Hid _ := GI
  have GS' : Hid _ := GS
  clear GI GS hng
  obtain ⟨w8, hw8⟩ : ∃ w8, w8 = w7.alloc (.cells #[.int .i64 g0, .int .i64 g1, .slice ag ng cg, .int .i64 g3, .int .i64 g4, .int .i64 g5, .int .i64 g6, .int .i64 g7, .int .i64 g8, .int .i64 g9, .string gb] 29) := ⟨_, rfl⟩
  have K8 : Hid (Lie w [(w7.heap.size, #[.int .i64 g0, .int .i64 g1, .slice ag ng cg, .int .i64 g3, .int .i64 g4, .int .i64 g5, .int .i64 g6, .int .i64 g7, .int .i64 g8, .int .i64 g9, .string gb]), (B9, #[.int .i64 m0, .int .i64 m1, .slice a9 nm c9, .int .i64 m3, .int .i64 m4, .int .i64 m5, .int .i64 m6, .int .i64 m7, .int .i64 m8, .int .i64 m9, .string mb]), (B7, #[.int .i64 f0, .int .i64 f1, .slice a7 nf c7, .int .i64 f3, .int .i64 f4, .int .i64 f5, .int .i64 f6, .int .i64 f7, .int .i64 f8, .int .i64 f9, .string fb])] [(ag, gt), (a9, mt), (a7, ft)] w8) := by rw [hw8]; exact K7.out.box _
  have X7 : Boxed w8 B7 #[.int .i64 f0, .int .i64 f1, .slice a7 nf c7, .int .i64 f3, .int .i64 f4, .int .i64 f5, .int .i64 f6, .int .i64 f7, .int .i64 f8, .int .i64 f9, .string fb] 29 := K8.out.boxed (B7, _) (by simp)
  rw [hw8] at X7
  go_wp2_with (refine wpList_load_row rfl 29 (.tmp 7) rfl B7 rfl _ _ _ _ X7 Try.underlying29 rfl (by kernel_rfl) ?_)
  rw [← hw8]
  generalize w7.heap.size = B11 at K8 ⊢
  clear hw8 X7 K7
  refine (MS'.out _ (K8.out.ints (a7, ft) (by simp))).mono ?_
  rintro e w9 ⟨ax, cx, rfl, row, b9⟩
  have K9 : Hid (Lie w [(B11, #[.int .i64 g0, .int .i64 g1, .slice ag ng cg, .int .i64 g3, .int .i64 g4, .int .i64 g5, .int .i64 g6, .int .i64 g7, .int .i64 g8, .int .i64 g9, .string gb]), (B9, #[.int .i64 m0, .int .i64 m1, .slice a9 nm c9, .int .i64 m3, .int .i64 m4, .int .i64 m5, .int .i64 m6, .int .i64 m7, .int .i64 m8, .int .i64 m9, .string mb]), (B7, #[.int .i64 f0, .int .i64 f1, .slice a7 nf c7, .int .i64 f3, .int .i64 f4, .int .i64 f5, .int .i64 f6, .int .i64 f7, .int .i64 f8, .int .i64 f9, .string fb])] [(ax, mt), (ag, gt), (a9, mt), (a7, ft)] w9) := (K8.out.below b9).tags ax mt (Mrow.out _ _ _ _ row)
  clear row b9 K8 MS'
  go_wp2_with fail
  have KA : Hid (Lie w [(w9.heap.size, #[.int .i64 m0, .int .i64 m1, .slice ax nm cx, .int .i64 m3, .int .i64 m4, .int .i64 m5, .int .i64 m6, .int .i64 m7, .int .i64 m8, .int .i64 m9, .string mb]), (B11, #[.int .i64 g0, .int .i64 g1, .slice ag ng cg, .int .i64 g3, .int .i64 g4, .int .i64 g5, .int .i64 g6, .int .i64 g7, .int .i64 g8, .int .i64 g9, .string gb]), (B9, #[.int .i64 m0, .int .i64 m1, .slice a9 nm c9, .int .i64 m3, .int .i64 m4, .int .i64 m5, .int .i64 m6, .int .i64 m7, .int .i64 m8, .int .i64 m9, .string mb]), (B7, #[.int .i64 f0, .int .i64 f1, .slice a7 nf c7, .int .i64 f3, .int .i64 f4, .int .i64 f5, .int .i64 f6, .int .i64 f7, .int .i64 f8, .int .i64 f9, .string fb])] [(ax, mt), (ag, gt), (a9, mt), (a7, ft)] (w9.alloc (.cells #[.int .i64 m0, .int .i64 m1, .slice ax nm cx, .int .i64 m3, .int .i64 m4, .int .i64 m5, .int .i64 m6, .int .i64 m7, .int .i64 m8, .int .i64 m9, .string mb] 29))) := K9.out.box _
  clear K9
  obtain ⟨wA, hwA⟩ : ∃ wA, wA = w9.alloc (.cells #[.int .i64 m0, .int .i64 m1, .slice ax nm cx, .int .i64 m3, .int .i64 m4, .int .i64 m5, .int .i64 m6, .int .i64 m7, .int .i64 m8, .int .i64 m9, .string mb] 29) := ⟨_, rfl⟩
  rw [← hwA] at KA ⊢
  generalize w9.heap.size = B12 at KA ⊢
  clear hwA
  have YB9 : Hid (Boxed wA B9 #[.int .i64 m0, .int .i64 m1, .slice a9 nm c9, .int .i64 m3, .int .i64 m4, .int .i64 m5, .int .i64 m6, .int .i64 m7, .int .i64 m8, .int .i64 m9, .string mb] 29) := KA.out.boxed (B9, #[.int .i64 m0, .int .i64 m1, .slice a9 nm c9, .int .i64 m3, .int .i64 m4, .int .i64 m5, .int .i64 m6, .int .i64 m7, .int .i64 m8, .int .i64 m9, .string mb]) (by simp)
  have u0 : ∀ p : BelW wA.heap.size wA, p.w'.cell? ⟨B9, 0, none⟩ = some (.int .i64 m0) := fun p => (YB9.out.below YB9.out.under p.h).cell 0 rfl
  have u1 : ∀ p : BelW wA.heap.size wA, p.w'.cell? ⟨B9, 1, none⟩ = some (.int .i64 m1) := fun p => (YB9.out.below YB9.out.under p.h).cell 1 rfl
  have u2 : ∀ p : BelW wA.heap.size wA, p.w'.cell? ⟨B9, 2, none⟩ = some (.slice a9 nm c9) := fun p => (YB9.out.below YB9.out.under p.h).cell 2 rfl
  have u3 : ∀ p : BelW wA.heap.size wA, p.w'.cell? ⟨B9, 3, none⟩ = some (.int .i64 m3) := fun p => (YB9.out.below YB9.out.under p.h).cell 3 rfl
  have u4 : ∀ p : BelW wA.heap.size wA, p.w'.cell? ⟨B9, 4, none⟩ = some (.int .i64 m4) := fun p => (YB9.out.below YB9.out.under p.h).cell 4 rfl
  have u5 : ∀ p : BelW wA.heap.size wA, p.w'.cell? ⟨B9, 5, none⟩ = some (.int .i64 m5) := fun p => (YB9.out.below YB9.out.under p.h).cell 5 rfl
  have u6 : ∀ p : BelW wA.heap.size wA, p.w'.cell? ⟨B9, 6, none⟩ = some (.int .i64 m6) := fun p => (YB9.out.below YB9.out.under p.h).cell 6 rfl
  have u7 : ∀ p : BelW wA.heap.size wA, p.w'.cell? ⟨B9, 7, none⟩ = some (.int .i64 m7) := fun p => (YB9.out.below YB9.out.under p.h).cell 7 rfl
  have u8 : ∀ p : BelW wA.heap.size wA, p.w'.cell? ⟨B9, 8, none⟩ = some (.int .i64 m8) := fun p => (YB9.out.below YB9.out.under p.h).cell 8 rfl
  have u9 : ∀ p : BelW wA.heap.size wA, p.w'.cell? ⟨B9, 9, none⟩ = some (.int .i64 m9) := fun p => (YB9.out.below YB9.out.under p.h).cell 9 rfl
  have u10 : ∀ p : BelW wA.heap.size wA, p.w'.cell? ⟨B9, 10, none⟩ = some (.string mb) := fun p => (YB9.out.below YB9.out.under p.h).cell 10 rfl
  clear YB9
  have YB12 : Hid (Boxed wA B12 #[.int .i64 m0, .int .i64 m1, .slice ax nm cx, .int .i64 m3, .int .i64 m4, .int .i64 m5, .int .i64 m6, .int .i64 m7, .int .i64 m8, .int .i64 m9, .string mb] 29) := KA.out.boxed (B12, #[.int .i64 m0, .int .i64 m1, .slice ax nm cx, .int .i64 m3, .int .i64 m4, .int .i64 m5, .int .i64 m6, .int .i64 m7, .int .i64 m8, .int .i64 m9, .string mb]) (by simp)
  have v0 : ∀ p : BelW wA.heap.size wA, p.w'.cell? ⟨B12, 0, none⟩ = some (.int .i64 m0) := fun p => (YB12.out.below YB12.out.under p.h).cell 0 rfl
  have v1 : ∀ p : BelW wA.heap.size wA, p.w'.cell? ⟨B12, 1, none⟩ = some (.int .i64 m1) := fun p => (YB12.out.below YB12.out.under p.h).cell 1 rfl
  have v2 : ∀ p : BelW wA.heap.size wA, p.w'.cell? ⟨B12, 2, none⟩ = some (.slice ax nm cx) := fun p => (YB12.out.below YB12.out.under p.h).cell 2 rfl
  have v3 : ∀ p : BelW wA.heap.size wA, p.w'.cell? ⟨B12, 3, none⟩ = some (.int .i64 m3) := fun p => (YB12.out.below YB12.out.under p.h).cell 3 rfl
  have v4 : ∀ p : BelW wA.heap.size wA, p.w'.cell? ⟨B12, 4, none⟩ = some (.int .i64 m4) := fun p => (YB12.out.below YB12.out.under p.h).cell 4 rfl
  have v5 : ∀ p : BelW wA.heap.size wA, p.w'.cell? ⟨B12, 5, none⟩ = some (.int .i64 m5) := fun p => (YB12.out.below YB12.out.under p.h).cell 5 rfl
  have v6 : ∀ p : BelW wA.heap.size wA, p.w'.cell? ⟨B12, 6, none⟩ = some (.int .i64 m6) := fun p => (YB12.out.below YB12.out.under p.h).cell 6 rfl
  have v7 : ∀ p : BelW wA.heap.size wA, p.w'.cell? ⟨B12, 7, none⟩ = some (.int .i64 m7) := fun p => (YB12.out.below YB12.out.under p.h).cell 7 rfl
  have v8 : ∀ p : BelW wA.heap.size wA, p.w'.cell? ⟨B12, 8, none⟩ = some (.int .i64 m8) := fun p => (YB12.out.below YB12.out.under p.h).cell 8 rfl
  have v9 : ∀ p : BelW wA.heap.size wA, p.w'.cell? ⟨B12, 9, none⟩ = some (.int .i64 m9) := fun p => (YB12.out.below YB12.out.under p.h).cell 9 rfl
  have v10 : ∀ p : BelW wA.heap.size wA, p.w'.cell? ⟨B12, 10, none⟩ = some (.string mb) := fun p => (YB12.out.below YB12.out.under p.h).cell 10 rfl
  clear YB12
  have YB11 : Hid (Boxed wA B11 #[.int .i64 g0, .int .i64 g1, .slice ag ng cg, .int .i64 g3, .int .i64 g4, .int .i64 g5, .int .i64 g6, .int .i64 g7, .int .i64 g8, .int .i64 g9, .string gb] 29) := KA.out.boxed (B11, #[.int .i64 g0, .int .i64 g1, .slice ag ng cg, .int .i64 g3, .int .i64 g4, .int .i64 g5, .int .i64 g6, .int .i64 g7, .int .i64 g8, .int .i64 g9, .string gb]) (by simp)
  have x0 : ∀ p : BelW wA.heap.size wA, p.w'.cell? ⟨B11, 0, none⟩ = some (.int .i64 g0) := fun p => (YB11.out.below YB11.out.under p.h).cell 0 rfl
  have x1 : ∀ p : BelW wA.heap.size wA, p.w'.cell? ⟨B11, 1, none⟩ = some (.int .i64 g1) := fun p => (YB11.out.below YB11.out.under p.h).cell 1 rfl
  have x2 : ∀ p : BelW wA.heap.size wA, p.w'.cell? ⟨B11, 2, none⟩ = some (.slice ag ng cg) := fun p => (YB11.out.below YB11.out.under p.h).cell 2 rfl
  have x3 : ∀ p : BelW wA.heap.size wA, p.w'.cell? ⟨B11, 3, none⟩ = some (.int .i64 g3) := fun p => (YB11.out.below YB11.out.under p.h).cell 3 rfl
  have x4 : ∀ p : BelW wA.heap.size wA, p.w'.cell? ⟨B11, 4, none⟩ = some (.int .i64 g4) := fun p => (YB11.out.below YB11.out.under p.h).cell 4 rfl
  have x5 : ∀ p : BelW wA.heap.size wA, p.w'.cell? ⟨B11, 5, none⟩ = some (.int .i64 g5) := fun p => (YB11.out.below YB11.out.under p.h).cell 5 rfl
  have x6 : ∀ p : BelW wA.heap.size wA, p.w'.cell? ⟨B11, 6, none⟩ = some (.int .i64 g6) := fun p => (YB11.out.below YB11.out.under p.h).cell 6 rfl
  have x7 : ∀ p : BelW wA.heap.size wA, p.w'.cell? ⟨B11, 7, none⟩ = some (.int .i64 g7) := fun p => (YB11.out.below YB11.out.under p.h).cell 7 rfl
  have x8 : ∀ p : BelW wA.heap.size wA, p.w'.cell? ⟨B11, 8, none⟩ = some (.int .i64 g8) := fun p => (YB11.out.below YB11.out.under p.h).cell 8 rfl
  have x9 : ∀ p : BelW wA.heap.size wA, p.w'.cell? ⟨B11, 9, none⟩ = some (.int .i64 g9) := fun p => (YB11.out.below YB11.out.under p.h).cell 9 rfl
  have x10 : ∀ p : BelW wA.heap.size wA, p.w'.cell? ⟨B11, 10, none⟩ = some (.string gb) := fun p => (YB11.out.below YB11.out.under p.h).cell 10 rfl
  clear YB11
  haveI : Nonempty (BelW wA.heap.size wA) := ⟨⟨wA, Below.refl _ _⟩⟩
  have Q1 := fun p : BelW wA.heap.size wA => LK'.out a9 ax c9 cx p.w' ((KA.out.ints (a9, mt) (by simp)).below p.h) ((KA.out.ints (ax, mt) (by simp)).below p.h)
  have Q2 : ∀ p : BelW wA.heap.size wA, Calls Try.prog 12 #[.int .i64 sum, .int .i64 old, .int .i64 fresh] p.w' fun e w' => e = .returned (.int .i64 r) ∧ Below p.w'.heap.size p.w' w' := fun p => (RS'.out p.w').mono fun e w' h => ⟨h.1, by rw [h.2]; exact Below.refl _ _⟩
  have Q3 := fun p : BelW wA.heap.size wA => GI'.out p.w' ((KA.out.ints (ag, gt) (by simp)).below p.h)
  have Q4 := fun p : BelW wA.heap.size wA => GS'.out p.w' ((KA.out.ints (ag, gt) (by simp)).below p.h)
  have Q1' : Hid _ := Q1
  have Q2' : Hid _ := Q2
  have Q3' : Hid _ := Q3
  have Q4' : Hid _ := Q4
  clear Q1 Q2 Q3 Q4 LK' RS' GI' GS'
  refine region_below wA.heap.size (by kernel_rfl) (by kernel_rfl) ?_
  repeat (go_big_quiet_step ((first | (go_at_call 11; refine quiet_below (Nat.le_refl _) (Q1'.out _)) | (go_at_call 12; refine quiet_below (Nat.le_refl _) (Q2'.out _)) | (go_at_call 13; refine quiet_below (Nat.le_refl _) (Q3'.out _)) | (go_at_call 14; refine quiet_below (Nat.le_refl _) (Q4'.out _)))))
  refine wpQuiet_nil ?_
  intro wq hx
  have hq := BelW.out hx
  have KB : Hid (Lie w [(B12, #[.int .i64 m0, .int .i64 m1, .slice ax nm cx, .int .i64 m3, .int .i64 m4, .int .i64 m5, .int .i64 m6, .int .i64 m7, .int .i64 m8, .int .i64 m9, .string mb]), (B11, #[.int .i64 g0, .int .i64 g1, .slice ag ng cg, .int .i64 g3, .int .i64 g4, .int .i64 g5, .int .i64 g6, .int .i64 g7, .int .i64 g8, .int .i64 g9, .string gb]), (B9, #[.int .i64 m0, .int .i64 m1, .slice a9 nm c9, .int .i64 m3, .int .i64 m4, .int .i64 m5, .int .i64 m6, .int .i64 m7, .int .i64 m8, .int .i64 m9, .string mb]), (B7, #[.int .i64 f0, .int .i64 f1, .slice a7 nf c7, .int .i64 f3, .int .i64 f4, .int .i64 f5, .int .i64 f6, .int .i64 f7, .int .i64 f8, .int .i64 f9, .string fb])] [(ax, mt), (ag, gt), (a9, mt), (a7, ft)] wq) := KA.out.below hq
  clear hx hq KA u0 u1 u2 u3 u4 u5 u6 u7 u8 u9 u10 v0 v1 v2 v3 v4 v5 v6 v7 v8 v9 v10 x0 x1 x2 x3 x4 x5 x6 x7 x8 x9 x10 Q1' Q2' Q3' Q4'
  go_wp2_with fail
  go_cut [106] (fun s wc => Hid (s = .bool false ∧ Below w.heap.size w wc))
  case first =>
    haveI : Nonempty (BelW wq.heap.size wq) := ⟨⟨wq, Below.refl _ _⟩⟩
    cases is
    · refine region_below wq.heap.size (by kernel_rfl) (by kernel_rfl) ?_
      repeat (go_big_quiet_step (fail))
      refine wpQuiet_nil ?_
      intro wz hx
      have KC : Hid (Below w.heap.size w wz) := (KB.out.below (BelW.out hx)).2.2
      clear hx KB
      go_wp2_with fail
      go_meet
      exact ⟨rfl, KC.out⟩
    · obtain ⟨e1, e2, e3, e4, e5⟩ := MF'.out rfl
      subst e1
      subst e2
      subst e3
      subst e4
      subst e5
      have Y9 : Hid (Boxed wq B9 #[.int .i64 m0, .int .i64 m1, .slice a9 nm c9, .int .i64 m3, .int .i64 m4, .int .i64 m5, .int .i64 m6, .int .i64 m7, .int .i64 m8, .int .i64 m9, .string mb] 29) := KB.out.boxed (B9, #[.int .i64 m0, .int .i64 m1, .slice a9 nm c9, .int .i64 m3, .int .i64 m4, .int .i64 m5, .int .i64 m6, .int .i64 m7, .int .i64 m8, .int .i64 m9, .string mb]) (by simp)
      have Y7 : Hid (Boxed wq B7 #[.int .i64 f0, .int .i64 f1, .slice a7 nf c7, .int .i64 f3, .int .i64 m4, .int .i64 f5, .int .i64 f6, .int .i64 f7, .int .i64 f8, .int .i64 f9, .string mb] 29) := KB.out.boxed (B7, #[.int .i64 f0, .int .i64 f1, .slice a7 nf c7, .int .i64 f3, .int .i64 m4, .int .i64 f5, .int .i64 f6, .int .i64 f7, .int .i64 f8, .int .i64 f9, .string mb]) (by simp)

      have u0 : ∀ p : BelW wq.heap.size wq, p.w'.cell? ⟨B9, 0, none⟩ = some (.int .i64 m0) := fun p => (Y9.out.below Y9.out.under p.h).cell 0 rfl
      have u1 : ∀ p : BelW wq.heap.size wq, p.w'.cell? ⟨B9, 1, none⟩ = some (.int .i64 m1) := fun p => (Y9.out.below Y9.out.under p.h).cell 1 rfl
      have u2 : ∀ p : BelW wq.heap.size wq, p.w'.cell? ⟨B9, 2, none⟩ = some (.slice a9 nm c9) := fun p => (Y9.out.below Y9.out.under p.h).cell 2 rfl
      have u3 : ∀ p : BelW wq.heap.size wq, p.w'.cell? ⟨B9, 3, none⟩ = some (.int .i64 m3) := fun p => (Y9.out.below Y9.out.under p.h).cell 3 rfl
      have u4 : ∀ p : BelW wq.heap.size wq, p.w'.cell? ⟨B9, 4, none⟩ = some (.int .i64 m4) := fun p => (Y9.out.below Y9.out.under p.h).cell 4 rfl
      have u5 : ∀ p : BelW wq.heap.size wq, p.w'.cell? ⟨B9, 5, none⟩ = some (.int .i64 m5) := fun p => (Y9.out.below Y9.out.under p.h).cell 5 rfl
      have u6 : ∀ p : BelW wq.heap.size wq, p.w'.cell? ⟨B9, 6, none⟩ = some (.int .i64 m6) := fun p => (Y9.out.below Y9.out.under p.h).cell 6 rfl
      have u7 : ∀ p : BelW wq.heap.size wq, p.w'.cell? ⟨B9, 7, none⟩ = some (.int .i64 m7) := fun p => (Y9.out.below Y9.out.under p.h).cell 7 rfl
      have u8 : ∀ p : BelW wq.heap.size wq, p.w'.cell? ⟨B9, 8, none⟩ = some (.int .i64 m8) := fun p => (Y9.out.below Y9.out.under p.h).cell 8 rfl
      have u9 : ∀ p : BelW wq.heap.size wq, p.w'.cell? ⟨B9, 9, none⟩ = some (.int .i64 m9) := fun p => (Y9.out.below Y9.out.under p.h).cell 9 rfl
      have u10 : ∀ p : BelW wq.heap.size wq, p.w'.cell? ⟨B9, 10, none⟩ = some (.string mb) := fun p => (Y9.out.below Y9.out.under p.h).cell 10 rfl
      have y4 : ∀ p : BelW wq.heap.size wq, p.w'.cell? ⟨B7, 4, none⟩ = some (.int .i64 m4) := fun p => (Y7.out.below Y7.out.under p.h).cell 4 rfl
      have yb : ∀ p : BelW wq.heap.size wq, p.w'.cell? ⟨B7, 10, none⟩ = some (.string mb) := fun p => (Y7.out.below Y7.out.under p.h).cell 10 rfl
      clear Y9 Y7
      have Q1 := fun p : BelW wq.heap.size wq => SM'.out a9 c9 p.w' ((KB.out.ints (a9, mt) (by simp)).below p.h)
      have Q2 := fun p : BelW wq.heap.size wq => OM'.out a9 c9 p.w' ((KB.out.ints (a9, mt) (by simp)).below p.h)
      have Q1' : Hid _ := Q1
      have Q2' : Hid _ := Q2
      clear Q1 Q2
      refine region_below wq.heap.size (by kernel_rfl) (by kernel_rfl) ?_
      repeat (go_big_quiet_step ((first | (go_at_call 13; refine quiet_below (Nat.le_refl _) (Q1'.out _)) | (go_at_call 15; refine quiet_below (Nat.le_refl _) (Q2'.out _)))))
      refine wpQuiet_nil ?_
      intro wz hx
      have KC : Hid (Below w.heap.size w wz) := (KB.out.below (BelW.out hx)).2.2
      clear hx KB u0 u1 u2 u3 u4 u5 u6 u7 u8 u9 u10 y4 yb Q1' Q2'
      go_wp2_with fail
      go_meet
      exact ⟨rfl, KC.out⟩
  case rest =>
    obtain ⟨rfl, h5⟩ := hcut.out
    have H5 : Hid (Below w.heap.size w wc) := h5
    clear hcut h5 KB SM' OM' MF' Mrow
    rcases Hr.out with rfl | ⟨r0, n0, n1⟩
    · go_wp2
      go_ret
      exact ⟨rfl, H5.out⟩
    clear Hr
    have r1 : ¬ r < 0 := by omega
    go_wp2_with fail
    refine (drawSum16 hc _ H5).mono ?_
    rintro e w6 ⟨⟨s, rfl, hs⟩, b6⟩
    have H6 : Hid (Below w.heap.size w w6) := b6
    clear b6 H5
    by_cases h4 : s.size < 4
    · have h4i : (s.size : Int) < 4 := by omega
      go_wp2
      go_ret
      exact ⟨rfl, H6.out⟩
    have h4i : ¬ (s.size : Int) < 4 := by omega
    by_cases hodd : s.size % 2 = 1
    · have ho : (s.size : Int) % 2 = 1 := by omega
      go_wp2
      go_ret
      exact ⟨rfl, H6.out⟩
    have ho : (s.size : Int) % 2 = 0 := by omega
    go_wp2_with fail
    refine (lawPick hc _ (by omega) (by omega) _ H6).mono ?_
    rintro e w7 ⟨⟨x, rfl, x0, x1⟩, hw7⟩
    have hw7 := hw7.symm
    subst hw7
    obtain ⟨k, rfl⟩ := Int.eq_ofNat_of_zero_le x0
    have hk : 2 * k + 2 ≤ s.size := by omega
    obtain ⟨p, hp⟩ : ∃ p : Int, 2 * (k : Int) = p := ⟨_, rfl⟩
    have j0 : p < s.size := by omega
    have j1 : p + 1 < s.size := by omega
    have i0 : 0 ≤ p := by omega
    have i1 : 0 ≤ p + 1 := by omega
    have i2 : 0 ≤ p + 2 := by omega
    have j2 : p + 2 ≤ s.size := by omega
    have j3 : p ≤ s.size := by omega
    have q1 : IntKind.i64.wrap (p + 1) = p + 1 := by rw [IntKind.wrap_i64]; omega
    have q2 : IntKind.i64.wrap (p + 2) = p + 2 := by rw [IntKind.wrap_i64]; omega
    have z0 : ∀ h, IntKind.i64.wrap ((s[p.toNat]'h).toNat : Int) = ((s[p.toNat]'h).toNat : Int) := fun h => by have := (s[p.toNat]'h).toNat_lt; rw [IntKind.wrap_i64]; omega
    have z1 : ∀ h, IntKind.i64.wrap ((s[(p + 1).toNat]'h).toNat : Int) = ((s[(p + 1).toNat]'h).toNat : Int) := fun h => by have := (s[(p + 1).toNat]'h).toNat_lt; rw [IntKind.wrap_i64]; omega
    have z2 : ∀ h, IntKind.i64.wrap (((s[p.toNat]'h).toNat : Int) * 256) = ((s[p.toNat]'h).toNat : Int) * 256 := fun h => by have := (s[p.toNat]'h).toNat_lt; rw [IntKind.wrap_i64]; omega
    have z3 : ∀ h h', IntKind.i64.wrap (((s[p.toNat]'h).toNat : Int) * 256 + ((s[(p + 1).toNat]'h').toNat : Int)) = ((s[p.toNat]'h).toNat : Int) * 256 + ((s[(p + 1).toNat]'h').toNat : Int) := fun h h' => by
      have := (s[p.toNat]'h).toNat_lt
      have := (s[(p + 1).toNat]'h').toNat_lt
      rw [IntKind.wrap_i64]; omega
    have hw : Hid (∀ h h', pairN s k = ((s[p.toNat]'h).toNat : Int) * 256 + ((s[(p + 1).toNat]'h').toNat : Int)) := by
      show ∀ h h', _
      have e0 : p.toNat = 2 * k := by omega
      have e1 : (p + 1).toNat = 2 * k + 1 := by omega
      rw [e0, e1]
      intro h h'
      unfold pairN byteAt
      rw [dif_pos h, dif_pos h']
    go_wp2_with fail
    have Hp : Hid (2 * (k : Int) = p) := hp
    clear hp x0 x1
    go_cut [16] (fun v wc => Hid (v = .int .i64 (pairN s k) ∧ Below w.heap.size w wc))
    case first =>
      go_region_law (fail)
      all_goals (go_wp2_with fail; go_meet; exact ⟨by rw [hw.out], H6.out.drew⟩)
    case rest =>
    obtain ⟨rfl, h7⟩ := hcut.out
    have H7 : Hid (Below w.heap.size w wc) := h7
    clear hcut h7 H6 hw z0 z1 z2 z3
    go_wp2_with fail
    go_cut [17] (fun v wd => Hid (∃ t, v = .string t ∧ t = s.extract 0 (2 * k) ++ strB [fresh / 256, fresh % 256] ++ s.extract (2 * k + 2) s.size ∧ Below w.heap.size w wd))
    case first =>
      obtain ⟨d0, hd0⟩ : ∃ d : Int, d = fresh / 256 := ⟨_, rfl⟩
      obtain ⟨d1, hd1⟩ : ∃ d : Int, d = fresh % 256 := ⟨_, rfl⟩
      have t0 : IntKind.i64.wrap (fresh.tdiv 256) = d0 := by rw [Int.tdiv_eq_ediv_of_nonneg n0, ← hd0, IntKind.wrap_i64]; omega
      have t1 : fresh.tmod 256 = d1 := by rw [Int.tmod_eq_emod_of_nonneg n0, ← hd1]
      have t2 : IntKind.u8.wrap d0 = d0 := by rw [IntKind.wrap_u8]; omega
      have t3 : IntKind.u8.wrap d1 = d1 := by rw [IntKind.wrap_u8]; omega
      have r6 : Row w.heap.size (wc.alloc (.cells #[.int .u8 d0, .int .u8 d1] 5)).drew (.slice (some ⟨wc.heap.size, 0, none⟩) 2 2) [d0, d1] := World.ownsRow.drew (World.ownsRow_lit (size := 1) wc #[.int .u8 d0, .int .u8 d1] 2 H7.out.size (by unfold maxLen; omega) rfl)
      obtain ⟨tb, htb⟩ : ∃ tb, tb = strB [d0, d1] := ⟨_, rfl⟩
      have k1 : (convert 22 9 (.slice (some ⟨wc.heap.size, 0, none⟩) 2 2)).run Try.prog (wc.alloc (.cells #[.int .u8 d0, .int .u8 d1] 5)).drew = .ok (.string tb) (wc.alloc (.cells #[.int .u8 d0, .int .u8 d1] 5)).drew := by rw [htb]; exact r6.conv
      have hst : tb.size = 2 := by rw [htb, strB_size]; rfl
      have Htb : Hid (tb = strB [fresh / 256, fresh % 256]) := by rw [← hd0, ← hd1]; exact htb
      clear htb hd0 hd1 r6
      have hm1 : ¬ 9223372036854775807 < p.toNat + 2 := by omega
      have hm2 : ¬ 9223372036854775807 < p.toNat + 2 + (s.size - (p + 2).toNat) := by omega
      have Hp2 : Hid (p.toNat = 2 * k ∧ (p + 2).toNat = 2 * k + 2) := ⟨by have := Hp.out; omega, by have := Hp.out; omega⟩
      go_region_law (fail)
      clear k1 t0 t1 t2 t3
      go_wp2_with fail
      go_meet
      exact ⟨_, rfl, by rw [Hp2.out.1, Hp2.out.2, Htb.out], (H7.out.alloc H7.out.size _).drew⟩
    case rest =>
    obtain ⟨t, rfl, ht, h8⟩ := hcut.out
    have H8 : Hid (Below w.heap.size w wc) := h8
    clear hcut h8 H7
    obtain ⟨u1, u2, u3⟩ := swap_facts s k fresh n0 n1 hk t ht
    have SW := sum_swap s t u1 k hk u3
    have I1 := fun w => implSum16 s (by omega) w
    have I2 := fun w => implSum16 t (by omega) w
    have s1 := sum16_in s
    have s2 := sum16_in t
    have s3 := pairN_in s k
    have RI := fun w => implRenewed (sum16 s) (pairN s k) fresh w
    have hR : renewedOr (sum16 s) (pairN s k) fresh = 65535 - fold16 (fold16 (65535 - sum16 s) (65535 - pairN s k)) fresh := by
      unfold renewedOr
      rw [if_pos (by rw [Bool.and_eq_true, Bool.and_eq_true, inB_true, inB_true, inB_true]; exact ⟨⟨s1, s3⟩, ⟨n0, n1⟩⟩)]
    have f1 := fold16_in (show 0 ≤ 65535 - sum16 s by omega) (by omega) (show 0 ≤ 65535 - pairN s k by omega) (by omega)
    have f2 := fold16_in f1.1 f1.2 n0 n1
    rw [u2, ← hR] at SW
    obtain ⟨x0, x1⟩ : 0 ≤ renewedOr (sum16 s) (pairN s k) fresh ∧ renewedOr (sum16 s) (pairN s k) fresh ≤ 65535 := by rw [hR]; omega
    clear hR f1 f2 u1 u2 u3 ht
    generalize renewedOr (sum16 s) (pairN s k) fresh = x at SW RI x0 x1
    generalize sum16 s = ss at I1 RI s1
    generalize sum16 t = st at I2 SW s2
    generalize pairN s k = was at RI s3 ⊢
    obtain ⟨s20, s21⟩ := s2
    have I1' : Hid _ := I1
    have I2' : Hid _ := I2
    have RI' : Hid _ := RI
    have SW' : Hid _ := SW
    clear I1 I2 RI SW s1 s3
    go_wp2_with fail
    refine (I1'.out _).mono ?_
    rintro e w9 ⟨rfl, b9⟩
    have H9 : Hid (Below w.heap.size w w9) := H8.out.trans (b9.mono H8.out.size)
    clear b9 H8
    go_wp2_with fail
    refine (RI'.out _).mono ?_
    rintro e wA ⟨rfl, n9⟩
    have HA : Hid (Below w.heap.size w wA) := H9.out.trans (n9.2.mono H9.out.size)
    clear n9 H9
    go_wp2_with fail
    refine (I2'.out _).mono ?_
    rintro e wB ⟨rfl, bB⟩
    have HB : Hid (Below w.heap.size w wB) := HA.out.trans (bB.mono HA.out.size)
    clear bB HA
    by_cases hxs : x = st
    · subst hxs
      clear SW'
      go_wp2
      go_ret
      exact ⟨rfl, HB.out⟩
    · have hz := SW'.out.resolve_left hxs
      obtain ⟨hz1, hz2⟩ := hz
      clear SW'
      go_wp2_with fail
      refine (I2'.out _).mono ?_
      rintro e wC ⟨rfl, bC⟩
      have HC : Hid (Below w.heap.size w wC) := HB.out.trans (bC.mono HB.out.size)
      clear bC HB
      go_wp2
      go_ret
      exact ⟨rfl, HC.out⟩
end Go.Proofs.Ytppgidcebhfjkaa
