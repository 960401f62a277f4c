/-
  The model's drawing of flows. By the verifier, by program.
-/
import Derived.Test.YtllmkolchgmjoaaFsDr
import Derived.Test.YtllmkolchgmjoaaM6FsFacts
import Derived.Test.YtllmkolchgmjoaaRegList
import Derived.Test.YtllmkolchgmjoaaRegGuard
import Derived.Deep.DeepCutAuto
import Derived.Deep.RegionLaw
import Derived.Laws.ResultCell
namespace Go.Proofs.Ytllmkolchgmjoaa
open Go.RowKit

section
variable {W : World} {bc : Nat} {ac : Option Addr} {len cap : Nat} {w : World} {v : Value} {rs : List Fwr} {l : List Fw} {f : Int} {x : World}
theorem FdW.at (h : FdW W bc ac len cap w f v rs l x) (h4 : l.length ≤ 4) : FsAt x (.agg #[.int .i64 f, v]) ⟨f, l⟩ ∧ (⟨f, l⟩ : Fs).big ≤ 1048576 := by
  obtain ⟨p, q, e⟩ := fwrows_shape h.g.outer
  subst e
  refine ⟨⟨p, q, rfl, h.g.done.at⟩, ?_⟩
  have := fwSum_le (l := l) h.sm l.length (Nat.le_refl _)
  unfold Fs.big
  simp only
  omega
theorem Fs.chosen_ok {d : Fs} (h : 0 ≤ d.chosen) : d.ok = true := by
  by_cases hk : d.ok = true
  · exact hk
  · unfold Fs.chosen at h; rw [if_neg hk] at h; omega
theorem serve_small {d : Fs} {i : Nat} (hi : i < d.flows.length) (h : ∀ k, k < d.flows.length → (fwAt d.flows k).sizes.length ≤ 40) : (∀ k, k < (d.serve i).flows.length → (fwAt (d.serve i).flows k).sizes.length ≤ 40) ∧ (d.serve i).flows.length = d.flows.length := by
  refine ⟨small_setF h (by rw [List.length_drop]; have := h i hi; omega) hi, ?_⟩
  unfold Fs.serve
  simp
/-- Lists that may grow. -/
def SmF (l : List Fw) : Prop := ∀ k, k < l.length → (fwAt l k).sizes.length ≤ 39
theorem SmF.add {l : List Fw} {r : Fw} (h : SmF l) (hr : r.sizes.length ≤ 39) : SmF (l ++ [r]) := by
  intro k hk
  rw [List.length_append, List.length_singleton] at hk
  by_cases e : k = l.length
  · subst e; rw [fwAt_new]; exact hr
  · rw [fwAt_old (by omega)]; exact h k (by omega)
theorem SmF.serve {d : Fs} {i : Nat} (h : SmF d.flows) (hi : i < d.flows.length) : SmF (d.serve i).flows := by
  intro k hk
  unfold Fs.serve at hk ⊢
  simp only [List.length_set] at hk
  by_cases e : k = i
  · subst e; rw [fwAt_set hi]; simp only [List.length_drop]; have := h k hi; omega
  · rw [fwAt_other e]; exact h k hk
/-- What was drawn. -/
def FairDrawn (W : World) (bc : Nat) (ac : Option Addr) (len cap : Nat) (w : World) (e : Ending) (w' : World) : Prop := (∃ v d, e = .returned v ∧ FsIn w.heap.size w'.heap.size w' v d ∧ d.big ≤ 200) ∧ Cur W bc ac len cap w' ∧ Keep bc w w'
/-- How long a list is whose header lies there. -/
def lenAt (w : World) (p : Addr) : Nat := match w.cell? p with
  | some (.slice _ n _) => n
  | _ => 0
end

set_option maxHeartbeats 12800000 in
set_option maxRecDepth 100000 in
theorem drawFair {W : World} {bc : Nat} {a : Option Addr} {len cap : Nat} (hc : Hid (Code W a len)) (w : World) (cur : Hid (Cur W bc a len cap w)) :
    Calls Try.prog 47 #[.pointer (some ⟨bc, 0, none⟩)] w fun e w' => FairDrawn W bc a len cap w e w' := by
  have hbc := cur.out.lt
  have H0 : Hid (FdW W bc a len cap w 0 (.slice none 0 0) [] [] ((w.alloc (.cells #[.int .i64 0, .slice none 0 0] 26)).alloc (.cells #[.int .i64 0, .slice none 0 0] 26))) := by
    refine ⟨(cur.out.alloc _).alloc _, ((Keep.refl _ w).alloc _).alloc _, (Boxed.new _ _ _).more _, ?_, FwG.nil _ _, hbc, fun k hk => by simp at hk⟩
    have := Boxed.new (w.alloc (.cells #[.int .i64 0, .slice none 0 0] 26)) #[.int .i64 0, .slice none 0 0] 26
    simpa using this
  go_enter Try.func47, Try.ntmps47
  go_wp2_with fail
  generalize (w.alloc (.cells #[.int .i64 0, .slice none 0 0] 26)).alloc (.cells #[.int .i64 0, .slice none 0 0] 26) = w1 at H0 ⊢
  refine (drawBelow hc 4 (by omega) _ H0.out.cur).mono ?_
  rintro e w2 ⟨⟨y, rfl, y0, y1⟩, c2, k2⟩
  obtain ⟨j, rfl⟩ := Int.eq_ofNat_of_zero_le y0
  have H2 : Hid (∃ v rs l, FdW W bc a len cap w 0 v rs l w2 ∧ l.length + (1 + j) ≤ 4 ∧ 1 ≤ l.length + (1 + j) ∧ SmF l) := ⟨_, _, _, H0.out.draw c2 k2, by simp only [List.length_nil]; omega, by simp only [List.length_nil]; omega, fun k hk => by simp at hk⟩
  have hj : 1 + j ≤ 4 := by omega
  clear c2 k2 H0 y0 y1
  obtain ⟨k0, hk0⟩ : ∃ k0, k0 = 1 + j := ⟨_, rfl⟩
  have ek : (1 + (j : Int)) = (k0 : Int) := by omega
  rw [← hk0] at H2 hj
  clear hk0
  go_wp2_with fail
  go_loopw [4, 5, 6] (fun s _ _ wr => ∃ k : Nat, k ≤ 4 ∧ s = .int .i64 k ∧ Hid (∃ v rs l, FdW W bc a len cap w 0 v rs l wr ∧ l.length + k ≤ 4 ∧ 1 ≤ l.length + k ∧ SmF l)) (fun s _ _ _ => (intOf s).toNat)
  case atStart => exact ⟨k0, hj, by rw [← ek], H2.out⟩
  case round =>
    obtain ⟨k, hk4, rfl, HE⟩ := hrel
    clear H2 ek
    obtain ⟨v, rs, l, HR⟩ : ∃ v rs l, Hid (FdW W bc a len cap w 0 v rs l wr ∧ l.length + k ≤ 4 ∧ 1 ≤ l.length + k ∧ SmF l) := HE.out
    clear HE
    obtain ⟨wr0, rfl⟩ : ∃ wr0, wr0 = wr := ⟨_, rfl⟩
    by_cases hk : k = 0
    case neg =>
      have hkp : (0 : Int) < (k : Int) := by omega
      go_wp2_with fail
      refine (drawBelow hc 10 (by omega) _ HR.out.1.cur).mono ?_
      rintro e w3 ⟨⟨y, rfl, y0, y1⟩, c2, k2⟩
      obtain ⟨j1, rfl⟩ := Int.eq_ofNat_of_zero_le y0
      obtain ⟨wt, hwt⟩ : ∃ wt : Int, 1 + (j1 : Int) = wt := ⟨_, rfl⟩
      have kw : IntKind.i64.wrap (1 + (j1 : Int)) = wt := by rw [hwt, IntKind.wrap_i64]; omega
      have X0 : Hid (FdI W bc a len cap w 0 v rs l w3.heap.size wt (.slice none 0 0) [] (w3.alloc (.cells #[.int .i64 wt, .int .i64 0, .slice none 0 0] 36)) ∧ l.length + k ≤ 4) := ⟨FdI.first (HR.out.1.draw c2 k2) wt, HR.out.2.1⟩
      have HSm : Hid (SmF l) := HR.out.2.2.2
      clear c2 k2 y0 y1 HR hwt
      go_wp2_with fail
      generalize w3.alloc (.cells #[.int .i64 wt, .int .i64 0, .slice none 0 0] 36) = wh at X0 ⊢
      generalize w3.heap.size = H at X0 ⊢
      refine (drawBelow hc 6 (by omega) _ X0.out.1.d.cur).mono ?_
      rintro e w4 ⟨⟨y, rfl, y0, y1⟩, c2, k2⟩
      obtain ⟨j2, rfl⟩ := Int.eq_ofNat_of_zero_le y0
      have H2 : Hid (∃ u sz, FdI W bc a len cap w 0 v rs l H wt u sz w4 ∧ sz.length + j2 ≤ 5) := ⟨_, _, X0.out.1.draw c2 k2, by simp only [List.length_nil]; omega⟩
      have HL : Hid (l.length + k ≤ 4) := X0.out.2
      have hj2 : j2 ≤ 5 := by omega
      clear c2 k2 X0 y0 y1 kw
      go_wp2_with fail
      go_loopw [6] (fun s wr => ∃ i : Nat, i ≤ 5 ∧ s = .int .i64 i ∧ Hid (∃ u sz, FdI W bc a len cap w 0 v rs l H wt u sz wr ∧ sz.length + i ≤ 5)) (fun s _ => (intOf s).toNat)
      case atStart => exact ⟨j2, hj2, rfl, H2.out⟩
      case round =>
        obtain ⟨i, hi9, rfl, HE⟩ := hrel
        clear H2
        obtain ⟨u, sz, HF⟩ : ∃ u sz, Hid (FdI W bc a len cap w 0 v rs l H wt u sz wr ∧ sz.length + i ≤ 5) := HE.out
        clear HE
        obtain ⟨ux, uc, eu⟩ := HF.out.1.r.shape
        subst eu
        obtain ⟨m, hm⟩ : ∃ m, sz.length = m := ⟨_, rfl⟩
        have Hm : Hid (sz.length = m) := hm
        rw [hm] at HF
        clear hm
        by_cases hi : i = 0
        · subst hi
          have HG : Hid (FdI W bc a len cap w 0 v rs l H wt (.slice ux m uc) sz wr ∧ m ≤ 5) := ⟨HF.out.1, by have := HF.out.2; omega⟩
          clear HF
          obtain ⟨va, vc, ev⟩ := fwrows_shape HG.out.1.d.g.outer
          subst ev
          go_upto_region 10 with fail
          have cv : wr.cell? ⟨w.heap.size + 1, 1, none⟩ = some (.slice va l.length vc) := HG.out.1.d.out.cell 1 rfl
          have ba : Below wr.heap.size wr (wr.alloc (.cells #[.int .i64 wt, .int .i64 0, .slice ux m uc] 36)) := (Below.refl _ _).alloc (Nat.le_refl _) _
          have HA : Hid (FdI W bc a len cap w 0 (.slice va l.length vc) rs l H wt (.slice ux m uc) sz (wr.alloc (.cells #[.int .i64 wt, .int .i64 0, .slice ux m uc] 36)) ∧ Boxed (wr.alloc (.cells #[.int .i64 wt, .int .i64 0, .slice ux m uc] 36)) wr.heap.size #[.int .i64 wt, .int .i64 0, .slice ux m uc] 36 ∧ w.heap.size + 2 ≤ (wr.alloc (.cells #[.int .i64 wt, .int .i64 0, .slice ux m uc] 36)).heap.size) := ⟨HG.out.1.below ba, Boxed.new _ _ _, by have h1 := HG.out.1.d.out.under; have h2 := ba.size; omega⟩
          have hll : l.length ≤ 1048576 := by have := HL.out; omega
          have Nx : Hid (∀ v' wn, wn.ownsRow (w.heap.size + 2) 36 3 v' (l.length + 1) (fwcells (rs ++ [⟨wt, 0, .slice ux m uc⟩])) → Below (w.heap.size + 2) (wr.alloc (.cells #[.int .i64 wt, .int .i64 0, .slice ux m uc] 36)) wn → (∀ y, (Value.slice va l.length vc).ownBlock ≠ some y → y < (wr.alloc (.cells #[.int .i64 wt, .int .i64 0, .slice ux m uc] 36)).heap.size → wn.heap[y]? = (wr.alloc (.cells #[.int .i64 wt, .int .i64 0, .slice ux m uc] 36)).heap[y]?) → FdW W bc a len cap w 0 v' (rs ++ [⟨wt, 0, .slice ux m uc⟩]) (l ++ [⟨wt, 0, sz⟩]) (wn.setCell ⟨w.heap.size + 1, 1, none⟩ v') ∧ wn.cell? ⟨w.heap.size + 1, 1, none⟩ = some (.slice va l.length vc) ∧ wn.frozen? ⟨w.heap.size + 1, 1, none⟩ = false) := fun v' wn q1 q2 q3 =>
            ⟨HA.out.1.done (by rw [Hm.out]; have := HG.out.2; omega) q1 q2 q3, by rw [q2.cell (p := ⟨w.heap.size + 1, 1, none⟩) (by show w.heap.size + 1 < w.heap.size + 2; omega)]; exact HA.out.1.d.out.cell 1 rfl, by rw [ice_kept (q2.block (w.heap.size + 1) (by omega))]; exact HA.out.1.d.out.ice 1⟩
          have Hgo : Hid ((wr.alloc (.cells #[.int .i64 wt, .int .i64 0, .slice ux m uc] 36)).ownsRow (w.heap.size + 2) 36 3 (.slice va l.length vc) l.length (fwcells rs)) := HA.out.1.d.g.outer
          have HSn : Hid (SmF (l ++ [⟨wt, 0, sz⟩])) := HSm.out.add (by show sz.length ≤ 39; rw [Hm.out]; have := HG.out.2; omega)
          clear ba HSm
          generalize hgn : l.length = n at *
          have Hgn : Hid (l.length = n) := hgn
          clear hgn
          go_wp2_with (first | (refine wpList_load_row rfl 36 (.tmp 5) rfl H rfl _ _ _ _ HG.out.1.hb Try.underlying36 rfl (by kernel_rfl) ?_) | (refine fw_row_one rfl (.tmp 37) (.tmp 39) rfl (w.heap.size + 2) (.slice va n vc) n rs ⟨wt, 0, .slice ux m uc⟩ rfl rfl Hgo.out rfl HA.out.2.1 hll HA.out.2.2 ?_; intro v' wn q1 q2 q3; obtain ⟨vx, vd, ex⟩ := fwrows_shape q1; subst ex; have RS := Nx.out _ wn q1 q2 q3; have R : Hid _ := RS.1; have f1 := RS.2.1; have f2 := RS.2.2; clear RS q1 q2 q3))
          go_roundw
          case rel => exact ⟨k - 1, by omega, by go_num, _, _, _, R.out, by rw [List.length_append, Hgn.out, List.length_singleton]; have := HL.out; omega, by rw [List.length_append, List.length_singleton]; omega, HSn.out⟩
          case measure => simp [intOf]; omega
        · have hip : (0 : Int) < (i : Int) := by omega
          have cH : wr.cell? ⟨H, 2, none⟩ = some (.slice ux m uc) := HF.out.1.hb.cell 2 rfl
          have HH : Hid (H < wr.heap.size) := HF.out.1.hb.under
          have Cd : Hid (Cur W bc a len cap wr.drew) := HF.out.1.d.cur.drew
          go_upto_region 9 with fail
          go_region_law (first | (refine stepCall rfl 49 rfl #[.pointer (some ⟨bc, 0, none⟩), .int .i64 100] (by kernel_rfl) (drawBelow hc 100 (by omega) _ Cd) ?_; rintro e w3 ⟨⟨z, rfl, z0, z1⟩, c3, k3⟩; have H3 : Hid (FdI W bc a len cap w 0 v rs l H wt (.slice ux m uc) sz w3 ∧ m + i ≤ 5) := ⟨HF.out.1.draw c3 ⟨k3.size, k3.block⟩, HF.out.2⟩; obtain ⟨zz, hzz⟩ : ∃ zz : Int, 1 + z = zz := ⟨_, rfl⟩; have kz : IntKind.i64.wrap (1 + z) = zz := (by rw [hzz, IntKind.wrap_i64]; omega); have x1 : w3.cell? ⟨H, 2, none⟩ = some (.slice ux m uc) := H3.out.1.hb.cell 2 rfl; have lh : H < w3.heap.size := H3.out.1.hb.under; clear c3 k3 z0 z1 hzz) | (refine int_step_app rfl (.tmp 29) (.tmp 33) rfl (H + 1) (.slice ux m uc) sz (some ⟨w3.heap.size, 0, none⟩) 1 1 [zz] rfl rfl rfl (H3.out.1.r.alloc _) (ints_new w3 2 [zz] #[.int .i64 zz] w3.heap.size rfl rfl) (fun h => by cases h) (by rw [Hm.out]; simp only [List.length_singleton]; have := H3.out.2; omega) (by simp; omega) ?_; intro u' wn q1 q2 q3 q4; have q6 : Below (H + 1) w3 wn := ((Below.refl _ w3).alloc (by omega) _).trans q2; obtain ⟨uy, ud, ey⟩ := q1.shape; rw [List.length_append, List.length_singleton, Hm.out] at ey; subst ey; have R : Hid _ := H3.out.1.add q1 q6; have f1 : wn.cell? ⟨H, 2, none⟩ = some (.slice ux m uc) := (by rw [q6.cell (p := ⟨H, 2, none⟩) (by show H < H + 1; omega)]; exact x1); have f2 : wn.frozen? ⟨H, 2, none⟩ = false := (by rw [ice_kept (q6.block H (by omega))]; exact H3.out.1.hb.ice 2); have HS : Hid (m + i ≤ 5) := H3.out.2; clear q1 q2 q3 q4 q6))
          all_goals (
            go_wp2
            go_roundw
            case rel => exact ⟨i - 1, by omega, by go_num, _, _, R.out, by rw [List.length_append, Hm.out]; simp only [List.length_singleton]; have := HS.out; omega⟩
            case measure => simp [intOf]; omega)
    subst hk
    have HV : Hid (FdW W bc a len cap w 0 v rs l wr0 ∧ (1 ≤ l.length ∧ l.length ≤ 4) ∧ SmF l) := ⟨HR.out.1, by have h1 := HR.out.2.1; have h2 := HR.out.2.2.1; omega, HR.out.2.2.2⟩
    clear HR
    obtain ⟨g, q, ev, hgb, -⟩ := HV.out.1.g.place (j := 0) (by have := HV.out.2.1; omega)
    obtain ⟨n, hn⟩ : ∃ n, l.length = n := ⟨_, rfl⟩
    rw [hn] at ev
    subst ev
    go_wp2_with fail
    refine (drawBelow hc 8 (by omega) _ HV.out.1.cur).mono ?_
    rintro e w3 ⟨⟨y, rfl, y0, y1⟩, c2, k2⟩
    obtain ⟨j3, rfl⟩ := Int.eq_ofNat_of_zero_le y0
    have H2 : Hid (∃ f rs l, FdW W bc a len cap w f (.slice (some ⟨g, 0, none⟩) n q) rs l w3 ∧ l.length = n ∧ SmF l) := ⟨_, _, _, HV.out.1.draw c2 k2, hn, HV.out.2.2⟩
    have hn4 : 1 ≤ n ∧ n ≤ 4 := by rw [← hn]; exact HV.out.2.1
    have hj3 : j3 ≤ 7 := by omega
    clear c2 k2 y0 y1 HV hn
    go_wp2_with fail
    go_loopw [7, 8] (fun s _ wr => ∃ i : Nat, i ≤ 7 ∧ s = .int .i64 i ∧ Hid (∃ f rs l, FdW W bc a len cap w f (.slice (some ⟨g, 0, none⟩) n q) rs l wr ∧ l.length = n ∧ SmF l)) (fun s _ _ => (intOf s).toNat)
    case atStart => exact ⟨j3, hj3, rfl, H2.out⟩
    case round =>
      obtain ⟨i, hi7, rfl, HE⟩ := hrel
      clear H2
      obtain ⟨f, rs', l', HF⟩ : ∃ f rs l, Hid (FdW W bc a len cap w f (.slice (some ⟨g, 0, none⟩) n q) rs l wr ∧ l.length = n ∧ SmF l) := HE.out
      clear HE
      by_cases hi : i = 0
      case neg =>
        have hip : (0 : Int) < (i : Int) := by omega
        have Ha := HF.out.1.at (by rw [HF.out.2.1]; omega)
        have Ch := specChosen ⟨f, l'⟩ (.agg #[.int .i64 f, (.slice (some ⟨g, 0, none⟩) n q)]) wr Ha.2 Ha.1
        have Hch : Hid (∀ c : Int, (⟨f, l'⟩ : Fs).chosen = c → 0 ≤ c → ∃ b : Nat, c = b ∧ b < l'.length ∧ ∀ w9, FdW W bc a len cap w f (.slice (some ⟨g, 0, none⟩) n q) rs' l' w9 → Calls Try.prog 36 #[.pointer (some ⟨w.heap.size + 1, 0, none⟩), .int .i64 b] w9 fun e w' => (∃ bb, e = .returned (.bool bb)) ∧ ∃ f2 rs2 l2, FdW W bc a len cap w f2 (.slice (some ⟨g, 0, none⟩) n q) rs2 l2 w' ∧ l2.length = n ∧ SmF l2) := fun c ec h0 => by
          have hok := Fs.chosen_ok (d := ⟨f, l'⟩) (by rw [ec]; exact h0)
          obtain ⟨b, e, hb, hw, _⟩ := Fs.chosen_is hok (by rw [ec]; exact h0)
          refine ⟨b, by rw [← ec, e], hb, fun w9 h9 => ?_⟩
          refine (specServe ⟨f, l'⟩ (w.heap.size + 2) (w.heap.size + 1) (.slice (some ⟨g, 0, none⟩) n q) rs' b w9 hok hb hw h9.g h9.out (by have := h9.out.under; omega)).mono ?_
          rintro e2 w10 ⟨rfl, hs⟩
          refine ⟨⟨_, rfl⟩, ?_⟩
          by_cases hle : (⟨f, l'⟩ : Fs).endOf b ≤ 1125899906842624
          · rw [if_pos hle] at hs
            have hsm := serve_small (d := ⟨f, l'⟩) hb h9.sm
            obtain ⟨rs2, h10⟩ := h9.serve hs hsm.1
            exact ⟨_, _, _, h10, by rw [hsm.2]; exact HF.out.2.1, HF.out.2.2.serve (d := ⟨f, l'⟩) hb⟩
          · rw [if_neg hle] at hs
            obtain ⟨rs2, h10⟩ := h9.serve hs h9.sm
            exact ⟨_, _, _, h10, HF.out.2.1, HF.out.2.2⟩
        obtain ⟨c, ec⟩ : ∃ c, (⟨f, l'⟩ : Fs).chosen = c := ⟨_, rfl⟩
        rw [ec] at Ch
        have Hc : Hid (0 ≤ c → ∃ b : Nat, c = b ∧ b < l'.length ∧ ∀ w9, FdW W bc a len cap w f (.slice (some ⟨g, 0, none⟩) n q) rs' l' w9 → Calls Try.prog 36 #[.pointer (some ⟨w.heap.size + 1, 0, none⟩), .int .i64 b] w9 fun e w' => (∃ bb, e = .returned (.bool bb)) ∧ ∃ f2 rs2 l2, FdW W bc a len cap w f2 (.slice (some ⟨g, 0, none⟩) n q) rs2 l2 w' ∧ l2.length = n ∧ SmF l2) := fun h0 => Hch.out c ec h0
        clear Hch ec Ha
        have Ch' : Hid (∀ _ : Nat, _) := fun (_ : Nat) => Ch
        clear Ch
        go_wp2_with (refine wpList_load_row rfl 26 (.tmp 3) rfl (w.heap.size + 1) rfl _ _ _ _ HF.out.1.out Try.underlying26 rfl (by kernel_rfl) ?_)
        refine (Ch'.out 0).mono ?_
        rintro e w4 ⟨rfl, q4⟩
        have H4 : Hid (FdW W bc a len cap w f (.slice (some ⟨g, 0, none⟩) n q) rs' l' w4 ∧ l'.length = n ∧ SmF l') := ⟨HF.out.1.below q4, HF.out.2⟩
        clear q4 HF Ch'
        by_cases hc0 : 0 ≤ c
        · obtain ⟨b, eb, hbl, Sv⟩ := Hc.out hc0
          subst eb
          have Sv' : Hid _ := Sv
          clear Sv Hc
          go_wp2_with fail
          refine (Sv'.out _ H4.out.1).mono ?_
          rintro e w5 ⟨⟨bb, rfl⟩, hS⟩
          have H5 : Hid _ := hS
          clear hS H4 Sv'
          go_wp2
          go_roundw
          case rel => exact ⟨i - 1, by omega, by go_num, H5.out⟩
          case measure => simp [intOf]; omega
        · clear Hc
          go_wp2
          go_roundw
          case rel => exact ⟨i - 1, by omega, by go_num, _, _, _, H4.out.1, H4.out.2.1, H4.out.2.2⟩
          case measure => simp [intOf]; omega
      subst hi
      go_wp2_with fail
      refine (drawOnce hc 12 (by omega) _ HF.out.1.cur).mono ?_
      rintro e w4 ⟨⟨bo, rfl⟩, c4, k4⟩
      have H4 : Hid (FdW W bc a len cap w f (.slice (some ⟨g, 0, none⟩) n q) rs' l' w4 ∧ l'.length ≤ 4) := ⟨HF.out.1.draw c4 k4, by rw [HF.out.2.1]; exact hn4.2⟩
      have Hl : Hid (l'.length = n) := HF.out.2.1
      have Hsm : Hid (SmF l') := HF.out.2.2
      clear c4 k4 HF
      cases bo
      · go_upto_region 31 with fail
        have Zf : Hid _ := fun (y : World) h1 h2 h3 => H4.out.1.fin (x' := y) H4.out.2 h1 h2 h3
        have lo : W.heap.size ≤ w.heap.size := Nat.le_trans cur.out.lo (Nat.le_of_lt cur.out.lt)
        go_wp2_with (first | (refine wpList_load_row rfl 26 (.tmp 3) rfl (w.heap.size + 1) rfl _ _ _ _ H4.out.1.out Try.underlying26 rfl (by kernel_rfl) ?_) | (refine wpList_store_row rfl 26 (.tmp 2) (.tmp 127) rfl w.heap.size _ rfl rfl _ _ H4.out.1.res (by kernel_rfl) rfl (by simp [Value.oneCell']) ?_))
        have Zg := Zf.out (w4.setRow w.heap.size #[.int .i64 f, (.slice (some ⟨g, 0, none⟩) n q)]) (fun k hk => setRow_other _ _ _ _ hk) (by rw [size_setRow]; exact Nat.le_refl _) (below_setRow (Below.refl _ _) lo _)
        obtain ⟨⟨dd, hz1, hz2⟩, hz3, hz4⟩ := Zg
        exact bodyPost_ret (results_cell_row Try.results47 _ _ w.heap.size _ _ _ _ rfl (setRow_heap _ w.heap.size _ _ _ _ H4.out.1.res) Try.underlying26 rfl (by kernel_rfl)) rfl ⟨⟨_, dd, rfl, hz1, hz2⟩, hz3, hz4⟩
      have cF : w4.cell? ⟨w.heap.size + 1, 1, none⟩ = some (.slice (some ⟨g, 0, none⟩) n q) := H4.out.1.out.cell 1 rfl
      have Cd : Hid (Cur W bc a len cap w4.drew) := H4.out.1.cur.drew
      have hn0 : (0 : Int) < (n : Int) := by omega
      go_upto_region 18 with fail
      go_cut [9] (fun s wc => Hid (∃ j : Nat, j < n ∧ s = .pointer (some ⟨g, j * 3, none⟩) ∧ FdW W bc a len cap w f (.slice (some ⟨g, 0, none⟩) n q) rs' l' wc))
      case first =>
        go_region_law (refine stepCall rfl 49 rfl #[.pointer (some ⟨bc, 0, none⟩), .int .i64 (n : Int)] (by kernel_rfl) (drawBelow hc (n : Int) hn0 _ Cd) ?_; rintro e w5 ⟨⟨z, rfl, z0, z1⟩, c5, k5⟩; obtain ⟨j, rfl⟩ := Int.eq_ofNat_of_zero_le z0; have H5 : Hid (FdW W bc a len cap w f (.slice (some ⟨g, 0, none⟩) n q) rs' l' w5 ∧ l'.length ≤ 4) := ⟨H4.out.1.draw c5 ⟨k5.size, k5.block⟩, H4.out.2⟩; have x1 : w5.cell? ⟨w.heap.size + 1, 1, none⟩ = some (.slice (some ⟨g, 0, none⟩) n q) := H5.out.1.out.cell 1 rfl; have hjn : j < n := (by omega); have hjn' : (j : Int) < (n : Int) := z1; clear c5 k5)
        all_goals (
          go_wp2
          go_meet
          exact ⟨j, hjn, rfl, H5.out.1⟩)
      case rest =>
      obtain ⟨j, hjn, rfl, hP⟩ := hcut.out
      have H5 : Hid (FdW W bc a len cap w f (.slice (some ⟨g, 0, none⟩) n q) rs' l' wc) := hP
      clear hcut hP cF Cd hn0 H4
      go_wp2_with fail
      refine (drawBelow hc 5 (by omega) _ H5.out.cur).mono ?_
      rintro e w6 ⟨⟨y, rfl, y0, y1⟩, c6, k6⟩
      have H6 : Hid (FdW W bc a len cap w f (.slice (some ⟨g, 0, none⟩) n q) rs' l' w6) := H5.out.draw c6 k6
      clear c6 k6 H5
      have hjl : j < l'.length := by rw [Hl.out]; exact hjn
      have hy : y = 0 ∨ y = 1 ∨ y = 2 ∨ y = 3 ∨ y = 4 := by omega
      clear y0 y1
      rcases hy with rfl | rfl | rfl | rfl | rfl

      · have ba : Below w6.heap.size w6 (w6.alloc (.cells #[.int .i64 0, .int .i64 10, .int .i64 11] 2)) := (Below.refl _ _).alloc (Nat.le_refl _) _
        have HA : Hid (FdW W bc a len cap w f (.slice (some ⟨g, 0, none⟩) n q) rs' l' (w6.alloc (.cells #[.int .i64 0, .int .i64 10, .int .i64 11] 2)) ∧ Boxed (w6.alloc (.cells #[.int .i64 0, .int .i64 10, .int .i64 11] 2)) w6.heap.size #[.int .i64 0, .int .i64 10, .int .i64 11] 2 ∧ bc < w6.heap.size) := ⟨H6.out.below ba, Boxed.new _ _ _, H6.out.cur.lt⟩
        clear ba
        go_wp2_with fail
        generalize (w6.alloc (.cells #[.int .i64 0, .int .i64 10, .int .i64 11] 2)) = wt6 at HA ⊢
        generalize w6.heap.size = tb at HA ⊢
        refine (drawBelow hc 3 (by omega) _ HA.out.1.cur).mono ?_
        rintro e w7 ⟨⟨z, rfl, z0, z1⟩, c7, k7⟩
        obtain ⟨jz, rfl⟩ := Int.eq_ofNat_of_zero_le z0
        have H7 : Hid (FdW W bc a len cap w f (.slice (some ⟨g, 0, none⟩) n q) rs' l' w7) := HA.out.1.draw c7 k7
        have bt : Boxed w7 tb #[.int .i64 0, .int .i64 10, .int .i64 11] 2 := HA.out.2.1.keep (by have := HA.out.2.2; omega) k7
        have hjz : jz < 3 := by omega
        obtain ⟨zz, hzz⟩ : ∃ zz : Int, w7.cell? ⟨tb, jz, none⟩ = some (.int .i64 zz) := by
          have hq : jz = 0 ∨ jz = 1 ∨ jz = 2 := by omega
          rcases hq with rfl | rfl | rfl
          · exact ⟨_, bt.cell 0 rfl⟩
          · exact ⟨_, bt.cell 1 rfl⟩
          · exact ⟨_, bt.cell 2 rfl⟩
        have hjz' : (jz : Int) < 3 := by omega
        clear c7 k7 bt z0 z1 HA H6
        have HW : FdW W bc a len cap w f (.slice (some ⟨g, 0, none⟩) l'.length q) rs' l' w7 := by rw [Hl.out]; exact H7.out
        have C := HW.g.cells hjl
        have x1 := C.1
        have x2 := C.2.2.2 (j * 3)
        obtain ⟨rs2, l2, h8, e8⟩ := HW.weight hjl hgb zz
        rw [Hl.out] at h8 e8
        have H8 : Hid (FdW W bc a len cap w f (.slice (some ⟨g, 0, none⟩) n q) rs2 l2 (w7.setCell ⟨g, j * 3, none⟩ (.int .i64 zz)) ∧ l2.length ≤ 4) := ⟨h8, by rw [e8]; exact hn4.2⟩
        clear h8 e8 C HW
        go_upto_region 31 with fail
        generalize w7.setCell ⟨g, j * 3, none⟩ (.int .i64 zz) = w8 at H8 ⊢
        clear x1 x2 hzz H7
        have Zf : Hid _ := fun (y : World) h1 h2 h3 => H8.out.1.fin (x' := y) H8.out.2 h1 h2 h3
        have lo : W.heap.size ≤ w.heap.size := Nat.le_trans cur.out.lo (Nat.le_of_lt cur.out.lt)
        go_wp2_with (first | (refine wpList_load_row rfl 26 (.tmp 3) rfl (w.heap.size + 1) rfl _ _ _ _ H8.out.1.out Try.underlying26 rfl (by kernel_rfl) ?_) | (refine wpList_store_row rfl 26 (.tmp 2) (.tmp 127) rfl w.heap.size _ rfl rfl _ _ H8.out.1.res (by kernel_rfl) rfl (by simp [Value.oneCell']) ?_))
        have Zg := Zf.out (w8.setRow w.heap.size #[.int .i64 f, (.slice (some ⟨g, 0, none⟩) n q)]) (fun k hk => setRow_other _ _ _ _ hk) (by rw [size_setRow]; exact Nat.le_refl _) (below_setRow (Below.refl _ _) lo _)
        obtain ⟨⟨dd, hz1, hz2⟩, hz3, hz4⟩ := Zg
        exact bodyPost_ret (results_cell_row Try.results47 _ _ w.heap.size _ _ _ _ rfl (setRow_heap _ w.heap.size _ _ _ _ H8.out.1.res) Try.underlying26 rfl (by kernel_rfl)) rfl ⟨⟨_, dd, rfl, hz1, hz2⟩, hz3, hz4⟩
      · have ba : Below w6.heap.size w6 (w6.alloc (.cells #[.int .i64 (-1), .int .i64 1125899906842624, .int .i64 1125899906842625, .int .i64 1125899906842615] 2)) := (Below.refl _ _).alloc (Nat.le_refl _) _
        have HA : Hid (FdW W bc a len cap w f (.slice (some ⟨g, 0, none⟩) n q) rs' l' (w6.alloc (.cells #[.int .i64 (-1), .int .i64 1125899906842624, .int .i64 1125899906842625, .int .i64 1125899906842615] 2)) ∧ Boxed (w6.alloc (.cells #[.int .i64 (-1), .int .i64 1125899906842624, .int .i64 1125899906842625, .int .i64 1125899906842615] 2)) w6.heap.size #[.int .i64 (-1), .int .i64 1125899906842624, .int .i64 1125899906842625, .int .i64 1125899906842615] 2 ∧ bc < w6.heap.size) := ⟨H6.out.below ba, Boxed.new _ _ _, H6.out.cur.lt⟩
        clear ba
        go_wp2_with fail
        generalize (w6.alloc (.cells #[.int .i64 (-1), .int .i64 1125899906842624, .int .i64 1125899906842625, .int .i64 1125899906842615] 2)) = wt6 at HA ⊢
        generalize w6.heap.size = tb at HA ⊢
        refine (drawBelow hc 4 (by omega) _ HA.out.1.cur).mono ?_
        rintro e w7 ⟨⟨z, rfl, z0, z1⟩, c7, k7⟩
        obtain ⟨jz, rfl⟩ := Int.eq_ofNat_of_zero_le z0
        have H7 : Hid (FdW W bc a len cap w f (.slice (some ⟨g, 0, none⟩) n q) rs' l' w7) := HA.out.1.draw c7 k7
        have bt : Boxed w7 tb #[.int .i64 (-1), .int .i64 1125899906842624, .int .i64 1125899906842625, .int .i64 1125899906842615] 2 := HA.out.2.1.keep (by have := HA.out.2.2; omega) k7
        have hjz : jz < 4 := by omega
        obtain ⟨zz, hzz⟩ : ∃ zz : Int, w7.cell? ⟨tb, jz, none⟩ = some (.int .i64 zz) := by
          have hq : jz = 0 ∨ jz = 1 ∨ jz = 2 ∨ jz = 3 := by omega
          rcases hq with rfl | rfl | rfl | rfl
          · exact ⟨_, bt.cell 0 rfl⟩
          · exact ⟨_, bt.cell 1 rfl⟩
          · exact ⟨_, bt.cell 2 rfl⟩
          · exact ⟨_, bt.cell 3 rfl⟩
        have hjz' : (jz : Int) < 4 := by omega
        clear c7 k7 bt z0 z1 HA H6
        have HW : FdW W bc a len cap w f (.slice (some ⟨g, 0, none⟩) l'.length q) rs' l' w7 := by rw [Hl.out]; exact H7.out
        have C := HW.g.cells hjl
        have x1 := C.2.1
        have x2 := C.2.2.2 (j * 3 + 1)
        obtain ⟨rs2, l2, h8, e8⟩ := HW.finish hjl hgb zz
        rw [Hl.out] at h8 e8
        have H8 : Hid (FdW W bc a len cap w f (.slice (some ⟨g, 0, none⟩) n q) rs2 l2 (w7.setCell ⟨g, j * 3 + 1, none⟩ (.int .i64 zz)) ∧ l2.length ≤ 4) := ⟨h8, by rw [e8]; exact hn4.2⟩
        clear h8 e8 C HW
        go_upto_region 31 with fail
        generalize w7.setCell ⟨g, j * 3 + 1, none⟩ (.int .i64 zz) = w8 at H8 ⊢
        clear x1 x2 hzz H7
        have Zf : Hid _ := fun (y : World) h1 h2 h3 => H8.out.1.fin (x' := y) H8.out.2 h1 h2 h3
        have lo : W.heap.size ≤ w.heap.size := Nat.le_trans cur.out.lo (Nat.le_of_lt cur.out.lt)
        go_wp2_with (first | (refine wpList_load_row rfl 26 (.tmp 3) rfl (w.heap.size + 1) rfl _ _ _ _ H8.out.1.out Try.underlying26 rfl (by kernel_rfl) ?_) | (refine wpList_store_row rfl 26 (.tmp 2) (.tmp 127) rfl w.heap.size _ rfl rfl _ _ H8.out.1.res (by kernel_rfl) rfl (by simp [Value.oneCell']) ?_))
        have Zg := Zf.out (w8.setRow w.heap.size #[.int .i64 f, (.slice (some ⟨g, 0, none⟩) n q)]) (fun k hk => setRow_other _ _ _ _ hk) (by rw [size_setRow]; exact Nat.le_refl _) (below_setRow (Below.refl _ _) lo _)
        obtain ⟨⟨dd, hz1, hz2⟩, hz3, hz4⟩ := Zg
        exact bodyPost_ret (results_cell_row Try.results47 _ _ w.heap.size _ _ _ _ rfl (setRow_heap _ w.heap.size _ _ _ _ H8.out.1.res) Try.underlying26 rfl (by kernel_rfl)) rfl ⟨⟨_, dd, rfl, hz1, hz2⟩, hz3, hz4⟩
      · obtain ⟨ux, uc, ehd⟩ := (H6.out.g.row j hjl).shape
        obtain ⟨m, hm⟩ : ∃ m, (fwAt l' j).sizes.length = m := ⟨_, rfl⟩
        have Hm : Hid ((fwAt l' j).sizes.length = m) := hm
        rw [hm] at ehd
        have Eh : Hid ((fwrAt rs' j).hd = .slice ux m uc) := ehd
        have hm6 : m ≤ 39 := by rw [← hm]; exact Hsm.out j hjl
        clear hm ehd
        have Cel : Hid (∀ x, FdW W bc a len cap w f (.slice (some ⟨g, 0, none⟩) n q) rs' l' x → x.cell? ⟨g, j * 3 + 2, none⟩ = some (.slice ux m uc)) := fun x hD => by
          have hD' : FdW W bc a len cap w f (.slice (some ⟨g, 0, none⟩) l'.length q) rs' l' x := by rw [Hl.out]; exact hD
          have := (hD'.g.cells hjl).2.2.1
          rw [Eh.out] at this
          exact this
        have Rw : Hid (∀ x, FdW W bc a len cap w f (.slice (some ⟨g, 0, none⟩) n q) rs' l' x → IRow (w.heap.size + 2) x (.slice ux m uc) (fwAt l' j).sizes) := fun x hD => by
          have := hD.g.row j hjl
          rw [Eh.out] at this
          exact this
        have Siz : Hid (∀ x (z : Int) uv wn, FdW W bc a len cap w f (.slice (some ⟨g, 0, none⟩) n q) rs' l' x → IRow (w.heap.size + 2) wn uv ((fwAt l' j).sizes ++ [z]) → Below (w.heap.size + 2) x wn → x.grownBy wn (Value.slice ux m uc).ownBlock → (uv.ownBlock = (Value.slice ux m uc).ownBlock ∨ uv.ownBlock = some x.heap.size) → (∃ rs2 l2, FdW W bc a len cap w f (.slice (some ⟨g, 0, none⟩) n q) rs2 l2 (wn.setCell ⟨g, j * 3 + 2, none⟩ uv) ∧ l2.length = n) ∧ wn.cell? ⟨g, j * 3 + 2, none⟩ = some (.slice ux m uc) ∧ wn.frozen? ⟨g, j * 3 + 2, none⟩ = false) := fun x z uv wn hD p1 p2 p3 p4 => by
          have hD' : FdW W bc a len cap w f (.slice (some ⟨g, 0, none⟩) l'.length q) rs' l' x := by rw [Hl.out]; exact hD
          obtain ⟨⟨rs2, l2, h1, h2, -, -⟩, h3, h4⟩ := hD'.sizes hjl hgb Eh.out (by rw [Hm.out]; omega) p1 p2 p3 p4
          rw [Hl.out] at h1 h2
          exact ⟨⟨rs2, l2, h1, h2⟩, h3, h4⟩
        go_upto_region 25 with fail
        refine region_lists (G := Unit) (by kernel_rfl) (by kernel_rfl) (by kernel_rfl) (fun i => if i = 5 then 8 else if i = 8 then 9 else if i = 10 then 11 else if i = 11 then 14 else 99) (fun (L : Nat → Bool) (_ : Unit) (x : World) => L 11 = false → FdW W bc a len cap w f (.slice (some ⟨g, 0, none⟩) n q) rs' l' x) (fun i _ x _ x' => (i ≠ 5 → i ≠ 7 → i ≠ 10 → i ≠ 11 → i ≠ 14 → x' = x) ∧ (i ≠ 11 → i ≠ 14 → ∀ k, k ≠ bc → k < x.heap.size → x'.heap[k]? = x.heap[k]?)) (fun i y x u => ([fun _ _ u => u = (.pointer (some ⟨g, j * 3, none⟩)), fun _ _ u => u = (.pointer (some ⟨g, j * 3, none⟩)), fun _ _ u => u = (.pointer (some ⟨g, j * 3, none⟩)), fun _ _ u => u = (.pointer (some ⟨g, j * 3 + 2, none⟩)), fun _ _ u => u = (.slice ux m uc), fun _ x u => ∃ n1, u = .slice (some ⟨n1, 0, none⟩) 3 3 ∧ Boxed x n1 #[.int .i64 0, .int .i64 2000, .int .i64 2001] 2 ∧ n1 ≠ bc, fun _ _ u => u = (.pointer (some ⟨bc, 0, none⟩)), fun _ _ u => ∃ j : Nat, u = .int .i64 (j : Int) ∧ j < 3, fun _ x u => ∃ n1 j, u = .pointer (some ⟨n1, j, none⟩) ∧ Boxed x n1 #[.int .i64 0, .int .i64 2000, .int .i64 2001] 2 ∧ n1 ≠ bc ∧ j < 3, fun _ _ u => ∃ z : Int, u = .int .i64 z, fun _ x u => ∃ (n1 : Nat) (z : Int), u = .slice (some ⟨n1, 0, none⟩) 1 1 ∧ Boxed x n1 #[.int .i64 z] 2 ∧ n1 ≠ bc, fun _ x u => ∃ uy ud, u = .slice uy (m + 1) ud ∧ (∃ rs2 l2, FdW W bc a len cap w f (.slice (some ⟨g, 0, none⟩) n q) rs2 l2 (x.setCell ⟨g, j * 3 + 2, none⟩ u) ∧ l2.length = n) ∧ x.cell? ⟨g, j * 3 + 2, none⟩ = some (.slice ux m uc) ∧ x.frozen? ⟨g, j * 3 + 2, none⟩ = false, fun _ _ u => u = (.pointer (some ⟨g, j * 3, none⟩)), fun _ _ u => u = (.pointer (some ⟨g, j * 3 + 2, none⟩)), fun _ x _ => ∃ rs2 l2, FdW W bc a len cap w f (.slice (some ⟨g, 0, none⟩) n q) rs2 l2 x ∧ l2.length = n] : List (Unit → World → Value → Prop)).getD i (fun _ _ _ => True) y x u) ?hR () ?h0 ?step ?last
        case hR =>
          intro i jj y y' x x' u hi hj hne hu h1 h2 hp hr
          have hi' : i < 15 := hi
          have hj' : jj < 15 := hj
          by_cases hpure : i ≠ 5 ∧ i ≠ 7 ∧ i ≠ 10 ∧ i ≠ 11 ∧ i ≠ 14
          · have e := hr.1 hpure.1 hpure.2.1 hpure.2.2.1 hpure.2.2.2.1 hpure.2.2.2.2
            subst e
            exact hp
          have hcases : jj = 0 ∨ jj = 1 ∨ jj = 2 ∨ jj = 3 ∨ jj = 4 ∨ jj = 5 ∨ jj = 6 ∨ jj = 7 ∨ jj = 8 ∨ jj = 9 ∨ jj = 10 ∨ jj = 11 ∨ jj = 12 ∨ jj = 13 ∨ jj = 14 := by omega
          rcases hcases with rfl | rfl | rfl | rfl | rfl | rfl | rfl | rfl | rfl | rfl | rfl | rfl | rfl | rfl | rfl
          · exact hp
          · exact hp
          · exact hp
          · exact hp
          · exact hp
          · by_cases ha : i = 11
            · subst ha
              first | exact absurd rfl hne | exact absurd rfl hu | exact absurd h1 (by decide +kernel) | exact absurd h2 (by decide +kernel)
            by_cases hst : i = 14
            · subst hst
              first | exact absurd rfl hne | exact absurd rfl hu | exact absurd h1 (by decide +kernel) | exact absurd h2 (by decide +kernel)
            obtain ⟨n1, e1, b1, l1⟩ := hp
            exact ⟨n1, e1, (hr.2 ha hst n1 l1 b1.under).trans b1, l1⟩
          · exact hp
          · exact hp
          · by_cases ha : i = 11
            · subst ha
              first | exact absurd rfl hne | exact absurd rfl hu | exact absurd h1 (by decide +kernel) | exact absurd h2 (by decide +kernel)
            by_cases hst : i = 14
            · subst hst
              first | exact absurd rfl hne | exact absurd rfl hu | exact absurd h1 (by decide +kernel) | exact absurd h2 (by decide +kernel)
            obtain ⟨n1, j3, e1, b1, l1, l2⟩ := hp
            exact ⟨n1, j3, e1, (hr.2 ha hst n1 l1 b1.under).trans b1, l1, l2⟩
          · exact hp
          · by_cases ha : i = 11
            · subst ha
              first | exact absurd rfl hne | exact absurd rfl hu | exact absurd h1 (by decide +kernel) | exact absurd h2 (by decide +kernel)
            by_cases hst : i = 14
            · subst hst
              first | exact absurd rfl hne | exact absurd rfl hu | exact absurd h1 (by decide +kernel) | exact absurd h2 (by decide +kernel)
            obtain ⟨n1, z, e1, b1, l1⟩ := hp
            exact ⟨n1, z, e1, (hr.2 ha hst n1 l1 b1.under).trans b1, l1⟩
          · exfalso
            have hic : i = 5 ∨ i = 7 ∨ i = 10 ∨ i = 11 ∨ i = 14 := by omega
            rcases hic with rfl | rfl | rfl | rfl | rfl
            all_goals first | exact absurd rfl hne | exact absurd rfl hu | (exact absurd h1 (by decide +kernel)) | (exact absurd h2 (by decide +kernel))
          · exact hp
          · exact hp
          · exfalso
            have hic : i = 5 ∨ i = 7 ∨ i = 10 ∨ i = 11 ∨ i = 14 := by omega
            rcases hic with rfl | rfl | rfl | rfl | rfl
            all_goals first | exact absurd rfl hne | exact absurd rfl hu | (exact absurd h1 (by decide +kernel)) | (exact absurd h2 (by decide +kernel))
        case h0 => exact fun _ => H6.out.below (Below.refl _ _).drew
        case step =>
          intro i o hi ho L a' y x hLi hwt hre hkp hI hp
          have s0 : a'.tmps[0]?.getD undef = (.pointer (some ⟨bc, 0, none⟩)) := by have h2 : a'.tmps.getD 0 undef = (.pointer (some ⟨bc, 0, none⟩)) := hkp.slot 0 (by kernel_rfl); simpa using h2
          have s9 : a'.tmps[9]?.getD undef = (.pointer (some ⟨g, j * 3, none⟩)) := by have h2 : a'.tmps.getD 9 undef = (.pointer (some ⟨g, j * 3, none⟩)) := hkp.slot 9 (by kernel_rfl); simpa using h2
          have hi' : i < 15 := hi
          have hcases : i = 0 ∨ i = 1 ∨ i = 2 ∨ i = 3 ∨ i = 4 ∨ i = 5 ∨ i = 6 ∨ i = 7 ∨ i = 8 ∨ i = 9 ∨ i = 10 ∨ i = 11 ∨ i = 12 ∨ i = 13 ∨ i = 14 := by omega
          rcases hcases with rfl | rfl | rfl | rfl | rfl | rfl | rfl | rfl | rfl | rfl | rfl | rfl | rfl | rfl | rfl
          · cases ho
            refine ⟨wanted_none rfl, Oper.wp_mono (K := fun a'' w'' => a'' = a'.put (some 88) (.pointer (some ⟨g, j * 3, none⟩)) ∧ w'' = x) ?_ ?_⟩
            · rintro _ _ ⟨rfl, rfl⟩
              exact ⟨_, (), rfl, ⟨fun _ _ _ _ _ => rfl, fun _ _ _ _ _ => rfl⟩, fun h => hI (by have h' : (if (11 : Nat) = 0 then true else L 11) = false := h; simpa using h'), fun u hu => hu (fun h => by cases h)⟩
            · unfold Oper.wp
              simp [go_sem, s9]
          · cases ho
            refine ⟨wanted_none rfl, Oper.wp_mono (K := fun a'' w'' => a'' = a'.put (some 89) (.pointer (some ⟨g, j * 3, none⟩)) ∧ w'' = x) ?_ ?_⟩
            · rintro _ _ ⟨rfl, rfl⟩
              exact ⟨_, (), rfl, ⟨fun _ _ _ _ _ => rfl, fun _ _ _ _ _ => rfl⟩, fun h => hI (by have h' : (if (11 : Nat) = 1 then true else L 11) = false := h; simpa using h'), fun u hu => hu (fun h => by cases h)⟩
            · unfold Oper.wp
              simp [go_sem, s9]
          · cases ho
            have q1 : a'.tmps[89]?.getD undef = (.pointer (some ⟨g, j * 3, none⟩)) := by have h2 : a'.tmps.getD 89 undef = (.pointer (some ⟨g, j * 3, none⟩)) := hp 1 (of_decide_eq_true (by kernel_rfl)) (.inr (by decide)); simpa using h2
            refine ⟨wanted_none rfl, Oper.wp_mono (K := fun a'' w'' => a'' = a'.put (some 90) (.pointer (some ⟨g, j * 3, none⟩)) ∧ w'' = x) ?_ ?_⟩
            · rintro _ _ ⟨rfl, rfl⟩
              exact ⟨_, (), rfl, ⟨fun _ _ _ _ _ => rfl, fun _ _ _ _ _ => rfl⟩, fun h => hI (by have h' : (if (11 : Nat) = 2 then true else L 11) = false := h; simpa using h'), fun u hu => hu (fun h => by cases h)⟩
            · unfold Oper.wp
              simp [go_sem, q1]
          · cases ho
            have q2 : a'.tmps[90]?.getD undef = (.pointer (some ⟨g, j * 3, none⟩)) := by have h2 : a'.tmps.getD 90 undef = (.pointer (some ⟨g, j * 3, none⟩)) := hp 2 (of_decide_eq_true (by kernel_rfl)) (.inr (by decide)); simpa using h2
            refine ⟨wanted_none rfl, Oper.wp_mono (K := fun a'' w'' => a'' = a'.put (some 91) (.pointer (some ⟨g, j * 3 + 2, none⟩)) ∧ w'' = x) ?_ ?_⟩
            · rintro _ _ ⟨rfl, rfl⟩
              exact ⟨_, (), rfl, ⟨fun _ _ _ _ _ => rfl, fun _ _ _ _ _ => rfl⟩, fun h => hI (by have h' : (if (11 : Nat) = 3 then true else L 11) = false := h; simpa using h'), fun u hu => hu (fun h => by cases h)⟩
            · unfold Oper.wp
              simp [go_sem, q2]
          · cases ho
            have q3 : a'.tmps[91]?.getD undef = (.pointer (some ⟨g, j * 3 + 2, none⟩)) := by have h2 : a'.tmps.getD 91 undef = (.pointer (some ⟨g, j * 3 + 2, none⟩)) := hp 3 (of_decide_eq_true (by kernel_rfl)) (.inr (by decide)); simpa using h2
            have hD : FdW W bc a len cap w f (.slice (some ⟨g, 0, none⟩) n q) rs' l' x := hI (hre 11 (by decide +kernel))
            have fc : x.cell? ⟨g, j * 3 + 2, none⟩ = some (.slice ux m uc) := Cel.out x hD
            refine ⟨wanted_none rfl, Oper.wp_mono (K := fun a'' w'' => a'' = a'.put (some 92) (.slice ux m uc) ∧ w'' = x) ?_ ?_⟩
            · rintro _ _ ⟨rfl, rfl⟩
              exact ⟨_, (), rfl, ⟨fun _ _ _ _ _ => rfl, fun _ _ _ _ _ => rfl⟩, fun h => hI (by have h' : (if (11 : Nat) = 4 then true else L 11) = false := h; simpa using h'), fun u hu => hu (fun h => by cases h)⟩
            · unfold Oper.wp
              simp [go_sem, q3, fc]
          · cases ho
            have hD : FdW W bc a len cap w f (.slice (some ⟨g, 0, none⟩) n q) rs' l' x := hI (hre 11 (by decide +kernel))
            refine ⟨wanted_none rfl, Oper.wp_mono (K := fun a'' w'' => a'' = a'.put (some 93) (.slice (some ⟨x.heap.size, 0, none⟩) 3 3) ∧ w'' = x.alloc (.cells #[.int .i64 0, .int .i64 2000, .int .i64 2001] 2)) ?_ ?_⟩
            · rintro _ _ ⟨rfl, rfl⟩
              have bl : Below x.heap.size x (x.alloc (.cells #[.int .i64 0, .int .i64 2000, .int .i64 2001] 2)) := (Below.refl _ _).alloc (Nat.le_refl _) _
              exact ⟨_, (), rfl, ⟨fun h _ _ _ _ => absurd rfl h, fun _ _ k k1 k2 => bl.block k k2⟩, fun _ => hD.below bl, fun u hu => ⟨x.heap.size, hu (fun h => by cases h), Boxed.new _ _ _, hD.cur.ne⟩⟩
            · unfold Oper.wp
              simp [go_sem]
          · cases ho
            refine ⟨wanted_none rfl, Oper.wp_mono (K := fun a'' w'' => a'' = a'.put (some 94) (.pointer (some ⟨bc, 0, none⟩)) ∧ w'' = x) ?_ ?_⟩
            · rintro _ _ ⟨rfl, rfl⟩
              exact ⟨_, (), rfl, ⟨fun _ _ _ _ _ => rfl, fun _ _ _ _ _ => rfl⟩, fun h => hI (by have h' : (if (11 : Nat) = 6 then true else L 11) = false := h; simpa using h'), fun u hu => hu (fun h => by cases h)⟩
            · unfold Oper.wp
              simp [go_sem, s0]
          · cases ho
            have hD : FdW W bc a len cap w f (.slice (some ⟨g, 0, none⟩) n q) rs' l' x := hI (hre 11 (by decide +kernel))
            have q0 : a'.tmps[94]?.getD undef = (.pointer (some ⟨bc, 0, none⟩)) := by have h2 : a'.tmps.getD 94 undef = (.pointer (some ⟨bc, 0, none⟩)) := hp 6 (of_decide_eq_true (by kernel_rfl)) (.inr (by decide)); simpa using h2
            refine ⟨wanted_none rfl, op_callB (by simp [execOp, resolve, Deferred.ofValue, invoke, Act.eval, q0]) (drawBelow hc 3 (by omega) x hD.cur) ?_⟩
            rintro e z ⟨⟨v, rfl, v0, v1⟩, ci, ki⟩
            obtain ⟨j3, rfl⟩ := Int.eq_ofNat_of_zero_le v0
            exact ⟨_, rfl, _, (), rfl, ⟨fun _ h _ _ _ => absurd rfl h, fun _ _ k k1 k2 => ki.block k k1 k2⟩, fun _ => hD.draw ci ki, fun u hu => ⟨j3, hu (fun h => by cases h), by omega⟩⟩
          · cases ho
            obtain ⟨n1, e1, hb1, hl1⟩ := hp 5 (of_decide_eq_true (by kernel_rfl)) (.inl rfl)
            obtain ⟨j3, e2, hj2⟩ := hp 7 (of_decide_eq_true (by kernel_rfl)) (.inr (by decide))
            have q1 : a'.tmps[93]?.getD undef = .slice (some ⟨n1, 0, none⟩) 3 3 := by have h2 : a'.tmps.getD 93 undef = .slice (some ⟨n1, 0, none⟩) 3 3 := e1; simpa using h2
            have q2 : a'.tmps[95]?.getD undef = .int .i64 (j3 : Int) := by have h2 : a'.tmps.getD 95 undef = .int .i64 (j3 : Int) := e2; simpa using h2
            refine ⟨wanted_none rfl, Oper.wp_mono (K := fun a'' w'' => a'' = a'.put (some 96) (.pointer (some ⟨n1, j3, none⟩)) ∧ w'' = x) ?_ ?_⟩
            · rintro _ _ ⟨rfl, rfl⟩
              exact ⟨_, (), rfl, ⟨fun _ _ _ _ _ => rfl, fun _ _ _ _ _ => rfl⟩, fun h => hI (by have h' : (if (11 : Nat) = 8 then true else L 11) = false := h; simpa using h'), fun u hu => ⟨n1, j3, hu (fun h => by cases h), hb1, hl1, hj2⟩⟩
            · have hj4 : (j3 : Int) < 3 := by omega
              unfold Oper.wp
              simp [go_sem, q1, q2, hj4]
          · cases ho
            obtain ⟨n1, j3, e1, hb1, hl1, hj1⟩ := hp 8 (of_decide_eq_true (by kernel_rfl)) (.inl rfl)
            have q1 : a'.tmps[96]?.getD undef = .pointer (some ⟨n1, j3, none⟩) := by have h2 : a'.tmps.getD 96 undef = .pointer (some ⟨n1, j3, none⟩) := e1; simpa using h2
            obtain ⟨z, hz⟩ : ∃ z : Int, x.cell? ⟨n1, j3, none⟩ = some (.int .i64 z) := by
              have hj' : j3 = 0 ∨ j3 = 1 ∨ j3 = 2 := by omega
              rcases hj' with rfl | rfl | rfl
              · exact ⟨_, hb1.cell 0 rfl⟩
              · exact ⟨_, hb1.cell 1 rfl⟩
              · exact ⟨_, hb1.cell 2 rfl⟩
            refine ⟨wanted_none rfl, Oper.wp_mono (K := fun a'' w'' => a'' = a'.put (some 97) (.int .i64 z) ∧ w'' = x) ?_ ?_⟩
            · rintro _ _ ⟨rfl, rfl⟩
              exact ⟨_, (), rfl, ⟨fun _ _ _ _ _ => rfl, fun _ _ _ _ _ => rfl⟩, fun h => hI (by have h' : (if (11 : Nat) = 9 then true else L 11) = false := h; simpa using h'), fun u hu => ⟨z, hu (fun h => by cases h)⟩⟩
            · unfold Oper.wp
              simp [go_sem, q1, hz]
          · cases ho
            have hD : FdW W bc a len cap w f (.slice (some ⟨g, 0, none⟩) n q) rs' l' x := hI (hre 11 (by decide +kernel))
            obtain ⟨z, e1⟩ := hp 9 (of_decide_eq_true (by kernel_rfl)) (.inr (by decide))
            have q1 : a'.tmps[97]?.getD undef = .int .i64 z := by have h2 : a'.tmps.getD 97 undef = .int .i64 z := e1; simpa using h2
            refine ⟨wanted_none rfl, Oper.wp_mono (K := fun a'' w'' => a'' = a'.put (some 98) (.slice (some ⟨x.heap.size, 0, none⟩) 1 1) ∧ w'' = x.alloc (.cells #[.int .i64 z] 2)) ?_ ?_⟩
            · rintro _ _ ⟨rfl, rfl⟩
              have bl : Below x.heap.size x (x.alloc (.cells #[.int .i64 z] 2)) := (Below.refl _ _).alloc (Nat.le_refl _) _
              exact ⟨_, (), rfl, ⟨fun _ _ h _ _ => absurd rfl h, fun _ _ k k1 k2 => bl.block k k2⟩, fun _ => hD.below bl, fun u hu => ⟨x.heap.size, z, hu (fun h => by cases h), Boxed.new _ _ _, hD.cur.ne⟩⟩
            · unfold Oper.wp
              simp [go_sem, q1]
          · cases ho
            have hD : FdW W bc a len cap w f (.slice (some ⟨g, 0, none⟩) n q) rs' l' x := hI hLi
            obtain ⟨n1, z, e1, b1, l1⟩ := hp 10 (of_decide_eq_true (by kernel_rfl)) (.inl rfl)
            have q1 : a'.tmps.getD 98 undef = .slice (some ⟨n1, 0, none⟩) 1 1 := e1
            have q4 : a'.tmps.getD 92 undef = (.slice ux m uc) := hp 4 (of_decide_eq_true (by kernel_rfl)) (.inr (by decide))
            have hin : IntsAt x (some ⟨n1, 0, none⟩) [z] := fun k hk => ⟨n1, 0, rfl, b1.under, by obtain rfl : k = 0 := (by simpa using hk); exact b1.cell 0 rfl⟩
            refine ⟨wanted_none rfl, int_op_app (.tmp 92) (.tmp 98) rfl (w.heap.size + 2) (.slice ux m uc) (fwAt l' j).sizes (some ⟨n1, 0, none⟩) 1 1 [z] rfl (by simpa [Act.eval] using q4) (by simpa [Act.eval] using q1) (Rw.out x hD) hin (fun h => by cases h) (by rw [Hm.out]; simp only [List.length_singleton]; omega) (by have := hD.out.under; omega) ?_⟩
            intro uv wn p1 p2 p3 p4
            have Z := Siz.out x z uv wn hD p1 p2 p3 p4
            obtain ⟨uy, ud, ey⟩ := p1.shape
            rw [List.length_append, List.length_singleton, Hm.out] at ey
            exact ⟨uv, (), rfl, ⟨fun _ _ _ h => absurd rfl h, fun h => absurd rfl h⟩, (fun h => by simp at h), fun u hu => by obtain rfl : u = uv := hu (fun h => by cases h); exact ⟨uy, ud, ey, Z.1, Z.2.1, Z.2.2⟩⟩
          · cases ho
            have q0 : a'.tmps[88]?.getD undef = (.pointer (some ⟨g, j * 3, none⟩)) := by have h2 : a'.tmps.getD 88 undef = (.pointer (some ⟨g, j * 3, none⟩)) := hp 0 (of_decide_eq_true (by kernel_rfl)) (.inr (by decide)); simpa using h2
            refine ⟨wanted_none rfl, Oper.wp_mono (K := fun a'' w'' => a'' = a'.put (some 100) (.pointer (some ⟨g, j * 3, none⟩)) ∧ w'' = x) ?_ ?_⟩
            · rintro _ _ ⟨rfl, rfl⟩
              exact ⟨_, (), rfl, ⟨fun _ _ _ _ _ => rfl, fun _ _ _ _ _ => rfl⟩, fun h => hI (by have h' : (if (11 : Nat) = 12 then true else L 11) = false := h; simpa using h'), fun u hu => hu (fun h => by cases h)⟩
            · unfold Oper.wp
              simp [go_sem, q0]
          · cases ho
            have q12 : a'.tmps[100]?.getD undef = (.pointer (some ⟨g, j * 3, none⟩)) := by have h2 : a'.tmps.getD 100 undef = (.pointer (some ⟨g, j * 3, none⟩)) := hp 12 (of_decide_eq_true (by kernel_rfl)) (.inr (by decide)); simpa using h2
            refine ⟨wanted_none rfl, Oper.wp_mono (K := fun a'' w'' => a'' = a'.put (some 101) (.pointer (some ⟨g, j * 3 + 2, none⟩)) ∧ w'' = x) ?_ ?_⟩
            · rintro _ _ ⟨rfl, rfl⟩
              exact ⟨_, (), rfl, ⟨fun _ _ _ _ _ => rfl, fun _ _ _ _ _ => rfl⟩, fun h => hI (by have h' : (if (11 : Nat) = 13 then true else L 11) = false := h; simpa using h'), fun u hu => hu (fun h => by cases h)⟩
            · unfold Oper.wp
              simp [go_sem, q12]
          · cases ho
            obtain ⟨uy, ud, e11, Z1, Z2, Z3⟩ := hp 11 (of_decide_eq_true (by kernel_rfl)) (.inl rfl)
            have q11 : a'.tmps[99]?.getD undef = .slice uy (m + 1) ud := by have h2 : a'.tmps.getD 99 undef = .slice uy (m + 1) ud := e11; simpa using h2
            rw [e11] at Z1
            have q13 : a'.tmps[101]?.getD undef = (.pointer (some ⟨g, j * 3 + 2, none⟩)) := by have h2 : a'.tmps.getD 101 undef = (.pointer (some ⟨g, j * 3 + 2, none⟩)) := hp 13 (of_decide_eq_true (by kernel_rfl)) (.inr (by decide)); simpa using h2
            refine ⟨wanted_none rfl, Oper.wp_mono (K := fun a'' w'' => a'' = a'.put none undef ∧ w'' = x.setCell ⟨g, j * 3 + 2, none⟩ (.slice uy (m + 1) ud)) ?_ ?_⟩
            · rintro _ _ ⟨rfl, rfl⟩
              exact ⟨undef, (), rfl, ⟨fun _ _ _ _ h => absurd rfl h, fun _ h => absurd rfl h⟩, (fun h => by have h11 : L 11 = true := hwt 11 (of_decide_eq_true (by kernel_rfl)); have h' : (if (11 : Nat) = 14 then true else L 11) = false := h; simp [h11] at h'), fun _ _ => Z1⟩
            · unfold Oper.wp
              simp [go_sem, q11, q13, Z2, Z3]
        case last =>
        intro L a' y x hall hkp hI hp
        have hR := hp 14 (by decide) (by decide)
        obtain ⟨rs2, l2, R3, e3⟩ := hR
        have H8 : Hid (FdW W bc a len cap w f (.slice (some ⟨g, 0, none⟩) n q) rs2 l2 x ∧ l2.length ≤ 4) := ⟨R3, by rw [e3]; exact hn4.2⟩
        have ha := hkp.pick [true, true, true, true, true, true, true, true, true, true, true, true, true, true, true, true, true, true, true, true, true, true, true, true, true, true, true, true, true, true, true, true, true, true, true, true, true, true, true, true, true, true, true, true, true, true, true, true, true, true, true, true, true, true, true, true, true, true, true, true, true, true, true, true, true, true, true, true, true, true, true, true, true, true, true, true, true, true, true, true, true, true, true, true, true, true, true, true, false, false, false, false, false, false, false, false, false, false, false, false, false, false, true, true, true, true, true, true, true, true, true, true, true, true, true, true, true, true, true, true, true, true, true, true, true, true, true, true] (by kernel_rfl)
        simp only [pickS] at ha
        clear hp hkp hI hall R3 e3
        generalize a'.tmps.getD 88 undef = yy88 at ha
        generalize a'.tmps.getD 89 undef = yy89 at ha
        generalize a'.tmps.getD 90 undef = yy90 at ha
        generalize a'.tmps.getD 91 undef = yy91 at ha
        generalize a'.tmps.getD 92 undef = yy92 at ha
        generalize a'.tmps.getD 93 undef = yy93 at ha
        generalize a'.tmps.getD 94 undef = yy94 at ha
        generalize a'.tmps.getD 95 undef = yy95 at ha
        generalize a'.tmps.getD 96 undef = yy96 at ha
        generalize a'.tmps.getD 97 undef = yy97 at ha
        generalize a'.tmps.getD 98 undef = yy98 at ha
        generalize a'.tmps.getD 99 undef = yy99 at ha
        generalize a'.tmps.getD 100 undef = yy100 at ha
        generalize a'.tmps.getD 101 undef = yy101 at ha
        rw [ha]
        clear ha
        go_upto_region 31 with fail
        have Zf : Hid _ := fun (y : World) h1 h2 h3 => H8.out.1.fin (x' := y) H8.out.2 h1 h2 h3
        have lo : W.heap.size ≤ w.heap.size := Nat.le_trans cur.out.lo (Nat.le_of_lt cur.out.lt)
        go_wp2_with (first | (refine wpList_load_row rfl 26 (.tmp 3) rfl (w.heap.size + 1) rfl _ _ _ _ H8.out.1.out Try.underlying26 rfl (by kernel_rfl) ?_) | (refine wpList_store_row rfl 26 (.tmp 2) (.tmp 127) rfl w.heap.size _ rfl rfl _ _ H8.out.1.res (by kernel_rfl) rfl (by simp [Value.oneCell']) ?_))
        have Zg := Zf.out (x.setRow w.heap.size #[.int .i64 f, (.slice (some ⟨g, 0, none⟩) n q)]) (fun k hk => setRow_other _ _ _ _ hk) (by rw [size_setRow]; exact Nat.le_refl _) (below_setRow (Below.refl _ _) lo _)
        obtain ⟨⟨dd, hz1, hz2⟩, hz3, hz4⟩ := Zg
        exact bodyPost_ret (results_cell_row Try.results47 _ _ w.heap.size _ _ _ _ rfl (setRow_heap _ w.heap.size _ _ _ _ H8.out.1.res) Try.underlying26 rfl (by kernel_rfl)) rfl ⟨⟨_, dd, rfl, hz1, hz2⟩, hz3, hz4⟩
      · have ba : Below w6.heap.size w6 (w6.alloc (.cells #[.int .i64 (-1), .int .i64 1125899906842624, .int .i64 1125899906842625] 2)) := (Below.refl _ _).alloc (Nat.le_refl _) _
        have HA : Hid (FdW W bc a len cap w f (.slice (some ⟨g, 0, none⟩) n q) rs' l' (w6.alloc (.cells #[.int .i64 (-1), .int .i64 1125899906842624, .int .i64 1125899906842625] 2)) ∧ Boxed (w6.alloc (.cells #[.int .i64 (-1), .int .i64 1125899906842624, .int .i64 1125899906842625] 2)) w6.heap.size #[.int .i64 (-1), .int .i64 1125899906842624, .int .i64 1125899906842625] 2 ∧ bc < w6.heap.size) := ⟨H6.out.below ba, Boxed.new _ _ _, H6.out.cur.lt⟩
        clear ba
        go_wp2_with fail
        generalize (w6.alloc (.cells #[.int .i64 (-1), .int .i64 1125899906842624, .int .i64 1125899906842625] 2)) = wt6 at HA ⊢
        generalize w6.heap.size = tb at HA ⊢
        refine (drawBelow hc 3 (by omega) _ HA.out.1.cur).mono ?_
        rintro e w7 ⟨⟨z, rfl, z0, z1⟩, c7, k7⟩
        obtain ⟨jz, rfl⟩ := Int.eq_ofNat_of_zero_le z0
        have H7 : Hid (FdW W bc a len cap w f (.slice (some ⟨g, 0, none⟩) n q) rs' l' w7) := HA.out.1.draw c7 k7
        have bt : Boxed w7 tb #[.int .i64 (-1), .int .i64 1125899906842624, .int .i64 1125899906842625] 2 := HA.out.2.1.keep (by have := HA.out.2.2; omega) k7
        have hjz : jz < 3 := by omega
        obtain ⟨zz, hzz⟩ : ∃ zz : Int, w7.cell? ⟨tb, jz, none⟩ = some (.int .i64 zz) := by
          have hq : jz = 0 ∨ jz = 1 ∨ jz = 2 := by omega
          rcases hq with rfl | rfl | rfl
          · exact ⟨_, bt.cell 0 rfl⟩
          · exact ⟨_, bt.cell 1 rfl⟩
          · exact ⟨_, bt.cell 2 rfl⟩
        have hjz' : (jz : Int) < 3 := by omega
        clear c7 k7 bt z0 z1 HA H6
        have x1 := H7.out.out.cell 0 rfl
        have x2 := H7.out.out.ice 0
        have H8 : Hid (FdW W bc a len cap w zz (.slice (some ⟨g, 0, none⟩) n q) rs' l' (w7.setCell ⟨w.heap.size + 1, 0, none⟩ (.int .i64 zz)) ∧ l'.length ≤ 4) := ⟨H7.out.now zz, by rw [Hl.out]; exact hn4.2⟩
        go_upto_region 31 with fail
        generalize w7.setCell ⟨w.heap.size + 1, 0, none⟩ (.int .i64 zz) = w8 at H8 ⊢
        clear x1 x2 hzz H7
        have Zf : Hid _ := fun (y : World) h1 h2 h3 => H8.out.1.fin (x' := y) H8.out.2 h1 h2 h3
        have lo : W.heap.size ≤ w.heap.size := Nat.le_trans cur.out.lo (Nat.le_of_lt cur.out.lt)
        go_wp2_with (first | (refine wpList_load_row rfl 26 (.tmp 3) rfl (w.heap.size + 1) rfl _ _ _ _ H8.out.1.out Try.underlying26 rfl (by kernel_rfl) ?_) | (refine wpList_store_row rfl 26 (.tmp 2) (.tmp 127) rfl w.heap.size _ rfl rfl _ _ H8.out.1.res (by kernel_rfl) rfl (by simp [Value.oneCell']) ?_))
        have Zg := Zf.out (w8.setRow w.heap.size #[.int .i64 zz, (.slice (some ⟨g, 0, none⟩) n q)]) (fun k hk => setRow_other _ _ _ _ hk) (by rw [size_setRow]; exact Nat.le_refl _) (below_setRow (Below.refl _ _) lo _)
        obtain ⟨⟨dd, hz1, hz2⟩, hz3, hz4⟩ := Zg
        exact bodyPost_ret (results_cell_row Try.results47 _ _ w.heap.size _ _ _ _ rfl (setRow_heap _ w.heap.size _ _ _ _ H8.out.1.res) Try.underlying26 rfl (by kernel_rfl)) rfl ⟨⟨_, dd, rfl, hz1, hz2⟩, hz3, hz4⟩
      · go_wp2_with fail
        go_loopw [] (fun wr => Hid (∃ rs l, FdW W bc a len cap w f (.slice (some ⟨g, 0, none⟩) n q) rs l wr ∧ l.length = n)) (fun wr => 40 - lenAt wr ⟨g, j * 3 + 2, none⟩)
        case atStart => exact ⟨rs', l', H6.out, Hl.out⟩
        case round =>
          obtain ⟨rs3, l3, HF⟩ : ∃ rs l, Hid (FdW W bc a len cap w f (.slice (some ⟨g, 0, none⟩) n q) rs l wr ∧ l.length = n) := hrel.out
          clear hrel H6 hjl
          have hjl : j < l3.length := by rw [HF.out.2]; exact hjn
          have HW : Hid (FdW W bc a len cap w f (.slice (some ⟨g, 0, none⟩) l3.length q) rs3 l3 wr) := by rw [HF.out.2]; exact HF.out.1
          have Hrow := HW.out.g.row j hjl
          obtain ⟨ux, uc, ehd⟩ := Hrow.shape
          obtain ⟨m, hm⟩ : ∃ m, (fwAt l3 j).sizes.length = m := ⟨_, rfl⟩
          have Hm : Hid ((fwAt l3 j).sizes.length = m) := hm
          rw [hm] at ehd
          rw [ehd] at Hrow
          have C := HW.out.g.cells hjl
          have x1 : wr.cell? ⟨g, j * 3 + 2, none⟩ = some (.slice ux m uc) := by rw [← ehd]; exact C.2.2.1
          have hlen : lenAt wr ⟨g, j * 3 + 2, none⟩ = m := by unfold lenAt; rw [x1]
          have Hlen : Hid _ := hlen
          have HR : Hid (IRow (w.heap.size + 2) wr (.slice ux m uc) (fwAt l3 j).sizes) := Hrow
          have Eh : Hid ((fwrAt rs3 j).hd = .slice ux m uc) := ehd
          clear hm C hlen Hrow ehd
          by_cases hm40 : m < 40
          case neg =>
            have hm40' : ¬ (m : Int) < 40 := by omega
            have H8 : Hid (FdW W bc a len cap w f (.slice (some ⟨g, 0, none⟩) n q) rs3 l3 wr ∧ l3.length ≤ 4) := ⟨HF.out.1, by rw [HF.out.2]; exact hn4.2⟩
            clear HF HW
            go_upto_region 31 with fail
            clear x1
            have Zf : Hid _ := fun (y : World) h1 h2 h3 => H8.out.1.fin (x' := y) H8.out.2 h1 h2 h3
            have lo : W.heap.size ≤ w.heap.size := Nat.le_trans cur.out.lo (Nat.le_of_lt cur.out.lt)
            go_wp2_with (first | (refine wpList_load_row rfl 26 (.tmp 3) rfl (w.heap.size + 1) rfl _ _ _ _ H8.out.1.out Try.underlying26 rfl (by kernel_rfl) ?_) | (refine wpList_store_row rfl 26 (.tmp 2) (.tmp 127) rfl w.heap.size _ rfl rfl _ _ H8.out.1.res (by kernel_rfl) rfl (by simp [Value.oneCell']) ?_))
            have Zg := Zf.out (wr.setRow w.heap.size #[.int .i64 f, (.slice (some ⟨g, 0, none⟩) n q)]) (fun k hk => setRow_other _ _ _ _ hk) (by rw [size_setRow]; exact Nat.le_refl _) (below_setRow (Below.refl _ _) lo _)
            obtain ⟨⟨dd, hz1, hz2⟩, hz3, hz4⟩ := Zg
            exact bodyPost_ret (results_cell_row Try.results47 _ _ w.heap.size _ _ _ _ rfl (setRow_heap _ w.heap.size _ _ _ _ H8.out.1.res) Try.underlying26 rfl (by kernel_rfl)) rfl ⟨⟨_, dd, rfl, hz1, hz2⟩, hz3, hz4⟩
          have hm40' : (m : Int) < 40 := by omega
          have ba : Below wr.heap.size wr (wr.alloc (.cells #[.int .i64 3] 2)) := (Below.refl _ _).alloc (Nat.le_refl _) _
          have HA : Hid (FdW W bc a len cap w f (.slice (some ⟨g, 0, none⟩) l3.length q) rs3 l3 (wr.alloc (.cells #[.int .i64 3] 2)) ∧ IRow (w.heap.size + 2) (wr.alloc (.cells #[.int .i64 3] 2)) (.slice ux m uc) (fwAt l3 j).sizes ∧ IntsAt (wr.alloc (.cells #[.int .i64 3] 2)) (some ⟨wr.heap.size, 0, none⟩) [3] ∧ w.heap.size + 2 ≤ (wr.alloc (.cells #[.int .i64 3] 2)).heap.size) := ⟨HW.out.below ba, HR.out.alloc _, ints_new wr 2 [3] #[.int .i64 3] wr.heap.size rfl rfl, by have h1 := HW.out.out.under; have h2 := ba.size; omega⟩
          have Nx : Hid (∀ uv wn, IRow (w.heap.size + 2) wn uv ((fwAt l3 j).sizes ++ [3]) → Below (w.heap.size + 2) (wr.alloc (.cells #[.int .i64 3] 2)) wn → World.grownBy (wr.alloc (.cells #[.int .i64 3] 2)) wn (Value.slice ux m uc).ownBlock → (uv.ownBlock = (Value.slice ux m uc).ownBlock ∨ uv.ownBlock = some (wr.alloc (.cells #[.int .i64 3] 2)).heap.size) → (∃ rs' l', FdW W bc a len cap w f (.slice (some ⟨g, 0, none⟩) l3.length q) rs' l' (wn.setCell ⟨g, j * 3 + 2, none⟩ uv) ∧ l'.length = l3.length ∧ (fwrAt rs' j).hd = uv ∧ (fwAt l' j).sizes = (fwAt l3 j).sizes ++ [3]) ∧ wn.cell? ⟨g, j * 3 + 2, none⟩ = some (.slice ux m uc) ∧ wn.frozen? ⟨g, j * 3 + 2, none⟩ = false) := fun uv wn q1 q2 q3 q4 => HA.out.1.sizes hjl hgb Eh.out (by rw [Hm.out]; omega) q1 q2 q3 q4
          have HL3 : Hid (l3.length = n) := HF.out.2
          clear ba HF HW HR
          go_wp2_with (refine int_row_app rfl (.tmp 122) (.tmp 123) rfl (w.heap.size + 2) (.slice ux m uc) (fwAt l3 j).sizes (some ⟨wr.heap.size, 0, none⟩) 1 1 [3] rfl rfl rfl HA.out.2.1 HA.out.2.2.1 (fun h => by cases h) (by rw [Hm.out]; simp only [List.length_singleton]; omega) HA.out.2.2.2 ?_; intro uv wn q1 q2 q3 q4; obtain ⟨uy, ud, ey⟩ := q1.shape; rw [List.length_append, List.length_singleton, Hm.out] at ey; subst ey; have Q : Hid _ := Nx.out _ wn q1 q2 q3 q4; have y2 := Q.out.2.1; have y3 := Q.out.2.2; clear q1 q2 q3 q4)
          obtain ⟨rs4, l4, h4, e4, e5, e6⟩ := Q.out.1
          rw [HL3.out] at h4 e4
          have Hme : Hid (lenAt (wn.setCell ⟨g, j * 3 + 2, none⟩ (.slice uy (m + 1) ud)) ⟨g, j * 3 + 2, none⟩ = m + 1) := by
            show lenAt _ _ = _
            unfold lenAt
            rw [World.cell?_setCell_same' _ _ _ (by rw [y2]; rfl)]
          go_roundw
          case rel => exact ⟨rs4, l4, h4, e4⟩
          case measure => rw [Hme.out, Hlen.out]; omega

end Go.Proofs.Ytllmkolchgmjoaa
