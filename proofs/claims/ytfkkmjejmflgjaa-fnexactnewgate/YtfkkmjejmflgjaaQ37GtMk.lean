import Derived.Test.YtfkkmjejmflgjaaQ28IzMark
import Derived.Test.YtfkkmjejmflgjaaQ2SsV
import Derived.Test.YtfkkmjejmflgjaaQ31NdCopy
import Derived.Test.YtfkkmjejmflgjaaQ33IntCp
import Derived.Test.YtfkkmjejmflgjaaQ8GtSpot
import Derived.Test.YtfkkmjejmflgjaaQ7GtFn
import Derived.Test.YtfkkmjejmflgjaaQ29RgW
import Derived.Test.YtfkkmjejmflgjaaQ30RuW
import Derived.Test.YtfkkmjejmflgjaaQ36SsW
import Derived.Test.YtfkkmjejmflgjaaQ35RwStr
import Derived.Test.YtfkkmjejmflgjaaQ34FsStr
/-
  Numbers put into lists of records (Node) that lie wherever. By the verifier, by program.
-/
namespace Go.Proofs.Ytfkkmjejmflgjaa
open Go.RowKit

set_option maxHeartbeats 6400000 in
set_option maxRecDepth 100000 in
theorem markNdsG (s : Int) (s0 : 0 ≤ s) (s1 : s ≤ 1099511627776) (b t : Nat) (v : Value) (T : List Nd) (hT : T.length ≤ 1048576) (w : World) (H : Hid (NdIn b t w v T)) :
    Calls Try.prog 13 #[v, .int .i64 s] w fun e w' => e = .returned (.int .i64 (s + 5 * (T.length : Int))) ∧ NdIn b t w' v (ndMksF s T T.length) ∧ Turn (Hits v (T.length * 5)) w w' := by
  obtain ⟨a, cap, rfl⟩ := SlIn.shape H.out
  obtain ⟨len, hlen⟩ : ∃ n, T.length = n := ⟨_, rfl⟩
  have hcl := ndcells_length T
  have H : Hid (SlIn b t w (.slice a len cap) len (ndcells T)) := by
    have h := H.out
    unfold NdIn at h
    rw [hlen] at h
    exact h
  rw [hlen] at hT ⊢
  have Hlen : Hid (T.length = len) := hlen
  have Hcl : Hid (∀ j, j ≤ len → (ndcells (ndMksF s T j)).length = len * 5) := fun j hj => by rw [ndcells_length, ndMksF_length s T j (by rw [Hlen.out]; exact hj), Hlen.out]
  clear hlen hcl
  go_enter Try.func13, Try.ntmps13
  go_wp2
  go_loopw [1, 5] (fun kk i wr => ∃ (j : Nat) (kv : Int), j ≤ len ∧ i = .int .i64 j ∧ kk = .int .i64 kv ∧ kv = s + 5 * (j : Int) ∧ Hid (SlIn b t wr (.slice a len cap) len (ndcells (ndMksF s T j)) ∧ Turn (Hits (.slice a len cap) (len * 5)) w wr)) (fun _ i _ => len - (intOf i).toNat)
  case atStart => exact ⟨0, s, Nat.zero_le _, rfl, rfl, by simp, by rw [ndMksF_zero]; exact H.out, Turn.refl _ _⟩
  case round =>
    obtain ⟨j, kv, hj, rfl, rfl, hkv, H2⟩ := hrel
    have Hkv : Hid (kv = s + 5 * (j : Int)) := hkv
    have k0 : 0 ≤ kv := by omega
    have k1 : kv ≤ 1099516870656 := by omega
    by_cases hlt : j < len
    · have hcl := Hcl.out j hj
      obtain ⟨g, off, ha, h1, h2, h3⟩ := SlIn.some H2.out.1 (by intro e; rw [e] at hcl; simp at hcl; omega)
      subst ha
      have em : ndMkF s j = ⟨kv, kv + 1, kv + 1 + 1, kv + 1 + 1 + 1, kv + 1 + 1 + 1 + 1⟩ := by
        rw [hkv]
        unfold ndMkF
        simp only [Nd.mk.injEq, Pz.mk.injEq]
        refine ⟨by first | trivial | omega, by first | trivial | omega, by first | trivial | omega, by first | trivial | omega, by first | trivial | omega⟩
      have hput := H2.out.1
      have hput := SlIn.put hput (j * 5) (by omega) (.int .i64 (kv))
      have hput := SlIn.put hput (j * 5 + 1) (by simp only [List.length_set]; omega) (.int .i64 (kv + 1))
      have hput := SlIn.put hput (j * 5 + 2) (by simp only [List.length_set]; omega) (.int .i64 (kv + 1 + 1))
      have hput := SlIn.put hput (j * 5 + 3) (by simp only [List.length_set]; omega) (.int .i64 (kv + 1 + 1 + 1))
      have hput := SlIn.put hput (j * 5 + 4) (by simp only [List.length_set]; omega) (.int .i64 (kv + 1 + 1 + 1 + 1))
      have hset := ndcells_set (ndMksF s T j) j (ndMkF s j)
      rw [ndMksF_step s T j (by rw [Hlen.out]; exact hlt)] at hset
      simp only [em] at hset
      rw [hset] at hput
      have z0 := (SlIn.cells H2.out.1 (j * 5) (by omega)).2
      have y0 := (SlIn.cells H2.out.1 (j * 5) (by omega)).1
      have z1 := (SlIn.cells H2.out.1 (j * 5 + 1) (by omega)).2
      have y1 := (SlIn.cells H2.out.1 (j * 5 + 1) (by omega)).1
      have z2 := (SlIn.cells H2.out.1 (j * 5 + 2) (by omega)).2
      have y2 := (SlIn.cells H2.out.1 (j * 5 + 2) (by omega)).1
      have z3 := (SlIn.cells H2.out.1 (j * 5 + 3) (by omega)).2
      have y3 := (SlIn.cells H2.out.1 (j * 5 + 3) (by omega)).1
      have z4 := (SlIn.cells H2.out.1 (j * 5 + 4) (by omega)).2
      have y4 := (SlIn.cells H2.out.1 (j * 5 + 4) (by omega)).1
      simp only [← Nat.add_assoc] at hput z0 y0 z1 y1 z2 y2 z3 y3 z4 y4
      have H3 : Hid (SlIn b t (((((wr.setCell ⟨g, off + j * 5, none⟩ (.int .i64 (kv))).setCell ⟨g, off + j * 5 + 1, none⟩ (.int .i64 (kv + 1))).setCell ⟨g, off + j * 5 + 2, none⟩ (.int .i64 (kv + 1 + 1))).setCell ⟨g, off + j * 5 + 3, none⟩ (.int .i64 (kv + 1 + 1 + 1))).setCell ⟨g, off + j * 5 + 4, none⟩ (.int .i64 (kv + 1 + 1 + 1 + 1))) (.slice (some ⟨g, off, none⟩) len cap) len (ndcells (ndMksF s T (j + 1))) ∧ Turn (Hits (.slice (some ⟨g, off, none⟩) len cap) (len * 5)) w (((((wr.setCell ⟨g, off + j * 5, none⟩ (.int .i64 (kv))).setCell ⟨g, off + j * 5 + 1, none⟩ (.int .i64 (kv + 1))).setCell ⟨g, off + j * 5 + 2, none⟩ (.int .i64 (kv + 1 + 1))).setCell ⟨g, off + j * 5 + 3, none⟩ (.int .i64 (kv + 1 + 1 + 1))).setCell ⟨g, off + j * 5 + 4, none⟩ (.int .i64 (kv + 1 + 1 + 1 + 1)))) := by
        refine ⟨hput, H2.out.2.trans ?_⟩
        refine (Turn.trans (Turn.trans (Turn.trans (Turn.trans ((turn_set _ _ _ _).wide ?_) ((turn_set _ _ _ _).wide ?_)) ((turn_set _ _ _ _).wide ?_)) ((turn_set _ _ _ _).wide ?_)) ((turn_set _ _ _ _).wide ?_))
        all_goals (rintro k o ⟨rfl, rfl⟩; exact ⟨off, len, cap, rfl, by omega, by omega⟩)
      generalize (ndcells (ndMksF s T j))[j * 5]?.getD undef = u0 at y0; generalize (ndcells (ndMksF s T j))[j * 5 + 1]?.getD undef = u1 at y1; generalize (ndcells (ndMksF s T j))[j * 5 + 2]?.getD undef = u2 at y2; generalize (ndcells (ndMksF s T j))[j * 5 + 3]?.getD undef = u3 at y3; generalize (ndcells (ndMksF s T j))[j * 5 + 4]?.getD undef = u4 at y4
      clear hput hset hkv em hcl h1 h2 h3
      go_wp2
      go_roundw
      case rel => exact ⟨j + 1, kv + 5, by omega, by go_num, by go_num, by rw [Hkv.out]; push_cast; omega, H3⟩
      case measure => simp [intOf]; omega
    · obtain rfl : j = len := by omega
      go_wp2
      go_ret
      refine ⟨by rw [← Hkv.out]; rfl, ?_, H2.out.2⟩
      have h := H2.out.1
      unfold NdIn
      rw [ndMksF_length s T _ (by rw [Hlen.out]; omega), Hlen.out]
      exact h
end Go.Proofs.Ytfkkmjejmflgjaa

/-
  Lists of nodes as values with memory: what the laws' own functions do on them, in the form that records with memory have. By the verifier.
-/
namespace Go.Proofs.Ytfkkmjejmflgjaa
open Go.RowKit

def ndMk1 (l : List Nd) : List Nd := ndMksF 1 l l.length
theorem ndMk1_length (l : List Nd) : (ndMk1 l).length = l.length := ndMksF_length 1 l l.length (Nat.le_refl _)
theorem toNdW (a : Option Addr) (c : Nat) (l : List Nd) (w : World) (hT : l.length ≤ 1048576) (h : Hid (NdsAt w a l)) :
    Calls Try.prog 7 #[.slice a l.length c] w fun e w' => (∃ v, e = .returned v ∧ NdsW w.heap.size w'.heap.size w' v l) ∧ Below w.heap.size w w' :=
  (toNds a c l w hT h).mono fun e w' hh => by
    obtain ⟨g, rfl, hr, hb⟩ := hh
    exact ⟨⟨_, rfl, NdsW.of_row hr⟩, hb⟩
theorem eqNdW (v1 v2 : Value) (l : List Nd) (w : World) (hT : l.length ≤ 1048576) (h1 : Hid (NdsV w v1 l)) (h2 : Hid (NdsV w v2 l)) :
    Calls Try.prog 11 #[v1, v2] w fun e w' => e = .returned (.bool true) ∧ Below w.heap.size w w' := by
  obtain ⟨a1, c1, rfl, k1, _⟩ := h1.out
  obtain ⟨a2, c2, rfl, k2, _⟩ := h2.out
  exact eqNds a1 a2 c1 c2 l w hT k1 k2
theorem markNdW (b t : Nat) (v : Value) (l : List Nd) (w : World) (hT : l.length ≤ 1048576) (H : Hid (NdsW b t w v l)) :
    Calls Try.prog 13 #[v, .int .i64 1] w fun e w' => e = .returned (.int .i64 (1 + 5 * (l.length : Int))) ∧ NdsW b t w' v (ndMk1 l) ∧ Span b t w w' :=
  (markNdsG 1 (by omega) (by omega) b t v l hT w H.out.1).mono fun e w' hh => by
    obtain ⟨rfl, h1, h2⟩ := hh
    obtain ⟨a, c, rfl, hc⟩ := H.out.2
    refine ⟨rfl, ⟨h1, a, c, by rw [ndMk1_length], by rw [ndMk1_length]; exact hc⟩, Span.of_turn h2 fun k o hh => ?_⟩
    have := SlIn.in H.out.1 (k := k) (o := o)
    rw [ndcells_length] at this
    exact this hh
end Go.Proofs.Ytfkkmjejmflgjaa

/-
  Lists (Node) as values with memory: what the laws' own functions do on them, numbers from any one on. By the verifier, by program.
-/
namespace Go.Proofs.Ytfkkmjejmflgjaa
open Go.RowKit

def ndMkS (s : Int) (l : List Nd) : List Nd := ndMksF s l l.length
theorem ndMkS_length (s : Int) (l : List Nd) : (ndMkS s l).length = l.length := ndMksF_length s l l.length (Nat.le_refl _)
theorem markNdS (s : Int) (s0 : 0 ≤ s) (s1 : s ≤ 549755813888) (b t : Nat) (v : Value) (l : List Nd) (w : World) (hT : l.length ≤ 1048576) (H : Hid (NdsW b t w v l)) :
    Calls Try.prog 13 #[v, .int .i64 s] w fun e w' => e = .returned (.int .i64 (s + 5 * (l.length : Int))) ∧ NdsW b t w' v (ndMkS s l) ∧ Span b t w w' :=
  (markNdsG s (by omega) (by omega) b t v l hT w H.out.1).mono fun e w' hh => by
    obtain ⟨rfl, h1, h2⟩ := hh
    obtain ⟨a, c, rfl, hc⟩ := H.out.2
    refine ⟨rfl, ⟨h1, a, c, by rw [ndMkS_length], by rw [ndMkS_length]; exact hc⟩, Span.of_turn h2 fun k o hh => ?_⟩
    have := SlIn.in H.out.1 (k := k) (o := o)
    rw [ndcells_length] at this
    exact this hh
theorem heldNdS (s : Int) (s0 : 0 ≤ s) (s1 : s ≤ 549755813888) (v : Value) (l : List Nd) (w : World) (hT : l.length ≤ 1048576) (H : Hid (NdsV w v (ndMkS s l))) :
    Calls Try.prog 40 #[v, .int .i64 s] w fun e w' => e = .returned (.int .i64 (s + 5 * (l.length : Int))) ∧ Below w.heap.size w w' := by
  obtain ⟨a, c, rfl, k, _⟩ := H.out
  rw [ndMkS_length]
  exact (heldNdsF s (by omega) (by omega) a c l hT w k).mono fun e w' hh => ⟨hh.1, by rw [hh.2]; exact Below.refl _ _⟩
end Go.Proofs.Ytfkkmjejmflgjaa

/-
  Lists of numbers as values with memory: numbers from any one on put in and looked for. By the verifier.
-/
namespace Go.Proofs.Ytfkkmjejmflgjaa
open Go.RowKit

def intMkS (s : Int) (l : List Int) : List Int := mks s l l.length
theorem intMkS_length (s : Int) (l : List Int) : (intMkS s l).length = l.length := mks_length s l l.length (Nat.le_refl _)
theorem toIntW (a : Option Addr) (c : Nat) (l : List Int) (w : World) (hT : l.length ≤ 1048576) (h : Hid (IntsAt w a l)) :
    Calls Try.prog 8 #[.slice a l.length c] w fun e w' => (∃ v, e = .returned v ∧ IntsW w.heap.size w'.heap.size w' v l) ∧ Below w.heap.size w w' :=
  (toIntsR a c l w hT h).mono fun e w' hh => by
    obtain ⟨g, rfl, hr, hb⟩ := hh
    exact ⟨⟨_, rfl, IntsW.of_row hr⟩, hb⟩
theorem markIntS (s : Int) (s0 : 0 ≤ s) (s1 : s ≤ 549755813888) (b t : Nat) (v : Value) (l : List Int) (w : World) (hT : l.length ≤ 1048576) (H : Hid (IntsW b t w v l)) :
    Calls Try.prog 14 #[v, .int .i64 s] w fun e w' => e = .returned (.int .i64 (s + (l.length : Int))) ∧ IntsW b t w' v (intMkS s l) ∧ Span b t w w' :=
  (markIntsG s (by omega) (by omega) b t v l hT w H.out.1).mono fun e w' hh => by
    obtain ⟨rfl, h1, h2⟩ := hh
    obtain ⟨a, c, rfl, hc⟩ := H.out.2
    refine ⟨rfl, ⟨h1, a, c, by rw [intMkS_length], by rw [intMkS_length]; exact hc⟩, Span.of_turn h2 fun k o hh => ?_⟩
    have := SlIn.in H.out.1 (k := k) (o := o)
    rw [List.length_map] at this
    exact this hh
theorem heldIntS (s : Int) (s0 : 0 ≤ s) (s1 : s ≤ 549755813888) (v : Value) (l : List Int) (w : World) (hT : l.length ≤ 1048576) (H : Hid (IntsV w v (intMkS s l))) :
    Calls Try.prog 41 #[v, .int .i64 s] w fun e w' => e = .returned (.int .i64 (s + (l.length : Int))) ∧ Below w.heap.size w w' := by
  obtain ⟨a, c, rfl, k, _⟩ := H.out
  rw [intMkS_length]
  exact (heldIntsF s (by omega) (by omega) a c l hT w k).mono fun e w' hh => ⟨hh.1, by rw [hh.2]; exact Below.refl _ _⟩
end Go.Proofs.Ytfkkmjejmflgjaa

/-
  A gate with numbers put in. By the verifier, by program.
-/
namespace Go.Proofs.Ytfkkmjejmflgjaa
open Go.RowKit

/-- The number told behind each field. -/
def Gt.k1 (s : Int) (g : Gt) : Int := s + 3 * (g.routes.length : Int)
def Gt.k2 (s : Int) (g : Gt) : Int := g.k1 s + 10 * (g.rules.length : Int)
def Gt.k3 (s : Int) (g : Gt) : Int := g.k2 s + 5 * (g.tree.length : Int)
def Gt.k4 (s : Int) (g : Gt) : Int := g.k3 s + (g.leaves.length : Int)
def Gt.k5 (s : Int) (g : Gt) : Int := g.k4 s + 3 * (izSum g.rows.lists g.rows.lists.length : Int)
def Gt.k6 (s : Int) (g : Gt) : Int := g.k5 s + 3 * (g.steers.length : Int)
def Gt.k7 (s : Int) (g : Gt) : Int := g.k6 s + 2 * (g.fair.flows.length : Int) + (fwSum g.fair.flows g.fair.flows.length : Int)
/-- With its numbers put in. -/
def Gt.mk' (s : Int) (g : Gt) : Gt := ⟨g.ln, rtMkS s g.routes, ruMkS (g.k1 s) g.rules, ndMkS (g.k2 s) g.tree, intMkS (g.k3 s) g.leaves, Rw.mk' (g.k4 s) g.rows, srMkS (g.k5 s) g.steers, Fs.mk' (g.k6 s) g.fair, g.next, g.draw⟩
theorem Span.wide {b t b1 t1 : Nat} {w w' : World} (h : Span b1 t1 w w') (hb : b ≤ b1) (ht : t1 ≤ t) : Span b t w w' := ⟨h.os, h.tape, h.output, h.size, fun k hk h2 => h.block k hk (by omega)⟩
theorem rw_mk_len (s : Int) (r : Rw) : (Rw.mk' s r).lists.length = r.lists.length := by simp [Rw.mk', izMks_length]
theorem fs_mk_len (s : Int) (r : Fs) : (Fs.mk' s r).flows.length = r.flows.length := by simp [Fs.mk', fwMks_length]
theorem Gt.mk_val (s : Int) (g : Gt) (x : Ga) : (g.mk' s).val x = g.val x := by
  simp only [Gt.val, Gt.cells, Gt.mk', rtMkS_length, ruMkS_length, ndMkS_length, intMkS_length, srMkS_length, rw_mk_len, fs_mk_len]
  rfl
theorem Gt.ks {g : Gt} (h : g.big ≤ 1048576) {s : Int} (s0 : 0 ≤ s) (s1 : s ≤ 274877906944) : (0 ≤ g.k1 s ∧ g.k1 s ≤ 549755813888) ∧ (0 ≤ g.k2 s ∧ g.k2 s ≤ 549755813888) ∧ (0 ≤ g.k3 s ∧ g.k3 s ≤ 549755813888) ∧ (0 ≤ g.k4 s ∧ g.k4 s ≤ 549755813888) ∧ (0 ≤ g.k5 s ∧ g.k5 s ≤ 549755813888) ∧ (0 ≤ g.k6 s ∧ g.k6 s ≤ 549755813888) ∧ 0 ≤ g.k7 s := by
  obtain ⟨h1, h2, h3, h4, h5, h6, h7⟩ := Gt.small h
  have h8 := (Rw.small h5).2.1
  unfold Gt.k7 Gt.k6 Gt.k5 Gt.k4 Gt.k3 Gt.k2 Gt.k1
  omega
end Go.Proofs.Ytfkkmjejmflgjaa
