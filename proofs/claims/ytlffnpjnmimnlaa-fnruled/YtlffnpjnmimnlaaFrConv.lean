/-
  Bytes of the call's own as a text; a list of bytes behind another one. By the verifier.
-/
import Derived.Test.YtlffnpjnmimnlaaFrInner
import Derived.Laws.BytesString
import Derived.Laws.Concat
namespace Go.Proofs.Ytlffnpjnmimnlaa
open Go.RowKit

theorem Row.form {base : Nat} {w : World} {v : Value} {xs : List Int} (h : Row base w v xs) (hx : 0 < xs.length) : ∃ g cap, v = .slice (some ⟨g, 0, none⟩) xs.length cap := by
  rcases h.2 with ⟨rfl, hn⟩ | ⟨g, cap, cur, rfl, _⟩
  · omega
  · exact ⟨_, _, rfl⟩
theorem foldl_strB (ns : List Int) : ns.foldl (fun r n => r.push (UInt8.ofNat n.toNat)) ByteArray.empty = strB ns := by
  have : ∀ (ns : List Int) (r : ByteArray), ns.foldl (fun r n => r.push (UInt8.ofNat n.toNat)) r = ⟨r.data ++ (ns.map fun n => UInt8.ofNat n.toNat).toArray⟩ := by
    intro ns
    induction ns with
    | nil => intro r; simp
    | cons n ns ih =>
      intro r
      rw [List.foldl_cons, ih]
      apply ByteArray.ext
      show (r.data.push _) ++ _ = _
      simp
  rw [this]; simp [strB, ByteArray.empty, ByteArray.emptyWithCapacity]; rfl
theorem Row.bytes {base : Nat} {w : World} {xs : List Int} {g cap : Nat} (h : Row base w (.slice (some ⟨g, 0, none⟩) xs.length cap) xs) :
    (Conv.bytesToString (.slice (some ⟨g, 0, none⟩) xs.length cap)).run Try.prog w = .ok (.string (strB xs)) w := by
  have hl := run_loadCells_list (P := Try.prog) w ⟨g, 0, none⟩ (xs.map (Value.int .u8)) (World.ownsRow.cells h rfl)
  rw [List.length_map] at hl
  rw [run_bytesToString w ⟨g, 0, none⟩ xs.length cap xs hl, foldl_strB]
theorem Row.conv {base : Nat} {w : World} {xs : List Int} {g cap : Nat} (h : Row base w (.slice (some ⟨g, 0, none⟩) xs.length cap) xs) :
    (convert 22 9 (.slice (some ⟨g, 0, none⟩) xs.length cap)).run Try.prog w = .ok (.string (strB xs)) w := by
  rw [run_convert_bytes_string w 22 9 5 _ _ _ Try.underlying22 Try.underlying5 Try.underlying9, h.bytes]
theorem strB_append (a b : List Int) : strB (a ++ b) = strB a ++ strB b := by
  apply ByteArray.ext
  simp [strB]
theorem strB_bytesB (s : ByteArray) : strB (bytesB s) = s := by
  apply ByteArray.ext
  have e : ((fun n : Int => UInt8.ofNat n.toNat) ∘ fun b : UInt8 => (b.toNat : Int)) = id := by
    funext b; simp
  simp [strB, bytesB, e]
theorem strB_size (a : List Int) : (strB a).size = a.length := by
  show (List.toArray _).size = _
  simp
theorem Fr.show_ok {f : Fr} (h : f.ok = true) : f.show = strB f.head ++ f.body := by simp [Fr.show, h]
theorem Fr.show_no {f : Fr} (h : f.ok = false) : f.show = ByteArray.empty := by simp [Fr.show, h]
theorem Fr.show_two {f : Fr} (h : f.ok = true) : strB ((f.outer ++ [2]) ++ (f.mid ++ bytesB f.body)) = f.show := by
  rw [Fr.show_ok h, ← List.append_assoc, strB_append, strB_bytesB]; rfl

/-- A list of bytes of the call's own behind another, as a step of a region that draws. -/
theorem step_appN {ops : Array Oper} {o : Oper} {a : Act} {w : World} {K : Act → World → Prop} {Q : Exit → Act → World → Prop} {E : Prop} (hgd : o.guard = none) (s x : Operand)
    (ho : o.op = .call { callee := .builtin .append, args := #[s, x], argTypes := #[22, 22] })
    (base base' : Nat) (v : Value) (xs ys : List Int) (g c : Nat) (hs : a.eval s = v) (hrow : Row base w v xs) (hx : a.eval x = .slice (some ⟨g, 0, none⟩) ys.length c) (hys : Row base' w (.slice (some ⟨g, 0, none⟩) ys.length c) ys)
    (hlen : xs.length + ys.length ≤ 1000000) (hb : base ≤ w.heap.size)
    (h : ∀ v' w', Row base w' v' (xs ++ ys) → Below base w w' → K (a.put o.dst v') w') :
    if Region.wanted o (yielded ops a.tmps) = true then Oper.wp Try.prog o a w K Q else E := by
  have hw : Region.wanted o (yielded ops a.tmps) = true := by simp [Region.wanted, hgd]
  rw [if_pos hw]
  obtain ⟨i0, hi, hz0, hz1, hz2⟩ := info_parts info5
  obtain ⟨v', w', hrun, h1, h2, _⟩ := run_append_own (P := Try.prog) w base 22 o.type 5 i0 (.int .u8 0) 1 1 Try.underlying22 hi hz0 hz1 hz2 rfl (by decide) v _ _ hrow ⟨g, 0, none⟩ ys.length c (ys.map (Value.int .u8)) (by simp)
    (World.ownsRow.cells hys rfl) (by intro u hu; simp only [List.mem_map] at hu; obtain ⟨y, _, rfl⟩ := hu; rfl) (by unfold maxLen; omega) (by omega) hb
  unfold Oper.wp
  simp [execOp, ho, resolve, invoke, builtin, hs, hx, hrun, Result.andThen]
  exact h v' w' (row_more rfl h1) ((Below.refl base w).grown h2 hb (fun k hk => Row.block hrow k hk))

end Go.Proofs.Ytlffnpjnmimnlaa
