import Derived.Test.YthklibioolnggaaGreatDoorAf
import Derived.Deep.AppendLies
namespace Go.Proofs.YthklibioolnggaaGreatDoor
open Go.RowKit Go.Proofs.Sha

theorem info_parts2 {i : Option TypeInfo} {a : Option Value} {b c : Nat} (h : i.map (fun i => (i.zero, i.size, i.bytes)) = some (a, b, c)) : ∃ j, i = some j ∧ j.zero = a ∧ j.size = b ∧ j.bytes = c := by
  cases i with
  | none => cases h
  | some j => simp only [Option.map_some, Option.some.injEq, Prod.mk.injEq] at h; exact ⟨j, rfl, h.1, h.2.1, h.2.2⟩
theorem info9 : (Tryz.prog.info? 9).map (fun i => (i.zero, i.size, i.bytes)) = some (some (.string ⟨#[]⟩), 1, 16) := by kernel_rfl
theorem ownG_cells {w : World} {base g n t z : Nat} {v : Value} {xs : List Value} (h : w.ownsRow base t z v n xs) (hv : v.ownBlock = some g) : base ≤ g ∧ g < w.heap.size ∧ ∃ cur, w.heap[g]? = some (.cells cur t (0, 0)) := by
  rcases h.2 with ⟨rfl, _⟩ | ⟨g', cap, cur, rfl, hb, hg, _⟩
  · cases hv
  · obtain rfl : g' = g := Option.some.inj hv
    exact ⟨hb, (Array.getElem?_eq_some_iff.1 hg).1, cur, hg⟩
theorem ownG_kept {w w' : World} {base n t z : Nat} {v : Value} {xs : List Value} (h : w.ownsRow base t z v n xs) (hk : ∀ g, v.ownBlock = some g → g < w.heap.size → w'.heap[g]? = w.heap[g]?) : w'.ownsRow base t z v n xs := by
  refine ⟨h.1, ?_⟩
  rcases h.2 with ⟨h1, h2⟩ | ⟨g, cap, cur, hv, hb, hg, rest⟩
  · exact .inl ⟨h1, h2⟩
  · exact .inr ⟨g, cap, cur, hv, hb, (hk g (by rw [hv]; rfl) (Array.getElem?_eq_some_iff.1 hg).1).trans hg, rest⟩
theorem ownG_mono {w : World} {base base' n t z : Nat} {v : Value} {xs : List Value} (h : w.ownsRow base t z v n xs) (hb : base' ≤ base) : w.ownsRow base' t z v n xs := by
  refine ⟨h.1, ?_⟩
  rcases h.2 with ⟨h1, h2⟩ | ⟨g, cap, cur, hv, hg, rest⟩
  · exact .inl ⟨h1, h2⟩
  · exact .inr ⟨g, cap, cur, hv, Nat.le_trans hb hg, rest⟩

/-- A row of the call's own, while it is put together: elements of type T, z cells each. -/
structure OwnV (T z : Nat) (w : World) (xs : List Value) (a : Option Addr) (m c : Nat) (W : World) : Prop where
  own : W.ownsRow w.heap.size T z (.slice a m c) m xs
  bel : Below w.heap.size w W
theorem OwnV.below {T z : Nat} {w W W' : World} {xs : List Value} {a : Option Addr} {m c : Nat} (h : OwnV T z w xs a m c W) (hb : Below W.heap.size W W') : OwnV T z w xs a m c W' :=
  ⟨ownG_kept h.own (fun q _ hq => hb.block q hq), h.bel.trans (hb.mono h.bel.size)⟩
theorem OwnV.more {T z : Nat} {w W W' : World} {xs ys : List Value} {a : Option Addr} {m c m' g cap : Nat} {o : Obj} (h : OwnV T z w xs a m c W) (hown : W'.ownsRow w.heap.size T z (.slice (some ⟨g, 0, none⟩) m' cap) m' (xs ++ ys)) (hgrow : (W.alloc o).grownBy W' (Value.slice a m c).ownBlock) : OwnV T z w (xs ++ ys) (some ⟨g, 0, none⟩) m' cap W' := by
  have ha := h.below ((Below.refl W.heap.size W).alloc (Nat.le_refl _) o)
  exact ⟨hown, ha.bel.grown hgrow ha.bel.size (fun q hq => (ownG_cells ha.own hq).1)⟩
theorem OwnV.up {T z : Nat} {w w1 W : World} {xs : List Value} {a : Option Addr} {m c : Nat} (h : OwnV T z w1 xs a m c W) (hb : Below w.heap.size w w1) : OwnV T z w xs a m c W :=
  ⟨ownG_mono h.own hb.size, hb.trans (h.bel.mono hb.size)⟩
theorem OwnV.nil {T z : Nat} {w W : World} (h : Below w.heap.size w W) : OwnV T z w [] none 0 0 W := ⟨World.ownsRow_nil _ _ _ _, h⟩
theorem OwnV.len {T z : Nat} {w W : World} {xs : List Value} {a : Option Addr} {m c : Nat} (h : OwnV T z w xs a m c W) : xs.length = m * z := h.own.1

theorem OwnV.cap {T z : Nat} {w W : World} {xs : List Value} {a : Option Addr} {m c : Nat} (h : OwnV T z w xs a m c W) : m ≤ c := by
  rcases h.own.2 with ⟨_, h2⟩ | ⟨g, cap, cur, hv, _, _, h3, _⟩
  · omega
  · injection hv with e1 e2 e3
    omega
/-- Texts that can be read. -/
structure TArg (a : Option Addr) (ss : List ByteArray) (W : World) : Prop where
  at_ : 0 < ss.length → ∃ b off, a = some ⟨b, off, none⟩ ∧ b < W.heap.size ∧ ∀ j, j < ss.length → W.cell? ⟨b, off + j, none⟩ = some (.string (ss.getD j ⟨#[]⟩))
theorem TArg.below {a : Option Addr} {ss : List ByteArray} {W W' : World} (h : TArg a ss W) (hb : Below W.heap.size W W') : TArg a ss W' := by
  refine ⟨fun h0 => ?_⟩
  obtain ⟨b, off, rfl, hlt, hc⟩ := h.at_ h0
  exact ⟨b, off, rfl, Nat.lt_of_lt_of_le hlt hb.size, fun j hj => (hb.cell (by exact hlt)).trans (hc j hj)⟩
theorem OwnV.targ {w W : World} {ss : List ByteArray} {a : Option Addr} {m c : Nat} (h : OwnV 9 1 w (ss.map Value.string) a m c W) : TArg a ss W := by
  refine ⟨fun h0 => ?_⟩
  have hl := h.len
  rw [List.length_map] at hl
  rcases h.own.2 with ⟨h1, h2⟩ | ⟨g, cap, cur, hv, hb, hg, h3, h4, h5, h6⟩
  · omega
  · injection hv with e1 e2 e3
    refine ⟨g, 0, e1, (Array.getElem?_eq_some_iff.1 hg).1, fun j hj => ?_⟩
    rw [Nat.zero_add, Lib.cell_of_heap hg j]
    have e : cur.toList[j]? = (ss.map Value.string)[j]? := by rw [← h6, List.getElem?_take_of_lt (by omega)]
    rw [← Array.getElem?_toList, e, List.getElem?_map, List.getElem?_eq_getElem hj, List.getD_eq_getElem?_getD, List.getElem?_eq_getElem hj]; rfl

theorem cut_step (b : UInt8) (s : ByteArray) (f k : Nat) (hf : f ≤ k) (hk : k < s.size) (hb : s.data.toList.getD k 0 = b) (hn : ∀ j, f ≤ j → j < k → s.data.toList[j]? ≠ some b) : cutB b (s.extract f s.size) = s.extract f k :: cutB b (s.extract (k + 1) s.size) := by
  have hd : (s.extract f s.size).data.toList = s.data.toList.drop f := Lib.extract_to_end s f
  have hl : s.data.toList.length = s.size := rfl
  have h1 : (s.extract f s.size).data.toList[k - f]? = some b := by
    rw [hd, List.getElem?_drop, show f + (k - f) = k by omega, List.getElem?_eq_getElem (by omega), ← hb, List.getD_eq_getElem?_getD, List.getElem?_eq_getElem (by omega)]; rfl
  rw [cutB_hit b _ (k - f) h1 (fun j hj => by rw [hd, List.getElem?_drop]; exact hn _ (by omega) (by omega))]
  congr 1
  · apply ByteArray.ext; apply Array.ext'
    simp
    omega
  · congr 1
    apply ByteArray.ext; apply Array.ext'
    simp
    rw [show f + (k - f + 1) = k + 1 by omega]
    congr 1; omega
theorem cut_end (b : UInt8) (s : ByteArray) (f k : Nat) (hk : k = s.size) (hn : ∀ j, f ≤ j → j < k → s.data.toList[j]? ≠ some b) : cutB b (s.extract f s.size) = [s.extract f s.size] := by
  have hd : (s.extract f s.size).data.toList = s.data.toList.drop f := Lib.extract_to_end s f
  have hl : s.data.toList.length = s.size := rfl
  refine cutB_miss b _ (fun j => ?_)
  rw [hd, List.getElem?_drop]
  by_cases h : f + j < k
  · exact hn _ (by omega) h
  · rw [List.getElem?_eq_none (by omega)]; simp
end Go.Proofs.YthklibioolnggaaGreatDoor
