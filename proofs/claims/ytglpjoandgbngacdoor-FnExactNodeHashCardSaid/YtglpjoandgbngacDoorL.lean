/-
  A text fed to the hasher in pieces: copy into the block, and what is then hashed.
-/
import Derived.Test.YtglpjoandgbngacDoorK
namespace Go.Proofs.Sha
open Go Go.RowKit

theorem Hsh.setBytesAt {w : World} {b : Nat} {h : List UInt32} {k : List UInt8} {held size : Nat} (H : Hsh w b h k held size) (o : Nat) (ys : List UInt8) (hy : o + ys.length ≤ 64) : Hsh (w.setCells b (8 + o) (ys.map B)) b h (k.take o ++ ys ++ k.drop (o + ys.length)) held size := by
  have hl : (ys.map B).length = ys.length := List.length_map ..
  have hin : ∀ j (hj : j < (ys.map B).length), (w.setCells b (8 + o) (ys.map B)).cell? ⟨b, 8 + o + j, none⟩ = some (ys.map B)[j] := World.cell?_setCells_in b (ys.map B) (8 + o) w (fun j hj => by rw [Nat.add_assoc, H.ks (o + j) (by omega)]; rfl)
  have hout : ∀ j, j < 8 + o ∨ 8 + o + ys.length ≤ j → (w.setCells b (8 + o) (ys.map B)).cell? ⟨b, j, none⟩ = w.cell? ⟨b, j, none⟩ := fun j hj => World.cell?_setCells_out b (ys.map B) (8 + o) w ⟨b, j, none⟩ (fun _ _ => by rw [hl]; exact hj)
  have kl := H.kl
  have tl : (k.take o).length = o := by rw [List.length_take, kl]; omega
  refine ⟨H.hl, by rw [List.length_append, List.length_append, List.length_drop, tl, kl]; omega, fun j hj => ?_, fun j hj => ?_, ?_, ?_, fun j hj => by rw [World.frozen?_setCells]; exact H.fr j hj⟩
  · rw [hout j (.inl (by omega))]; exact H.hs j hj
  · rw [List.getD_eq_getElem?_getD]
    rcases Nat.lt_or_ge j o with hlt | hge
    · rw [hout _ (.inl (by omega)), List.append_assoc, List.getElem?_append_left (by omega), List.getElem?_take, if_pos hlt, ← List.getD_eq_getElem?_getD]; exact H.ks j hj
    · rcases Nat.lt_or_ge j (o + ys.length) with hlt2 | hge2
      · obtain ⟨q, rfl⟩ := Nat.exists_eq_add_of_le hge
        rw [← Nat.add_assoc, hin q (by omega), List.append_assoc, List.getElem?_append_right (by omega), tl, Nat.add_sub_cancel_left, List.getElem?_append_left (by omega), List.getElem?_eq_getElem (by omega), List.getElem_map]; rfl
      · rw [hout _ (.inr (by omega)), List.getElem?_append_right (by rw [List.length_append, tl]; exact hge2), List.length_append, tl, List.getElem?_drop, Nat.add_sub_cancel' hge2, ← List.getD_eq_getElem?_getD]; exact H.ks j hj
  · rw [hout _ (.inr (by omega))]; exact H.hd
  · rw [hout _ (.inr (by omega))]; exact H.sz

/-- 'copy(h.block[h.held:], s)', as one step of a region that draws. -/
theorem step_copy_at {P : Program} {ops : Array Oper} {o : Oper} {a : Act} {w : World} {K : Act → World → Prop} {Q : Exit → Act → World → Prop} {E : Prop}
    (hg : o.guard = none) (d x : Operand) (dT sT : TypeId) (hop : o.op = Op.call { callee := Callee.builtin Builtin.copy, args := #[d, x], argTypes := #[dT, sT] })
    (elem : TypeId) (hu : P.underlying dT = some (.slice elem)) (hz : (P.info? elem).map (·.size) = some 1)
    (b : Nat) (h : List UInt32) (k : List UInt8) (held size : Nat) (H : Hsh w b h k held size) (off len cap : Nat) (hoff : off = 8 + held) (hlen : held + len = 64)
    (hd : a.eval d = .slice (some ⟨b, off, none⟩) len cap) (t : ByteArray) (hx : a.eval x = .string t) (n : Nat) (hn : n = Nat.min t.size len)
    (hK : ∀ w', Hsh w' b h (k.take held ++ t.data.toList.take n ++ k.drop (held + n)) held size → w.grownBy w' (some b) → K (a.put o.dst (.int .i64 (n : Int))) w') :
    if Region.wanted o (yielded ops a.tmps) = true then Oper.wp P o a w K Q else E := by
  have hw : Region.wanted o (yielded ops a.tmps) = true := by simp [Region.wanted, hg]
  rw [if_pos hw]
  subst hn
  subst hoff
  have hts : t.data.toList.length = t.size := rfl
  have hln : (t.data.toList.take (Nat.min t.size len)).length = Nat.min t.size len := by
    rw [List.length_take, hts]; exact Nat.min_eq_left (Nat.min_le_left _ _)
  have h64 : Nat.min t.size len ≤ len := Nat.min_le_right _ _
  have e : List.take (Nat.min t.size len) (t.data.toList.map fun x => Value.int .u8 (x.toNat : Int)) = (t.data.toList.take (Nat.min t.size len)).map B := by
    rw [← List.map_take]; rfl
  obtain ⟨ys, hys⟩ : ∃ ys, t.data.toList.take (Nat.min t.size len) = ys := ⟨_, rfl⟩
  rw [hys] at hK hln e
  clear hys
  cases hq : P.info? elem with
  | none => simp [hq] at hz
  | some ie =>
    have hs1 : ie.size = 1 := by simpa [hq] using hz
    have hst := run_storeCells_cells (P := P) b (8 + held) (ys.map B) 0 w
      (fun j hj => by rw [List.length_map, hln] at hj; rw [Nat.add_zero, Nat.add_assoc, H.ks (held + j) (by omega)]; rfl)
      (fun j hj => by rw [List.length_map, hln] at hj; rw [Nat.add_zero]; exact H.fr _ (by omega))
      (by
        intro v hv
        obtain ⟨y, _, rfl⟩ := List.mem_map.1 hv
        rfl)
    simp only [Nat.add_zero] at hst
    have hrun : (Builtin.copy_ #[dT, sT] o.type #[.slice (some ⟨b, 8 + held, none⟩) len cap, .string t]).run P w = .ok (.int .i64 (Nat.min t.size len : Nat)) (w.setCells b (8 + held) (ys.map B)) := by
      simp [Builtin.copy_, run_underlying hu, Builtin.lenOf, Builtin.firstCells, sizeOf, typeInfo, hq]
      rw [e, hst]
      rfl
    unfold Oper.wp
    simp [execOp, hop, resolve, invoke, builtin, hd, hx, hrun, Result.andThen]
    have := H.setBytesAt held ys (by rw [hln]; omega)
    rw [hln] at this
    exact hK _ this (grownBy_setCells b _ _ w)

/-- comp reads 64 bytes alone. -/
theorem sched_congr (m m' : List UInt8) (i : Nat) (hi : i ≤ 64) (h : ∀ j, j < 64 → m.getD j 0 = m'.getD j 0) : sched m i = sched m' i := by
  induction i with
  | zero => rfl
  | succ i ih =>
    rw [sched, sched, ih (by omega)]
    by_cases hlt : i < 16
    · rw [if_pos hlt, if_pos hlt, h _ (by omega), h _ (by omega), h _ (by omega), h _ (by omega)]
    · rw [if_neg hlt, if_neg hlt]
theorem comp_congr (s : List UInt32) (m m' : List UInt8) (h : ∀ j, j < 64 → m.getD j 0 = m'.getD j 0) : comp s m = comp s m' := by
  unfold comp; rw [sched_congr m m' 64 (Nat.le_refl _) h]
theorem getD_take (m : List UInt8) (n j : Nat) (hj : j < n) : (m.take n).getD j 0 = m.getD j 0 := by
  rw [List.getD_eq_getElem?_getD, List.getD_eq_getElem?_getD, List.getElem?_take, if_pos hj]
theorem comp_take (s : List UInt32) (m : List UInt8) : comp s (m.take 64) = comp s m := comp_congr s _ _ (fun j hj => getD_take m 64 j hj)
theorem blocks_append (p l : List UInt8) (q : Nat) (hq : 64 * q ≤ p.length) : blocks (p ++ l) q = blocks p q := by
  induction q with
  | zero => rfl
  | succ q ih =>
    rw [blocks, blocks, ih (by omega)]
    refine comp_congr _ _ _ (fun j hj => ?_)
    rw [List.drop_append_of_le_length (by omega), List.getD_eq_getElem?_getD, List.getD_eq_getElem?_getD, List.getElem?_append_left (by rw [List.length_drop]; omega)]

/-- The hasher has been fed the text p; its size may have run ahead. -/
structure Fed (w : World) (b : Nat) (p : List UInt8) (k : List UInt8) (size : Nat) : Prop where
  H : Hsh w b (blocks p (p.length / 64)) k (p.length % 64) size
  tk : k.take (p.length % 64) = p.drop (64 * (p.length / 64))

/-- The block behind a copy. -/
theorem fed_block (p k ys : List UInt8) (hk : k.length = 64) (tk : k.take (p.length % 64) = p.drop (64 * (p.length / 64))) (_hy : p.length % 64 + ys.length ≤ 64) :
    (k.take (p.length % 64) ++ ys ++ k.drop (p.length % 64 + ys.length)).take (p.length % 64 + ys.length) = (p ++ ys).drop (64 * (p.length / 64)) := by
  have tl : (k.take (p.length % 64)).length = p.length % 64 := by rw [List.length_take, hk]; omega
  rw [List.take_left' (by rw [List.length_append, tl]), tk, List.drop_append_of_le_length (by omega)]

end Go.Proofs.Sha
