import Derived.Test.YtngnbflkiiehmaaGreatDoorZe
import Derived.Test.YtngnbflkiiehmaaGreatDoorZc
import Derived.Test.YtngnbflkiiehmaaGreatDoorZd
namespace Go.Proofs.Sha
open Go Go.RowKit

theorem Hsh.setBytesAt {w : World} {b : Nat} {h : List UInt32} {k : List UInt8} {held size : Nat} (H : Hsh w b h k held size) (o : Nat) (ys : List UInt8) (hy : o + ys.length ≤ 64) : Hsh (w.setCells b (8 + o) (ys.map B)) b h (k.take o ++ ys ++ k.drop (o + ys.length)) held size := by
  have hl : (ys.map B).length = ys.length := List.length_map ..
  have hin : ∀ j (hj : j < (ys.map B).length), (w.setCells b (8 + o) (ys.map B)).cell? ⟨b, 8 + o + j, none⟩ = some (ys.map B)[j] := World.cell?_setCells_in b (ys.map B) (8 + o) w (fun j hj => by rw [Nat.add_assoc, H.ks (o + j) (by omega)]; rfl)
  have hout : ∀ j, j < 8 + o ∨ 8 + o + ys.length ≤ j → (w.setCells b (8 + o) (ys.map B)).cell? ⟨b, j, none⟩ = w.cell? ⟨b, j, none⟩ := fun j hj => World.cell?_setCells_out b (ys.map B) (8 + o) w ⟨b, j, none⟩ (fun _ _ => by rw [hl]; exact hj)
  have kl := H.kl
  have tl : (k.take o).length = o := by rw [List.length_take, kl]; omega
  refine ⟨H.hl, by rw [List.length_append, List.length_append, List.length_drop, tl, kl]; omega, fun j hj => ?_, fun j hj => ?_, ?_, ?_, fun j hj => by rw [World.frozen?_setCells]; exact H.fr j hj⟩
  · rw [hout j (.inl (by omega))]; exact H.hs j hj
  · rw [List.getD_eq_getElem?_getD]
    rcases Nat.lt_or_ge j o with hlt | hge
    · rw [hout _ (.inl (by omega)), List.append_assoc, List.getElem?_append_left (by omega), List.getElem?_take, if_pos hlt, ← List.getD_eq_getElem?_getD]; exact H.ks j hj
    · rcases Nat.lt_or_ge j (o + ys.length) with hlt2 | hge2
      · obtain ⟨q, rfl⟩ := Nat.exists_eq_add_of_le hge
        rw [← Nat.add_assoc, hin q (by omega), List.append_assoc, List.getElem?_append_right (by omega), tl, Nat.add_sub_cancel_left, List.getElem?_append_left (by omega), List.getElem?_eq_getElem (by omega), List.getElem_map]; rfl
      · rw [hout _ (.inr (by omega)), List.getElem?_append_right (by rw [List.length_append, tl]; exact hge2), List.length_append, tl, List.getElem?_drop, Nat.add_sub_cancel' hge2, ← List.getD_eq_getElem?_getD]; exact H.ks j hj
  · rw [hout _ (.inr (by omega))]; exact H.hd
  · rw [hout _ (.inr (by omega))]; exact H.sz

/-- 'copy(h.block[h.held:], s)', as one step of a region that draws. -/
theorem step_copy_at {P : Program} {ops : Array Oper} {o : Oper} {a : Act} {w : World} {K : Act → World → Prop} {Q : Exit → Act → World → Prop} {E : Prop}
    (hg : o.guard = none) (d x : Operand) (dT sT : TypeId) (hop : o.op = Op.call { callee := Callee.builtin Builtin.copy, args := #[d, x], argTypes := #[dT, sT] })
    (elem : TypeId) (hu : P.underlying dT = some (.slice elem)) (hz : (P.info? elem).map (·.size) = some 1)
    (b : Nat) (h : List UInt32) (k : List UInt8) (held size : Nat) (H : Hsh w b h k held size) (off len cap : Nat) (hoff : off = 8 + held) (hlen : held + len = 64)
    (hd : a.eval d = .slice (some ⟨b, off, none⟩) len cap) (t : ByteArray) (hx : a.eval x = .string t) (n : Nat) (hn : n = Nat.min t.size len)
    (hK : ∀ w', Hsh w' b h (k.take held ++ t.data.toList.take n ++ k.drop (held + n)) held size → w.grownBy w' (some b) → K (a.put o.dst (.int .i64 (n : Int))) w') :
    if Region.wanted o (yielded ops a.tmps) = true then Oper.wp P o a w K Q else E := by
  have hw : Region.wanted o (yielded ops a.tmps) = true := by simp [Region.wanted, hg]
  rw [if_pos hw]
  subst hn
  subst hoff
  have hts : t.data.toList.length = t.size := rfl
  have hln : (t.data.toList.take (Nat.min t.size len)).length = Nat.min t.size len := by
    rw [List.length_take, hts]; exact Nat.min_eq_left (Nat.min_le_left _ _)
  have h64 : Nat.min t.size len ≤ len := Nat.min_le_right _ _
  have e : List.take (Nat.min t.size len) (t.data.toList.map fun x => Value.int .u8 (x.toNat : Int)) = (t.data.toList.take (Nat.min t.size len)).map B := by
    rw [← List.map_take]; rfl
  obtain ⟨ys, hys⟩ : ∃ ys, t.data.toList.take (Nat.min t.size len) = ys := ⟨_, rfl⟩
  rw [hys] at hK hln e
  clear hys
  cases hq : P.info? elem with
  | none => simp [hq] at hz
  | some ie =>
    have hs1 : ie.size = 1 := by simpa [hq] using hz
    have hst := run_storeCells_cells (P := P) b (8 + held) (ys.map B) 0 w
      (fun j hj => by rw [List.length_map, hln] at hj; rw [Nat.add_zero, Nat.add_assoc, H.ks (held + j) (by omega)]; rfl)
      (fun j hj => by rw [List.length_map, hln] at hj; rw [Nat.add_zero]; exact H.fr _ (by omega))
      (by
        intro v hv
        obtain ⟨y, _, rfl⟩ := List.mem_map.1 hv
        rfl)
    simp only [Nat.add_zero] at hst
    have hrun : (Builtin.copy_ #[dT, sT] o.type #[.slice (some ⟨b, 8 + held, none⟩) len cap, .string t]).run P w = .ok (.int .i64 (Nat.min t.size len : Nat)) (w.setCells b (8 + held) (ys.map B)) := by
      simp [Builtin.copy_, run_underlying hu, Builtin.lenOf, Builtin.firstCells, sizeOf, typeInfo, hq]
      rw [e, hst]
      rfl
    unfold Oper.wp
    simp [execOp, hop, resolve, invoke, builtin, hd, hx, hrun, Result.andThen]
    have := H.setBytesAt held ys (by rw [hln]; omega)
    rw [hln] at this
    exact hK _ this (grownBy_setCells b _ _ w)

/-- comp reads 64 bytes alone. -/
theorem sched_congr (m m' : List UInt8) (i : Nat) (hi : i ≤ 64) (h : ∀ j, j < 64 → m.getD j 0 = m'.getD j 0) : sched m i = sched m' i := by
  induction i with
  | zero => rfl
  | succ i ih =>
    rw [sched, sched, ih (by omega)]
    by_cases hlt : i < 16
    · rw [if_pos hlt, if_pos hlt, h _ (by omega), h _ (by omega), h _ (by omega), h _ (by omega)]
    · rw [if_neg hlt, if_neg hlt]
theorem comp_congr (s : List UInt32) (m m' : List UInt8) (h : ∀ j, j < 64 → m.getD j 0 = m'.getD j 0) : comp s m = comp s m' := by
  unfold comp; rw [sched_congr m m' 64 (Nat.le_refl _) h]
theorem getD_take (m : List UInt8) (n j : Nat) (hj : j < n) : (m.take n).getD j 0 = m.getD j 0 := by
  rw [List.getD_eq_getElem?_getD, List.getD_eq_getElem?_getD, List.getElem?_take, if_pos hj]
theorem comp_take (s : List UInt32) (m : List UInt8) : comp s (m.take 64) = comp s m := comp_congr s _ _ (fun j hj => getD_take m 64 j hj)
theorem blocks_append (p l : List UInt8) (q : Nat) (hq : 64 * q ≤ p.length) : blocks (p ++ l) q = blocks p q := by
  induction q with
  | zero => rfl
  | succ q ih =>
    rw [blocks, blocks, ih (by omega)]
    refine comp_congr _ _ _ (fun j hj => ?_)
    rw [List.drop_append_of_le_length (by omega), List.getD_eq_getElem?_getD, List.getD_eq_getElem?_getD, List.getElem?_append_left (by rw [List.length_drop]; omega)]

/-- The hasher has been fed the text p; its size may have run ahead. -/
structure Fed (w : World) (b : Nat) (p : List UInt8) (k : List UInt8) (size : Nat) : Prop where
  H : Hsh w b (blocks p (p.length / 64)) k (p.length % 64) size
  tk : k.take (p.length % 64) = p.drop (64 * (p.length / 64))

/-- The block behind a copy. -/
theorem fed_block (p k ys : List UInt8) (hk : k.length = 64) (tk : k.take (p.length % 64) = p.drop (64 * (p.length / 64))) (_hy : p.length % 64 + ys.length ≤ 64) :
    (k.take (p.length % 64) ++ ys ++ k.drop (p.length % 64 + ys.length)).take (p.length % 64 + ys.length) = (p ++ ys).drop (64 * (p.length / 64)) := by
  have tl : (k.take (p.length % 64)).length = p.length % 64 := by rw [List.length_take, hk]; omega
  rw [List.take_left' (by rw [List.length_append, tl]), tk, List.drop_append_of_le_length (by omega)]

end Go.Proofs.Sha
namespace Go.Proofs.Sha
open Go Go.RowKit

theorem extract_list (t : ByteArray) (n : Nat) : (t.extract n t.size).data.toList = t.data.toList.drop n := by
  rw [ByteArray.data_extract, Array.toList_extract, List.extract_eq_take_drop]
  apply List.take_of_length_le
  rw [List.length_drop]
  exact Nat.le_refl _
theorem extract_size (t : ByteArray) (n : Nat) : (t.extract n t.size).size = t.size - n := by
  rw [ByteArray.size_extract]; omega

theorem take_step (l : List UInt8) (c n : Nat) : l.take (c + n) = l.take c ++ (l.drop c).take n := by
  rw [List.take_add]

theorem fed_part {w : World} {b : Nat} {P k ys : List UInt8} {size held n : Nat} (H : Hsh w b (blocks P (P.length / 64)) (k.take held ++ ys ++ k.drop (held + n)) (held + n) size)
    (hh : P.length % 64 = held) (tk : k.take held = P.drop (64 * (P.length / 64))) (hy : ys.length = n) (hk : k.length = 64) (hlt : held + n < 64) :
    Fed w b (P ++ ys) (k.take held ++ ys ++ k.drop (held + n)) size := by
  have hl : (P ++ ys).length = P.length + n := by rw [List.length_append, hy]
  have e1 : (P.length + n) / 64 = P.length / 64 := by omega
  have e2 : (P.length + n) % 64 = held + n := by omega
  subst hh
  subst hy
  refine ⟨?_, ?_⟩
  · rw [hl, e1, e2, blocks_append _ _ _ (by omega)]; exact H
  · rw [hl, e1, e2]; exact fed_block P k ys hk tk (by omega)

theorem fed_full {w : World} {b : Nat} {P k ys : List UInt8} {size held n : Nat} (H : Hsh w b (comp (blocks P (P.length / 64)) (k.take held ++ ys ++ k.drop (held + n))) (k.take held ++ ys ++ k.drop (held + n)) 0 size)
    (hh : P.length % 64 = held) (tk : k.take held = P.drop (64 * (P.length / 64))) (hy : ys.length = n) (hk : k.length = 64) (hlt : held + n = 64) :
    Fed w b (P ++ ys) (k.take held ++ ys ++ k.drop (held + n)) size := by
  have hl : (P ++ ys).length = P.length + n := by rw [List.length_append, hy]
  have e1 : (P.length + n) / 64 = P.length / 64 + 1 := by omega
  have e2 : (P.length + n) % 64 = 0 := by omega
  subst hh
  subst hy
  have hb := fed_block P k ys hk tk (by omega)
  refine ⟨?_, ?_⟩
  · rw [hl, e1, e2, blocks, blocks_append _ _ _ (by omega), ← hb, hlt, comp_take]; rw [hlt] at H; exact H
  · rw [hl, e1, e2, List.take_zero, List.drop_of_length_le (by rw [hl]; omega)]

end Go.Proofs.Sha
namespace Go.Proofs.YtngnbflkiiehmaaGreatDoor
open Go.RowKit Go.Proofs.Sha

theorem size5 : (Tryz.prog.info? 5).map (·.size) = some 1 := by kernel_rfl
def lenS : Value → Nat | .string s => s.size | _ => 0

set_option maxRecDepth 100000 in
set_option maxHeartbeats 1600000 in
theorem feed_any (b : Nat) (p kb : List UInt8) (s : ByteArray) (w : World) (F : Fed w b p kb p.length) (hsz : p.length + s.size ≤ 2000000) (hb0 : b ≠ 0)
    (hK : ∀ j, j < 64 → w.cell? ⟨0, j, none⟩ = some (.int .u32 ((kTab.getD j 0).toNat : Int))) :
    Calls Tryz.prog 54 #[.pointer (some ⟨b, 0, none⟩), .string s] w fun e w' => e = .returned (.tuple #[]) ∧ (∃ k', Fed w' b (p ++ s.data.toList) k' (p.length + s.size)) ∧ w.grownBy w' (some b) := by
  have hl0 : 0 < w.heap.size := by have := F.H.lt; omega
  have HK : Hid (∀ w' : World, w.grownBy w' (some b) → ∀ j, j < 64 → w'.cell? ⟨0, j, none⟩ = some (.int .u32 ((kTab.getD j 0).toNat : Int))) := fun w' hg j hj => (hg.cell_far _ hl0 (by simp; omega)).trans (hK j hj)
  clear hK
  have hsl : s.data.toList.length = s.size := rfl
  have cs := F.H.sz
  have cf := F.H.fr 73 (by omega)
  go_enter Tryz.func54, Tryz.ntmps54
  go_wp2_with fail
  obtain ⟨w1, hw1⟩ : ∃ w1, w1 = w.setCell ⟨b, 73, none⟩ (.int .u64 ((p.length : Int) + (s.size : Int))) := ⟨_, rfl⟩
  rw [← hw1]
  have F1 : Fed w1 b (p ++ s.data.toList.take 0) kb (p.length + s.size) := by
    rw [hw1, List.take_zero, List.append_nil]; exact ⟨F.H.setSize (p.length + s.size), F.tk⟩
  have hg1 : w.grownBy w1 (some b) := by rw [hw1]; exact grownBy_setCell _ _ _ _
  clear hw1 cs cf F
  go_loopw [1] (fun v wr => ∃ (c : Nat) (t : ByteArray) (k : List UInt8), v = .string t ∧ Hid (t.data.toList = s.data.toList.drop c) ∧ t.size + c ≤ s.size ∧ s.size ≤ t.size + c ∧ Fed wr b (p ++ s.data.toList.take c) k (p.length + s.size) ∧ w.grownBy wr (some b)) (fun v _ => lenS v)
  case atStart => exact ⟨0, s, kb, rfl, rfl, by omega, by omega, F1, hg1⟩
  case round =>
    clear F1 hg1
    obtain ⟨c, t, k, rfl, HT, ht1, ht2, F, hgr⟩ := hrel
    have hPl : (p ++ s.data.toList.take c).length = p.length + c := by rw [List.length_append, List.length_take, hsl]; omega
    by_cases hlt : 0 < t.size
    · obtain ⟨P, hP⟩ : ∃ P, p ++ s.data.toList.take c = P := ⟨_, rfl⟩
      rw [hP] at F hPl
      have HP : Hid (p ++ s.data.toList.take c = P) := hP
      clear hP
      obtain ⟨held, hheld⟩ : ∃ held, P.length % 64 = held := ⟨_, rfl⟩
      obtain ⟨H, tk⟩ := F
      rw [hheld] at H tk
      have hh : held < 64 := by omega
      have HH : Hid (P.length % 64 = held ∧ P.length = p.length + c ∧ k.take held = P.drop (64 * (P.length / 64))) := ⟨hheld, hPl, tk⟩
      clear hheld hPl tk
      obtain ⟨n, hn⟩ : ∃ n, n = Nat.min t.size (64 - held) := ⟨_, rfl⟩
      have hn1 : n ≤ t.size := by rw [hn]; exact Nat.min_le_left _ _
      have hn2 : n ≤ 64 - held := by rw [hn]; exact Nat.min_le_right _ _
      have hn3 : 0 < n := by rw [hn]; exact Nat.lt_min.2 ⟨hlt, by omega⟩
      have HN : Hid (n = Nat.min t.size (64 - held)) := hn
      have hn4 : n = t.size ∨ n = 64 - held := by rw [hn]; exact (Nat.le_total t.size (64 - held)).imp (fun h => Nat.min_eq_left h) (fun h => Nat.min_eq_right h)
      clear hn
      have HKL : Hid (k.length = 64) := H.kl
      have cd := H.hd
      have q0 : (0 : Int) ≤ (held : Int) := by omega
      have q1 : (held : Int) ≤ 64 := by omega
      have q2 : ¬ (64 : Nat) = held := by omega
      go_wp2_with fail
      go_region_held3 (fun w' => w'.cell? ⟨b, 72, none⟩ = some (.int .i64 (held : Int))) (first | exact cd | exact H2.hd)
        ((refine step_copy_at (by rfl) _ _ _ _ (by rfl) 5 Tryz.underlying22 size5 b _ k held _ H.drew (8 + held) (64 - held) (64 - held) rfl (by omega) (by rfl) t (by rfl) n HN.out ?_; intro w2 H2 hg2))
      have cd2 := H2.hd
      have cf2 := H2.fr 72 (by omega)
      clear H cd
      have hyl : (t.data.toList.take n).length = n := by rw [List.length_take]; exact Nat.min_eq_left hn1
      have hkl : k.length = 64 := HKL.out
      have hPP : P ++ t.data.toList.take n = p ++ s.data.toList.take (c + n) := by rw [← HP.out, HT.out, take_step, List.append_assoc]
      have hex : (t.extract n t.size).data.toList = s.data.toList.drop (c + n) := by rw [extract_list, HT.out, List.drop_drop]
      have hes := extract_size t n
      obtain ⟨t', ht'⟩ : ∃ t', t.extract n t.size = t' := ⟨_, rfl⟩
      have HT' : Hid (t.extract n t.size = t') := ht'
      rw [ht'] at hex hes
      have HX : Hid (t'.data.toList = s.data.toList.drop (c + n)) := hex
      have hs1 : t'.size + (c + n) ≤ s.size := by omega
      have hs2 : s.size ≤ t'.size + (c + n) := by omega
      have hs3 : t'.size < t.size := by omega
      have HPP : Hid (P ++ t.data.toList.take n = p ++ s.data.toList.take (c + n)) := hPP
      have HYL : Hid ((t.data.toList.take n).length = n) := hyl
      clear ht' hex hes hPP hyl hkl
      by_cases hfull : held + n = 64
      · go_wp2_with fail
        rw [HT'.out]
        obtain ⟨w3, hw3⟩ : ∃ w3, w3 = w2.setCell ⟨b, 72, none⟩ (.int .i64 ((held : Int) + (n : Int))) := ⟨_, rfl⟩
        rw [← hw3]
        have H3 := H2.setHeld (held + n)
        have hg3 : w.grownBy w3 (some b) := by rw [hw3]; exact grownBy_trans (grownBy_trans (grownBy_drewR hgr) hg2) (grownBy_setCell _ _ _ _)
        have H3' : Hsh w3 b (blocks P (P.length / 64)) (k.take held ++ t.data.toList.take n ++ k.drop (held + n)) (held + n) (p.length + s.size) := by rw [hw3]; exact H3
        clear H3 hw3 H2 cd2 cf2
        refine (mix_h b _ _ _ _ w3 H3' hb0 (HK.out w3 hg3)).mono ?_
        rintro e w4 ⟨rfl, H4, hg4⟩
        have F4 := fed_full H4 HH.out.1 HH.out.2.2 HYL.out HKL.out hfull
        rw [HPP.out] at F4
        clear H3' H4
        go_wp2
        go_roundw
        case rel => exact ⟨c + n, t', _, rfl, HX, hs1, hs2, F4, grownBy_trans hg3 hg4⟩
        case measure => simp only [lenS]; omega
      · go_wp2
        rw [HT'.out]
        go_roundw
        case rel =>
          have H3 := H2.setHeld (held + n)
          have F4 := fed_part H3 HH.out.1 HH.out.2.2 HYL.out HKL.out (by omega)
          rw [HPP.out] at F4
          exact ⟨c + n, t', _, rfl, HX, hs1, hs2, F4, grownBy_trans (grownBy_trans (grownBy_drewR hgr) hg2) (grownBy_setCell _ _ _ _)⟩
        case measure => simp only [lenS]; omega
    · go_wp2
      go_end0
      have hc : c = s.size := by omega
      have e : s.data.toList.take c = s.data.toList := List.take_of_length_le (by rw [hsl]; omega)
      rw [e] at F
      exact ⟨rfl, ⟨k, F⟩, hgr⟩
end Go.Proofs.YtngnbflkiiehmaaGreatDoor
namespace Go.Proofs.Sha
open Go Go.RowKit

theorem lb_length (k : List UInt8) (N n : Nat) : (lb k N n).length = k.length := by
  induction n with
  | zero => rfl
  | succ n ih => rw [lb, List.length_set, ih]
theorem lb_getD (k : List UInt8) (N n j : Nat) (hn : 56 + n ≤ k.length) : (lb k N n).getD j 0 = if 56 ≤ j ∧ j < 56 + n then lenByte (8 * N) (7 - (j - 56)) else k.getD j 0 := by
  induction n with
  | zero => rw [lb, if_neg (by omega)]
  | succ n ih =>
    rw [lb, getD_set _ _ _ _ _ (by rw [lb_length]; omega), ih (by omega)]
    by_cases e : j = 56 + n
    · rw [if_pos e, if_pos (by omega)]; congr 1; omega
    · rw [if_neg e]
      by_cases e2 : 56 ≤ j ∧ j < 56 + n
      · rw [if_pos e2, if_pos (by omega)]
      · rw [if_neg e2, if_neg (by omega)]

def tl (T : List UInt8) (z N : Nat) : List UInt8 := T ++ [128] ++ List.replicate z 0 ++ beTo (8 * N) 8
theorem getD_left (A C : List UInt8) (j : Nat) (h : j < A.length) : (A ++ C).getD j 0 = A.getD j 0 := by
  rw [List.getD_eq_getElem?_getD, List.getD_eq_getElem?_getD, List.getElem?_append_left h]
theorem getD_right (A C : List UInt8) (j : Nat) (h : A.length ≤ j) : (A ++ C).getD j 0 = C.getD (j - A.length) 0 := by
  rw [List.getD_eq_getElem?_getD, List.getD_eq_getElem?_getD, List.getElem?_append_right h]
theorem beTo_getD (N i : Nat) (hi : i < 8) : (beTo N 8).getD i 0 = lenByte N (7 - i) := by
  have : i = 0 ∨ i = 1 ∨ i = 2 ∨ i = 3 ∨ i = 4 ∨ i = 5 ∨ i = 6 ∨ i = 7 := by omega
  rcases this with h | h | h | h | h | h | h | h <;> subst h <;> rfl
theorem tl_1 (T : List UInt8) (z N j : Nat) (h : j < T.length) : (tl T z N).getD j 0 = T.getD j 0 := by
  unfold tl
  rw [getD_left _ _ _ (by simp; omega), getD_left _ _ _ (by simp; omega), getD_left _ _ _ h]
theorem tl_2 (T : List UInt8) (z N j : Nat) (h : j = T.length) : (tl T z N).getD j 0 = 128 := by
  unfold tl
  rw [getD_left _ _ _ (by simp; omega), getD_left _ _ _ (by simp; omega), getD_right _ _ _ (by omega), h, Nat.sub_self]; rfl
theorem tl_3 (T : List UInt8) (z N j : Nat) (h : T.length < j) (h2 : j < T.length + 1 + z) : (tl T z N).getD j 0 = 0 := by
  unfold tl
  rw [getD_left _ _ _ (by simp; omega), getD_right _ _ _ (by simp; omega), List.getD_eq_getElem?_getD, List.getElem?_replicate, if_pos (by simp; omega)]; rfl
theorem tl_4 (T : List UInt8) (z N j : Nat) (h : T.length + 1 + z ≤ j) (h2 : j < T.length + 1 + z + 8) : (tl T z N).getD j 0 = lenByte (8 * N) (7 - (j - (T.length + 1 + z))) := by
  unfold tl
  have hl : (T ++ [128] ++ List.replicate z 0).length = T.length + 1 + z := by simp; omega
  rw [getD_right _ _ _ (by omega), hl, beTo_getD _ _ (by omega)]

theorem pad_drop (l : List UInt8) (q : Nat) (hq : 64 * q ≤ l.length) : (pad l).drop (64 * q) = tl (l.drop (64 * q)) (zpad l.length) l.length := by
  unfold pad tl
  rw [List.drop_append_of_le_length (by simp; omega), List.drop_append_of_le_length (by simp; omega), List.drop_append_of_le_length hq]
theorem pad_blocks (l : List UInt8) (q : Nat) (hq : 64 * q ≤ l.length) : blocks (pad l) q = blocks l q := by
  unfold pad
  rw [List.append_assoc, List.append_assoc]; exact blocks_append l _ q hq

theorem fin_sha (l k : List UInt8) (hk : k.length = 64) (tk : k.take (l.length % 64) = l.drop (64 * (l.length / 64))) :
    outTo (fin (blocks l (l.length / 64)) k (l.length % 64) l.length) 8 = sha l := by
  have hplen := pad_length l
  have hq : 64 * (l.length / 64) ≤ l.length := by omega
  have hpd := pad_drop l _ hq
  have hpb := pad_blocks l _ hq
  have hT : (l.drop (64 * (l.length / 64))).length = l.length % 64 := by rw [List.length_drop]; omega
  have hTk : ∀ j, j < l.length % 64 → (l.drop (64 * (l.length / 64))).getD j 0 = k.getD j 0 := fun j hj => by rw [← tk]; exact getD_take k _ j hj
  have hh : l.length % 64 < 64 := by omega
  have hk1 : (k.set (l.length % 64) 128).length = 64 := by rw [List.length_set]; exact hk
  have hks : ∀ j, (k.set (l.length % 64) 128).getD j 0 = if j = l.length % 64 then 128 else k.getD j 0 := fun j => getD_set k _ j 128 0 (by omega)
  unfold sha fin
  congr 1
  by_cases hb : l.length % 64 + 1 ≤ 56
  · have hz : zpad l.length = 55 - l.length % 64 := by unfold zpad; omega
    have hn : (pad l).length / 64 = l.length / 64 + 1 := by rw [hplen, hz]; omega
    rw [if_pos hb, hn, blocks, hpb, hpd]
    refine comp_congr _ _ _ (fun j hj => ?_)
    rw [lb_getD _ _ _ _ (by rw [zf_length]; omega), zf_getD _ _ _ _ (by omega), hks j, hz]
    by_cases c1 : 56 ≤ j
    · rw [if_pos (by omega), tl_4 _ _ _ _ (by omega) (by omega)]; congr 1; omega
    · rw [if_neg (by omega)]
      by_cases c2 : l.length % 64 + 1 ≤ j
      · rw [if_pos (by omega), tl_3 _ _ _ _ (by omega) (by omega)]
      · rw [if_neg (by omega)]
        by_cases c3 : j = l.length % 64
        · rw [if_pos c3, tl_2 _ _ _ _ (by omega)]
        · rw [if_neg c3, tl_1 _ _ _ _ (by omega), hTk j (by omega)]
  · have hz : zpad l.length = 119 - l.length % 64 := by unfold zpad; omega
    have hn : (pad l).length / 64 = l.length / 64 + 1 + 1 := by rw [hplen, hz]; omega
    have hd2 : ∀ j, ((pad l).drop (64 * (l.length / 64 + 1))).getD j 0 = (tl (l.drop (64 * (l.length / 64))) (zpad l.length) l.length).getD (64 + j) 0 := fun j => by
      rw [← hpd, getD_drop, getD_drop]; congr 1; omega
    rw [if_neg hb, hn, blocks, blocks, hpb]
    have e1 : comp (blocks l (l.length / 64)) (zf (k.set (l.length % 64) 128) (l.length % 64 + 1) (64 - (l.length % 64 + 1))) = comp (blocks l (l.length / 64)) ((pad l).drop (64 * (l.length / 64))) := by
      rw [hpd]
      refine comp_congr _ _ _ (fun j hj => ?_)
      rw [zf_getD _ _ _ _ (by omega), hks j, hz]
      by_cases c2 : l.length % 64 + 1 ≤ j
      · rw [if_pos (by omega), tl_3 _ _ _ _ (by omega) (by omega)]
      · rw [if_neg (by omega)]
        by_cases c3 : j = l.length % 64
        · rw [if_pos c3, tl_2 _ _ _ _ (by omega)]
        · rw [if_neg c3, tl_1 _ _ _ _ (by omega), hTk j (by omega)]
    rw [e1]
    refine comp_congr _ _ _ (fun j hj => ?_)
    rw [hd2 j, lb_getD _ _ _ _ (by rw [zf_length, zf_length]; omega), zf_getD _ _ _ _ (by rw [zf_length]; omega), hz]
    by_cases c1 : 56 ≤ j
    · rw [if_pos (by omega), tl_4 _ _ _ _ (by omega) (by omega)]; congr 1; omega
    · rw [if_neg (by omega), if_pos (by omega), tl_3 _ _ _ _ (by omega) (by omega)]

end Go.Proofs.Sha
namespace Go.Proofs.YtngnbflkiiehmaaGreatDoor
open Go.RowKit Go.Proofs.Sha

theorem sha_len (l : List UInt8) : (sha l).length = 32 := by unfold sha; rw [outTo_length]
theorem extract_take (M : List UInt8) (n : Nat) : (⟨M.toArray⟩ : ByteArray).extract 0 n = ⟨(M.take n).toArray⟩ := by
  apply ByteArray.ext
  rw [ByteArray.data_extract]
  apply Array.ext'
  rw [Array.toList_extract, List.extract_eq_take_drop]
  simp

set_option maxRecDepth 100000 in
set_option maxHeartbeats 400000 in
theorem sdig_no (s : ByteArray) (k : Int) (w : World) (h : k < 1 ∨ 32 < k) :
    Calls Tryz.prog 10 #[.string s, .int .i64 k] w fun e w' => e = .returned (.string ⟨#[]⟩) ∧ Below w.heap.size w w' := by
  rcases h with h | h
  · have h1 : decide (1 ≤ k) = false := by simpa using h
    go_enter Tryz.func10, Tryz.ntmps10
    go_wp2
    go_ret
    exact ⟨rfl, Below.refl _ _⟩
  · have h1 : 1 ≤ k := by omega
    have h2 : decide (k ≤ 32) = false := by simpa using h
    go_enter Tryz.func10, Tryz.ntmps10
    go_wp2
    go_ret
    exact ⟨rfl, Below.refl _ _⟩

set_option maxRecDepth 100000 in
set_option maxHeartbeats 400000 in
theorem sdig_yes (s : ByteArray) (k : Nat) (w : World) (hs : s.size ≤ 1048576) (h1 : 1 ≤ k) (h2 : k ≤ 32) :
    Calls Tryz.prog 10 #[.string s, .int .i64 (k : Int)] w fun e w' => e = .returned (.string ⟨((sha s.data.toList).take k).toArray⟩) ∧ Below w.heap.size w w' := by
  have hl := sha_len s.data.toList
  have hx := extract_take (sha s.data.toList) k
  have hsp := spec_any s w hs
  obtain ⟨X, hX⟩ : ∃ X : ByteArray, X = ⟨(sha s.data.toList).toArray⟩ := ⟨_, rfl⟩
  have hXs : X.size = 32 := by rw [hX]; exact hl
  rw [← hX] at hx hsp
  have HX : Hid (X.extract 0 k = ⟨((sha s.data.toList).take k).toArray⟩) := hx
  clear hX hx hl
  have q1 : (1 : Int) ≤ (k : Int) := by omega
  have q2 : (k : Int) ≤ 32 := by omega
  go_enter Tryz.func10, Tryz.ntmps10
  go_wp2_with (first | (go_at_call 30; refine hsp.mono ?_; rintro e w' ⟨rfl, hb⟩) | go_in)
  go_ret
  rw [← HX.out]
  exact ⟨rfl, hb⟩
end Go.Proofs.YtngnbflkiiehmaaGreatDoor
namespace Go.Proofs.Sha
open Go Go.RowKit
section
variable {P : Program} (w : World)
theorem wpList_box_row {ops : Array Oper} {rest : List Oper} {o : Oper} {a : Act} {Q : Exit → Act → World → Prop} (hgd : o.guard = none) (dst : Option Tmp) (hdst : o.dst = dst) (ty : TypeId) (x : Operand) (ho : o.op = .box ty x) (xs : List Value) (hx : a.eval x = .agg xs.toArray)
    (h : ∀ g w', Row w' w.heap.size g xs.length xs.length xs → Below w.heap.size w w' → wpList P ops Q rest (a.put dst (.pointer (some ⟨g, 0, none⟩))) w') : wpList P ops Q (o :: rest) a w := by
  refine Go.Great.wpList_runTo hgd dst hdst (.pointer (some ⟨w.heap.size, 0, none⟩)) (w.alloc (.cells xs.toArray ty)) ?_ (h _ _ ?_ ((Below.refl _ _).alloc (Nat.le_refl _) _))
  · unfold execOp
    simp only [ho, hx]
    rfl
  · have := Row.of_block (base := w.heap.size) (Nat.le_refl _) (heap_alloc_new w (.cells xs.toArray ty)) xs.length (by simp) (.inl rfl)
    simpa using this
theorem wpList_build_to {ops : Array Oper} {rest : List Oper} {o : Oper} {a : Act} {Q : Exit → Act → World → Prop} (hgd : o.guard = none) (t : TypeId) (parts : Array (Nat × Operand)) (ho : o.op = .build t parts) (cells : Array Value)
    (hb : P.built t (parts.toList.map fun (i, x) => (i, a.eval x)) = some cells)
    (h : wpList P ops Q rest (a.put o.dst (.agg cells)) w) : wpList P ops Q (o :: rest) a w := by
  rw [← Array.toList_map] at hb
  refine Go.Great.wpList_runTo hgd o.dst rfl (.agg cells) w ?_ h
  unfold execOp
  simp only [ho, Sem.run_bind, run_build w t _ cells hb, Result.andThen_ok, Sem.run_pure]
theorem ret_any {fn : Func} {R : Ending → World → Prop} {a : Act} {p : Tmp} {ty : TypeId} {d : TypeDesc} (hres : fn.results = #[.cell p ty]) (base g n cap : Nat) (xs : List Value) (ht : a.tmps.getD p undef = .pointer (some ⟨g, 0, none⟩))
    (hr : Row w base g n cap xs) (hu : P.underlying ty = some d) (hd : d.isRow = true) (hi : (P.info? ty).map (·.size) = some n) (hdef : a.defers = []) (hR : R (.returned (.agg xs.toArray)) w) : bodyPost P fn R .ret a w := by
  refine bodyPost_ret (v := .agg xs.toArray) ?_ hdef hR
  rw [results_cell w hres a.tmps _ ht]
  exact run_loadVar_mid w g 0 ty xs _ hr.range hu hd (by rw [hi, hr.len])
theorem Row.prefix {w : World} {base g n cap : Nat} {xs ys : List Value} (h : Row w base g n cap (xs ++ ys)) : w.rangeAt g 0 xs := fun j v hv => by
  refine h.range j v ?_
  rw [List.getElem?_append_left (List.getElem?_eq_some_iff.1 hv).1, hv]
end
end Go.Proofs.Sha
