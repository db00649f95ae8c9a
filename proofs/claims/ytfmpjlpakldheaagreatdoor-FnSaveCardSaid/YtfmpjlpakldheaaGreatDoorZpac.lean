import Derived.Test.YtfmpjlpakldheaaGreatDoorZpab
import Derived.Deep.MidRow
import Derived.Great.Walk
import Derived.Test.YtfmpjlpakldheaaGreatDoorProg
import Derived.Test.YtfmpjlpakldheaaGreatDoorZpaa
import Derived.WalkSpells
import Derived.WalkLawsBesides
import Derived.StillTactics
import Derived.Laws.Pointers
import Derived.Deep.RegionHeld3
import Derived.Carry
import Derived.Deep.Cut
set_option maxRecDepth 100000
set_option maxHeartbeats 1000000
namespace Go.Proofs.Sha
open Go Go.RowKit Go.Great
theorem Row.range {w : World} {base g n cap : Nat} {xs : List Value} (h : Row w base g n cap xs) : w.rangeAt g 0 xs := fun j v hv => by
 have hj : j < n := by have := (List.getElem?_eq_some_iff.1 hv).1; have := h.len; omega
 rw [Nat.zero_add, h.cell j hj, hv]
theorem Row.there {w : World} {base g n cap : Nat} {xs : List Value} (h : Row w base g n cap xs) : w.there g 0 cap := fun j hj => by
 rw [Nat.zero_add]; exact ⟨h.room j hj, h.free j hj⟩
theorem Row.set {w : World} {base g n cap : Nat} {xs : List Value} (h : Row w base g n cap xs) (i : Nat) (hi : i < n) (v : Value) : Row (w.setCell ⟨g, i, none⟩ v) base g n cap (xs.set i v) := by
 have hs := grownBy_setCell w g i v
 have hle := h.le
 obtain ⟨u, hu⟩ := Option.isSome_iff_exists.1 (h.room i (by omega))
 have hc : ∀ j, j ≠ i -> (w.setCell ⟨g, i, none⟩ v).cell? ⟨g, j, none⟩ = w.cell? ⟨g, j, none⟩ := fun j hj => World.cell?_setCell_other _ _ _ _ (fun e => hj (by cases e; rfl))
 have hc' : (w.setCell ⟨g, i, none⟩ v).cell? ⟨g, i, none⟩ = some v := World.cell?_setCell_same _ _ _ hu
 refine ⟨h.ge, Nat.lt_of_lt_of_le h.lt hs.size, by rw [List.length_set]; exact h.len, hle, fun j hj => ?_, fun j hj => ?_, fun j hj => by rw [World.frozen?_setCell]; exact h.free j hj⟩
 · by_cases e : j = i
   · subst e; rw [hc', List.getElem?_set_self (by rw [h.len]; exact hi)]
   · rw [hc j e, h.cell j hj, List.getElem?_set_ne (fun e' => e e'.symm)]
 · by_cases e : j = i
   · subst e; rw [hc']; rfl
   · rw [hc j e]; exact h.room j hj
theorem Row.setAll {w : World} {base g n : Nat} {xs : List Value} (h : Row w base g n n xs) (ys : List Value) (hy : ys.length = n) : Row (w.setCells g 0 ys) base g n n ys := by
 have hs := grownBy_setCells g ys 0 w
 have hin : ∀ j (hj : j < ys.length), (w.setCells g 0 ys).cell? ⟨g, 0 + j, none⟩ = some ys[j] := World.cell?_setCells_in g ys 0 w (fun j hj => by rw [Nat.zero_add]; exact h.room j (by omega))
 refine ⟨h.ge, Nat.lt_of_lt_of_le h.lt hs.size, hy, Nat.le_refl _, fun j hj => ?_, fun j hj => ?_, fun j hj => by rw [World.frozen?_setCells]; exact h.free j hj⟩
 · have := hin j (by omega)
   rw [Nat.zero_add] at this
   rw [this, List.getElem?_eq_getElem (by omega)]
 · have := hin j (by omega)
   rw [Nat.zero_add] at this
   rw [this]; rfl
section
variable {P : Program} (w : World)
theorem wpList_alloc_row {ops : Array Oper} {rest : List Oper} {o : Oper} {a : Act} {Q : Exit -> Act -> World -> Prop} (hgd : o.guard = none) (dst : Option Tmp) (hdst : o.dst = dst) (ty ty' : TypeId) (ho : o.op = .alloc ty) (xs : List Value)
 (hrun : ∀ w : World, (Instr.alloc ty true (.tuple #[])).run P w = .ok (.pointer (some ⟨w.heap.size, 0, none⟩)) (w.alloc (.cells xs.toArray ty')))
 (h : ∀ g w', Row w' w.heap.size g xs.length xs.length xs -> Below w.heap.size w w' -> wpList P ops Q rest (a.put dst (.pointer (some ⟨g, 0, none⟩))) w') : wpList P ops Q (o :: rest) a w := by
 refine wpList_runTo hgd dst hdst (.pointer (some ⟨w.heap.size, 0, none⟩)) (w.alloc (.cells xs.toArray ty')) ?_ (h _ _ ?_ ((Below.refl _ _).alloc (Nat.le_refl _) _))
 · unfold execOp
   simp only [ho, Sem.run_bind, hrun, Result.andThen_ok, Sem.run_pure]
 · have := Row.of_block (base := w.heap.size) (Nat.le_refl _) (heap_alloc_new w (.cells xs.toArray ty')) xs.length (by simp) (.inl rfl)
   simpa using this
theorem wpList_load_whole {ops : Array Oper} {rest : List Oper} {o : Oper} {a : Act} {Q : Exit -> Act -> World -> Prop} (hgd : o.guard = none) (ty : TypeId) (x : Operand) (ho : o.op = .load ty x)
 (base g n cap : Nat) (xs : List Value) (e : TypeId) (hx : a.eval x = .pointer (some ⟨g, 0, none⟩)) (hr : Row w base g n cap xs)
 (hu : P.underlying ty = some (.array n e)) (hi : (P.info? ty).map (·.size) = some n)
 (h : wpList P ops Q rest (a.put o.dst (.agg xs.toArray)) w) : wpList P ops Q (o :: rest) a w :=
 wpList_load_mid hgd ty x ho g 0 hx xs _ hr.range hu rfl (by rw [hi, hr.len]) h
theorem wpList_store_whole {ops : Array Oper} {rest : List Oper} {o : Oper} {a : Act} {Q : Exit -> Act -> World -> Prop} (hgd : o.guard = none) (hdst : o.dst = none) (ty : TypeId) (x y : Operand) (ho : o.op = .store ty x y)
 (base g n : Nat) (xs ys : List Value) (hx : a.eval x = .pointer (some ⟨g, 0, none⟩)) (hy : a.eval y = .agg ys.toArray) (hr : Row w base g n n xs) (hl : ys.length = n)
 (hi : (P.info? ty).map (·.size) = some n) (h1 : ∀ v ∈ ys, v.oneCell' = true)
 (h : ∀ w', Row w' base g n n ys -> w.grownBy w' (some g) -> wpList P ops Q rest a w') : wpList P ops Q (o :: rest) a w :=
 wpList_store_mid hgd ty x y ho g 0 ys.toArray hx hy (by rw [List.size_toArray, hl]; exact hr.there) (by rw [hi, List.size_toArray, hl]) (all_oneCell_toArray h1) (by
  rw [hdst]; exact h _ (hr.setAll ys hl) (grownBy_setCells g ys 0 w))
theorem results_cell {fn : Func} {p : Tmp} {ty : TypeId} (h : fn.results = #[.cell p ty]) (tmps : Array Value) (b : Addr) (hp : tmps.getD p undef = .pointer (some b)) : (results fn tmps).run P w = (loadVar ty b).run P w := by
 have hp' : tmps[p]?.getD undef = .pointer (some b) := by simpa using hp
 simp only [results, h]
 simp [hp', asAddr]
theorem ret_row {fn : Func} {R : Ending -> World -> Prop} {a : Act} {p : Tmp} {ty : TypeId} (hres : fn.results = #[.cell p ty]) (base g n cap : Nat) (xs : List Value) (e : TypeId) (ht : a.tmps.getD p undef = .pointer (some ⟨g, 0, none⟩))
 (hr : Row w base g n cap xs) (hu : P.underlying ty = some (.array n e)) (hi : (P.info? ty).map (·.size) = some n) (hdef : a.defers = []) (hR : R (.returned (.agg xs.toArray)) w) : bodyPost P fn R .ret a w := by
 refine bodyPost_ret (v := .agg xs.toArray) ?_ hdef hR
 rw [results_cell w hres a.tmps _ ht]
 exact run_loadVar_mid w g 0 ty xs _ hr.range hu rfl (by rw [hi, hr.len])
theorem wpList_index_u {ops : Array Oper} {rest : List Oper} {o : Oper} {a : Act} {Q : Exit -> Act -> World -> Prop} (hgd : o.guard = none) (t : TypeId) (x y : Operand) (ho : o.op = .index t x y)
 (L : List UInt32) (n e i : Nat) (hx : a.eval x = .agg (L.map U).toArray) (hy : a.eval y = .int .i64 (i : Int)) (hL : L.length = n) (hi : i < n)
 (hu : P.underlying t = some (.array n e)) (he : P.underlying e = some (.int .u32)) (hs : (P.info? e).map (·.size) = some 1)
 (h : wpList P ops Q rest (a.put o.dst (.int .u32 ((L.getD i 0).toNat : Int))) w) : wpList P ops Q (o :: rest) a w := by
 refine wpList_runTo hgd o.dst rfl (.int .u32 ((L.getD i 0).toNat : Int)) w ?_ h
 unfold execOp
 cases hq : P.info? e with
 | none => simp [hq] at hs
 | some ie =>
  have hs1 : ie.size = 1 := by simpa [hq] using hs
  have hc := tab_cell L i (by omega)
  simp [ho, hx, hy, Instr.index, run_underlying hu, asIntOf, sizeOf, typeInfo, hq, hs1]
  have hpart : (part e (L.map U).toArray i).run P w = .ok (.int .u32 ((L.getD i 0).toNat : Int)) w := by
   have hagg : (isAgg e).run P w = .ok false w := by
    unfold isAgg
    rw [Sem.run_bind, run_underlying he w]; rfl
   unfold part
   rw [Sem.run_bind, hagg, hc]; rfl
  rw [if_pos hi, hpart]; simp
end
structure Hsh (w : World) (b : Nat) (h : List UInt32) (k : List UInt8) (held size : Nat) : Prop where
 hl : h.length = 8
 kl : k.length = 64
 hs : ∀ j, j < 8 -> w.cell? ⟨b, j, none⟩ = some (.int .u32 ((h.getD j 0).toNat : Int))
 ks : ∀ j, j < 64 -> w.cell? ⟨b, 8 + j, none⟩ = some (.int .u8 ((k.getD j 0).toNat : Int))
 hd : w.cell? ⟨b, 72, none⟩ = some (.int .i64 (held : Int))
 sz : w.cell? ⟨b, 73, none⟩ = some (.int .u64 (size : Int))
 fr : ∀ j, j < 74 -> w.frozen? ⟨b, j, none⟩ = false
theorem Hsh.lt {w : World} {b : Nat} {h : List UInt32} {k : List UInt8} {held size : Nat} (H : Hsh w b h k held size) : b < w.heap.size := World.block_lt_of_cell? w _ H.hd
theorem Hsh.kept {w w' : World} {b : Nat} {h : List UInt32} {k : List UInt8} {held size : Nat} {row : Option Nat} (H : Hsh w b h k held size) (hg : w.grownBy w' row) (hn : some b ≠ row) : Hsh w' b h k held size := by
 have hc : ∀ j, w'.cell? ⟨b, j, none⟩ = w.cell? ⟨b, j, none⟩ := fun j => hg.cell_far _ H.lt hn
 have hf : ∀ j, w'.frozen? ⟨b, j, none⟩ = w.frozen? ⟨b, j, none⟩ := fun j => hg.frozen_far _ H.lt hn
 exact ⟨H.hl, H.kl, fun j hj => (hc j).trans (H.hs j hj), fun j hj => (hc _).trans (H.ks j hj), (hc _).trans H.hd, (hc _).trans H.sz, fun j hj => (hf j).trans (H.fr j hj)⟩
theorem Hsh.below {w w' : World} {b : Nat} {h : List UInt32} {k : List UInt8} {held size : Nat} (H : Hsh w b h k held size) (hg : Below w.heap.size w w') : Hsh w' b h k held size := H.kept (grownBy_of_below hg none) (by simp)
theorem Hsh.drew {w : World} {b : Nat} {h : List UInt32} {k : List UInt8} {held size : Nat} (H : Hsh w b h k held size) : Hsh w.drew b h k held size := H.kept (grownBy_drew w none) (by simp)
theorem getD_set {α : Type} (l : List α) (i j : Nat) (v d : α) (hi : i < l.length) : (l.set i v).getD j d = if j = i then v else l.getD j d := by
 rw [List.getD_eq_getElem?_getD, List.getD_eq_getElem?_getD]
 by_cases e : j = i
 · subst e; rw [List.getElem?_set_self hi, if_pos rfl]; rfl
 · rw [List.getElem?_set_ne (fun e' => e e'.symm), if_neg e]
section
variable {w : World} {b : Nat} {h : List UInt32} {k : List UInt8} {held size : Nat}
theorem cell_set_ne (w : World) (b i j : Nat) (v : Value) (hn : j ≠ i) : (w.setCell ⟨b, i, none⟩ v).cell? ⟨b, j, none⟩ = w.cell? ⟨b, j, none⟩ := World.cell?_setCell_other _ _ _ _ (fun e => hn (by cases e; rfl))
theorem Hsh.setHeld (H : Hsh w b h k held size) (n : Nat) : Hsh (w.setCell ⟨b, 72, none⟩ (.int .i64 (n : Int))) b h k n size := by
 refine ⟨H.hl, H.kl, fun j hj => ?_, fun j hj => ?_, World.cell?_setCell_same _ _ _ H.hd, ?_, fun j hj => by rw [World.frozen?_setCell]; exact H.fr j hj⟩
 · rw [cell_set_ne _ _ _ _ _ (by omega)]; exact H.hs j hj
 · rw [cell_set_ne _ _ _ _ _ (by omega)]; exact H.ks j hj
 · rw [cell_set_ne _ _ _ _ _ (by omega)]; exact H.sz
theorem Hsh.setSize (H : Hsh w b h k held size) (n : Nat) : Hsh (w.setCell ⟨b, 73, none⟩ (.int .u64 (n : Int))) b h k held n := by
 refine ⟨H.hl, H.kl, fun j hj => ?_, fun j hj => ?_, ?_, World.cell?_setCell_same _ _ _ H.sz, fun j hj => by rw [World.frozen?_setCell]; exact H.fr j hj⟩
 · rw [cell_set_ne _ _ _ _ _ (by omega)]; exact H.hs j hj
 · rw [cell_set_ne _ _ _ _ _ (by omega)]; exact H.ks j hj
 · rw [cell_set_ne _ _ _ _ _ (by omega)]; exact H.hd
theorem Hsh.setByte (H : Hsh w b h k held size) (i : Nat) (hi : i < 64) (v : UInt8) : Hsh (w.setCell ⟨b, 8 + i, none⟩ (.int .u8 (v.toNat : Int))) b h (k.set i v) held size := by
 refine ⟨H.hl, by rw [List.length_set]; exact H.kl, fun j hj => ?_, fun j hj => ?_, ?_, ?_, fun j hj => by rw [World.frozen?_setCell]; exact H.fr j hj⟩
 · rw [cell_set_ne _ _ _ _ _ (by omega)]; exact H.hs j hj
 · rw [getD_set k i j v 0 (by rw [H.kl]; exact hi)]
   by_cases e : j = i
   · subst e; rw [if_pos rfl]; exact World.cell?_setCell_same _ _ _ (H.ks j hj)
   · rw [if_neg e, cell_set_ne _ _ _ _ _ (by omega)]; exact H.ks j hj
 · rw [cell_set_ne _ _ _ _ _ (by omega)]; exact H.hd
 · rw [cell_set_ne _ _ _ _ _ (by omega)]; exact H.sz
theorem Hsh.setWord (H : Hsh w b h k held size) (i : Nat) (hi : i < 8) (v : UInt32) : Hsh (w.setCell ⟨b, i, none⟩ (.int .u32 (v.toNat : Int))) b (h.set i v) k held size := by
 refine ⟨by rw [List.length_set]; exact H.hl, H.kl, fun j hj => ?_, fun j hj => ?_, ?_, ?_, fun j hj => by rw [World.frozen?_setCell]; exact H.fr j hj⟩
 · rw [getD_set h i j v 0 (by rw [H.hl]; exact hi)]
   by_cases e : j = i
   · subst e; rw [if_pos rfl]; exact World.cell?_setCell_same _ _ _ (H.hs j hj)
   · rw [if_neg e, cell_set_ne _ _ _ _ _ (by omega)]; exact H.hs j hj
 · rw [cell_set_ne _ _ _ _ _ (by omega)]; exact H.ks j hj
 · rw [cell_set_ne _ _ _ _ _ (by omega)]; exact H.hd
 · rw [cell_set_ne _ _ _ _ _ (by omega)]; exact H.sz
end
def arr (m : List UInt8) (q : Nat) : List UInt32 := sched m q ++ List.replicate (64 - q) 0
theorem arr_getD (m : List UInt8) (q j : Nat) (hj : j < q) : (arr m q).getD j 0 = (sched m q).getD j 0 := by
 rw [List.getD_eq_getElem?_getD, List.getD_eq_getElem?_getD, arr, List.getElem?_append_left (by rw [sched_length]; exact hj)]
theorem arr_set (m : List UInt8) (q : Nat) (hq : q < 64) (v : UInt32) : (arr m q).set q v = (sched m q ++ [v]) ++ List.replicate (64 - (q + 1)) 0 := by
 have e : 64 - q = (64 - (q + 1)) + 1 := by omega
 rw [arr, e, List.replicate_succ, List.set_append_right _ _ (by rw [sched_length]; exact Nat.le_refl _), sched_length, Nat.sub_self]
 simp
theorem arr_lo (m : List UInt8) (q p : Nat) (b0 b1 b2 b3 : UInt8) (hq : q < 16) (hp : p = 4 * q)
 (hb : m.getD p 0 = b0 /\ m.getD (p + 1) 0 = b1 /\ m.getD (p + 2) 0 = b2 /\ m.getD (p + 3) 0 = b3) :
 ((arr m q).map U).set q (.int .u32 (bits BinOp.or IntKind.u32 (bits BinOp.or IntKind.u32 (bits BinOp.or IntKind.u32 (IntKind.u32.wrap (IntKind.u32.wrap (b0.toNat : Int) * 16777216)) (IntKind.u32.wrap (IntKind.u32.wrap (b1.toNat : Int) * 65536)))
  (IntKind.u32.wrap (IntKind.u32.wrap (b2.toNat : Int) * 256))) (IntKind.u32.wrap (b3.toNat : Int)))) = (arr m (q + 1)).map U := by
 rw [word_form]
 show ((arr m q).map U).set q (U _) = _
 rw [<- List.map_set, arr_set m q (by omega)]
 obtain ⟨h0, h1, h2, h3⟩ := hb
 subst hp
 rw [<- h0, <- h1, <- h2, <- h3]
 show _ = ((sched m q ++ [_]) ++ _).map U
 rw [if_pos hq]
theorem arr_hi (m : List UInt8) (q : Nat) (x16 x15 x7 x2 : UInt32) (hq : 16 <= q) (hq2 : q < 64)
 (hb : (sched m q).getD (q - 16) 0 = x16 /\ (sched m q).getD (q - 15) 0 = x15 /\ (sched m q).getD (q - 7) 0 = x7 /\ (sched m q).getD (q - 2) 0 = x2) :
 ((arr m q).map U).set q (.int .u32 (IntKind.u32.wrap (IntKind.u32.wrap (IntKind.u32.wrap (((sumNear x2).toNat : Int) + x7.toNat) + (sumFar x15).toNat) + x16.toNat))) = (arr m (q + 1)).map U := by
 rw [wrap_add, wrap_add, wrap_add]
 show ((arr m q).map U).set q (U _) = _
 rw [<- List.map_set, arr_set m q hq2]
 obtain ⟨h0, h1, h2, h3⟩ := hb
 rw [<- h0, <- h1, <- h2, <- h3]
 show _ = ((sched m q ++ [_]) ++ _).map U
 rw [if_neg (by omega)]
 congr 4
 generalize (sched m q).getD (q - 16) 0 = a
 generalize sumFar ((sched m q).getD (q - 15) 0) = c
 generalize (sched m q).getD (q - 7) 0 = d
 generalize sumNear ((sched m q).getD (q - 2) 0) = e
 ac_rfl
theorem arr_full (m : List UInt8) : arr m 64 = sched m 64 := by simp [arr]
theorem cell_set_far (w : World) (g i b j : Nat) (v : Value) (hne : b ≠ g) : (w.setCell ⟨g, i, none⟩ v).cell? ⟨b, j, none⟩ = w.cell? ⟨b, j, none⟩ := World.cell?_setCell_other _ _ _ _ (fun e => hne (by cases e; rfl))
def addTo (h v : List UInt32) : Nat -> List UInt32
 | 0 => h
 | i + 1 => (addTo h v i).set i ((addTo h v i).getD i 0 + v.getD i 0)
theorem addTo_comp (m : List UInt8) (W : List UInt32) (x0 x1 x2 x3 x4 x5 x6 x7 va vb vc vd ve vf vg vz : UInt32)
 (hw : sched m 64 = W) (hr : rnds W ⟨x0, x1, x2, x3, x4, x5, x6, x7⟩ 64 = ⟨va, vb, vc, vd, ve, vf, vg, vz⟩) :
 addTo [x0, x1, x2, x3, x4, x5, x6, x7] [va, vb, vc, vd, ve, vf, vg, vz] 8 = comp [x0, x1, x2, x3, x4, x5, x6, x7] m := by
 unfold comp ofL
 rw [hw]
 show _ = [x0 + (rnds W ⟨x0, x1, x2, x3, x4, x5, x6, x7⟩ 64).a, x1 + (rnds W ⟨x0, x1, x2, x3, x4, x5, x6, x7⟩ 64).b, x2 + (rnds W ⟨x0, x1, x2, x3, x4, x5, x6, x7⟩ 64).c, x3 + (rnds W ⟨x0, x1, x2, x3, x4, x5, x6, x7⟩ 64).d,
  x4 + (rnds W ⟨x0, x1, x2, x3, x4, x5, x6, x7⟩ 64).e, x5 + (rnds W ⟨x0, x1, x2, x3, x4, x5, x6, x7⟩ 64).f, x6 + (rnds W ⟨x0, x1, x2, x3, x4, x5, x6, x7⟩ 64).g, x7 + (rnds W ⟨x0, x1, x2, x3, x4, x5, x6, x7⟩ 64).z]
 rw [hr]; rfl
theorem list8 (h : List UInt32) (hl : h.length = 8) : ∃ x0 x1 x2 x3 x4 x5 x6 x7, h = [x0, x1, x2, x3, x4, x5, x6, x7] := by
 match h, hl with
 | [x0, x1, x2, x3, x4, x5, x6, x7], _ => exact ⟨x0, x1, x2, x3, x4, x5, x6, x7, rfl⟩
end Go.Proofs.Sha
namespace Go.Proofs.Sha
open Go Go.RowKit
section
variable {P : Program} (w : World)
theorem wpList_box_row {ops : Array Oper} {rest : List Oper} {o : Oper} {a : Act} {Q : Exit -> Act -> World -> Prop} (hgd : o.guard = none) (dst : Option Tmp) (hdst : o.dst = dst) (ty : TypeId) (x : Operand) (ho : o.op = .box ty x) (xs : List Value) (hx : a.eval x = .agg xs.toArray)
 (h : ∀ g w', Row w' w.heap.size g xs.length xs.length xs -> Below w.heap.size w w' -> wpList P ops Q rest (a.put dst (.pointer (some ⟨g, 0, none⟩))) w') : wpList P ops Q (o :: rest) a w := by
 refine Go.Great.wpList_runTo hgd dst hdst (.pointer (some ⟨w.heap.size, 0, none⟩)) (w.alloc (.cells xs.toArray ty)) ?_ (h _ _ ?_ ((Below.refl _ _).alloc (Nat.le_refl _) _))
 · unfold execOp
   simp only [ho, hx]
   rfl
 · have := Row.of_block (base := w.heap.size) (Nat.le_refl _) (heap_alloc_new w (.cells xs.toArray ty)) xs.length (by simp) (.inl rfl)
   simpa using this
theorem wpList_build_to {ops : Array Oper} {rest : List Oper} {o : Oper} {a : Act} {Q : Exit -> Act -> World -> Prop} (hgd : o.guard = none) (t : TypeId) (parts : Array (Nat × Operand)) (ho : o.op = .build t parts) (cells : Array Value)
 (hb : P.built t (parts.toList.map fun (i, x) => (i, a.eval x)) = some cells)
 (h : wpList P ops Q rest (a.put o.dst (.agg cells)) w) : wpList P ops Q (o :: rest) a w := by
 rw [<- Array.toList_map] at hb
 refine Go.Great.wpList_runTo hgd o.dst rfl (.agg cells) w ?_ h
 unfold execOp
 simp only [ho, Sem.run_bind, run_build w t _ cells hb, Result.andThen_ok, Sem.run_pure]
theorem ret_any {fn : Func} {R : Ending -> World -> Prop} {a : Act} {p : Tmp} {ty : TypeId} {d : TypeDesc} (hres : fn.results = #[.cell p ty]) (base g n cap : Nat) (xs : List Value) (ht : a.tmps.getD p undef = .pointer (some ⟨g, 0, none⟩))
 (hr : Row w base g n cap xs) (hu : P.underlying ty = some d) (hd : d.isRow = true) (hi : (P.info? ty).map (·.size) = some n) (hdef : a.defers = []) (hR : R (.returned (.agg xs.toArray)) w) : bodyPost P fn R .ret a w := by
 refine bodyPost_ret (v := .agg xs.toArray) ?_ hdef hR
 rw [results_cell w hres a.tmps _ ht]
 exact run_loadVar_mid w g 0 ty xs _ hr.range hu hd (by rw [hi, hr.len])
theorem Row.prefix {w : World} {base g n cap : Nat} {xs ys : List Value} (h : Row w base g n cap (xs ++ ys)) : w.rangeAt g 0 xs := fun j v hv => by
 refine h.range j v ?_
 rw [List.getElem?_append_left (List.getElem?_eq_some_iff.1 hv).1, hv]
end
end Go.Proofs.Sha
namespace Go.Proofs.YtfmpjlpakldheaaGreatDoor
open Go.RowKit Go.Proofs.Sha Tryz
theorem key43 : Key32 prog 116 5 :=
 ⟨Tryz.underlying116, Tryz.underlying5, by kernel_rfl, by kernel_rfl, by kernel_rfl, deep_law_gate (by kernel_rfl) (by decide +kernel) (by decide +kernel) (by kernel_rfl) (by rw [Tryz.underlying116]), ⟨prog.types.size - 1, by kernel_rfl⟩⟩
def zeros32b : List UInt8 := List.replicate 32 0
theorem alloc43 (w : World) : (Instr.alloc 116 true (.tuple #[])).run prog w = .ok (.pointer (some ⟨w.heap.size, 0, none⟩)) (w.alloc (.cells (zeros32b.map B).toArray 116)) := by kernel_rfl
theorem size43 : (prog.info? 116).map (·.size) = some 32 := by kernel_rfl
def cutW (k : Nat) (X : List UInt8) : List UInt8 := X.take k ++ List.replicate (32 - k) 0
theorem cutW_len (k : Nat) (X : List UInt8) (hX : X.length = 32) (hk : k <= 32) : (cutW k X).length = 32 := by unfold cutW; rw [List.length_append, List.length_take, List.length_replicate]; omega
def addF (F : List UInt8 -> Option Int) (X : List UInt8) (v : Int) : List UInt8 -> Option Int := if F X = none then fun Y => if Y = X then some v else F Y else F
def HashSaid (K : World -> Prop) : Prop := ∀ (s : ByteArray) (w : World), s.size <= 1048576 -> K w -> Calls prog 167 #[.string s] w fun e w' => e = .returned (.agg ((sha (78 :: s.data.toList)).map B).toArray) /\ Below w.heap.size w w'
theorem Row.setTail {w : World} {base g n cap : Nat} {xs : List Value} (h : Row w base g n cap xs) (o : Nat) (ys : List Value) (ho : o + ys.length = n) : Row (w.setCells g o ys) base g n cap (xs.take o ++ ys) := by
 have hin : ∀ j (hj : j < ys.length), (w.setCells g o ys).cell? ⟨g, o + j, none⟩ = some ys[j] := World.cell?_setCells_in g ys o w (fun j hj => h.room (o + j) (by have := h.le; omega))
 have hout : ∀ j, j < o \/ o + ys.length <= j -> (w.setCells g o ys).cell? ⟨g, j, none⟩ = w.cell? ⟨g, j, none⟩ := fun j hj => World.cell?_setCells_out g ys o w ⟨g, j, none⟩ (fun _ _ => hj)
 have hgr := grownBy_setCells g ys o w
 have hl := h.len
 refine ⟨h.ge, Nat.lt_of_lt_of_le h.lt hgr.size, by rw [List.length_append, List.length_take]; omega, h.le, ?_, ?_, ?_⟩
 · intro j hj
   rcases Nat.lt_or_ge j o with h1 | h1
   · rw [hout j (.inl h1), h.cell j (by omega), List.getElem?_append_left (by rw [List.length_take]; omega), List.getElem?_take, if_pos h1]
   · obtain ⟨q, rfl⟩ := Nat.exists_eq_add_of_le h1
     rw [hin q (by omega), List.getElem?_append_right (by rw [List.length_take]; omega), List.length_take, show o + q - min o xs.length = q by omega, List.getElem?_eq_getElem (by omega)]
 · intro j hj
   rcases Nat.lt_or_ge j o with h1 | h1
   · rw [hout j (.inl h1)]; exact h.room j hj
   · rcases Nat.lt_or_ge j (o + ys.length) with h2 | h2
     · obtain ⟨q, rfl⟩ := Nat.exists_eq_add_of_le h1
       rw [hin q (by omega)]; rfl
     · rw [hout j (.inr h2)]; exact h.room j hj
 · intro j hj
   rw [World.frozen?_setCells]; exact h.free j hj
theorem zeroV3 (w : World) : (zeroValue 3).run prog w = .ok (.int .i64 0) w := by kernel_rfl
theorem zeroV5 (w : World) : (zeroValue 5).run prog w = .ok (.int .u8 0) w := by kernel_rfl
theorem zeroCells_b (q : Nat) : (Builtin.zeroCells (Value.int .u8 0).cells q).toList = List.replicate q (B 0) := by
 show (Builtin.zeroCells #[Value.int .u8 0] q).toList = _
 rw [Builtin.zeroCells]
 apply List.ext_getElem
 · simp
 · intro j h1 h2
   simp [B, Nat.mod_one]
theorem run_clear_tail {w : World} {base g : Nat} {X : List UInt8} (h : Row w base g 32 32 (X.map B)) (_hX : X.length = 32) (k : Nat) (hk : k < 32) :
 ∃ w', (Builtin.clear_ #[22] 0 #[.slice (some ⟨g, k, none⟩) (32 - k) (32 - k)]).run prog w = .ok (.tuple #[]) w' /\ Row w' base g 32 32 ((cutW k X).map B) /\ w.grownBy w' (some g) := by
 obtain ⟨q, hq⟩ : ∃ q, 32 - k = q + 1 := ⟨31 - k, by omega⟩
 have hst := run_storeCells_cells (P := prog) g k (List.replicate (32 - k) (B 0)) 0 w (fun j hj => by rw [List.length_replicate] at hj; have := h.room (k + j) (by omega); simpa using this) (fun j hj => by rw [List.length_replicate] at hj; have := h.free (k + j) (by omega); simpa using this) (fun v hv => by rw [List.eq_of_mem_replicate hv]; rfl)
 simp only [Nat.add_zero] at hst
 refine ⟨w.setCells g k (List.replicate (32 - k) (B 0)), ?_, ?_, grownBy_setCells _ _ _ _⟩
 · unfold Builtin.clear_
   rw [hq] at hst ⊢
   simp only [Sem.run_bind, run_underlying Tryz.underlying22, Result.andThen_ok, zeroV5, zeroCells_b, List.getElem?_toArray, List.getElem?_cons_zero]
   rw [hst]
   rfl
 · have := Row.setTail h k (List.replicate (32 - k) (B 0)) (by rw [List.length_replicate]; omega)
   unfold cutW
   rw [List.map_append, List.map_take, List.map_replicate]
   exact this
theorem newP_any (wd : Int) (w : World) : Calls prog 145 #[.int .i64 wd] w fun e w' => ∃ r, e = .returned (.agg #[.int .i64 wd, .map (some r)]) /\ w.heap.size <= r /\ MapF (fun _ => none) r w' /\ Below w.heap.size w w' := by
 have hmm := @run_makeMap prog
 have hM : MapF (fun _ => none) (w.heap.size + 1) ((w.alloc (.cells #[.int .i64 wd, .map (some (w.heap.size + 1))] 176)).alloc (.map #[] 0)) := by
  refine ⟨#[], 0, ?_, fun x hx => by simp at hx, fun X v hv => by cases hv⟩
  have := heap_alloc_new (w.alloc (.cells #[.int .i64 wd, .map (some (w.heap.size + 1))] 176)) (.map #[] 0)
  rwa [World.size_alloc] at this
 go_enter func145, ntmps145
 go_wp2_with fail
 refine bodyPost_ret (v := .agg #[.int .i64 wd, .map (some (w.heap.size + 1))]) ?_ rfl ⟨w.heap.size + 1, rfl, by omega, hM, ((Below.refl _ w).alloc (Nat.le_refl _) _).alloc (by simp) _⟩
 clear hM
 simp [results, Tryz.results145, go_sem, asAddr]
theorem add_any {K : World -> Prop} (HH : Hid (HashSaid K)) (wd : Nat) (r : Nat) (F : List UInt8 -> Option Int) (enc : ByteArray) (pl : Int) (w : World) (h : MapF F r w) (hK : K w) (keep : Hid (∀ w1 w2, K w1 -> Below w1.heap.size w1 w2 -> K w2)) (hs : enc.size <= 1048576) (h1 : wd <= 32) :
 Calls prog 146 #[.agg #[.int .i64 (wd : Int), .map (some r)], .string enc, .int .i64 pl] w fun e w' => e = .returned (.tuple #[]) /\ MapF (addF F (cutW wd (sha (78 :: enc.data.toList))) pl) r w' /\ w.grownBy w' (some r) := by
 obtain ⟨L, hL⟩ : ∃ L, sha (78 :: enc.data.toList) = L := ⟨_, rfl⟩
 have hLl : L.length = 32 := by rw [<- hL]; unfold sha; rw [outTo_length]
 have HC : Hid (∀ w', K w' -> Calls prog 167 #[.string enc] w' fun e w'' => e = .returned (.agg (L.map B).toArray) /\ Below w'.heap.size w' w'') := fun w' hw => by rw [<- hL]; exact HH.out enc w' hs hw
 go_enter func146, ntmps146
 go_wp2_with fail
 refine (HC.out _ (keep.out _ _ hK ((Below.refl _ w).alloc (Nat.le_refl _) _))).mono ?_
 rintro e w1 ⟨rfl, hb1⟩
 have hn1 : w1.heap[w.heap.size]? = some (.cells #[.int .i64 (wd : Int), .map (some r)] 176) := (hb1.block _ (by simp)).trans (heap_alloc_new w _)
 have hB1 : Below w.heap.size w w1 := ((Below.refl _ w).alloc (Nat.le_refl _) _).trans (hb1.mono (by simp))
 have hrl : r < w.heap.size := by
  obtain ⟨es, cl, hg, _, _⟩ := h.is
  exact (Array.getElem?_eq_some_iff.1 hg).1
 obtain ⟨ga, hga⟩ : ∃ ga, w.heap.size = ga := ⟨_, rfl⟩
 have hLm : (L.map B).length = 32 := by rw [List.length_map, hLl]
 have h1c : ∀ v ∈ L.map B, v.oneCell' = true := by
  intro v hv
  obtain ⟨x, _, rfl⟩ := List.mem_map.1 hv
  rfl
 have hs1 := hB1.size
 go_upto_region 2 with (first | (refine wpList_alloc_row _ rfl (some 6) rfl 116 116 rfl (zeros32b.map B) alloc43 ?_; intro g2 w2 hr2 hb2) | (refine wpList_store_whole _ rfl rfl 116 (.tmp 6) (.tmp 10) rfl w1.heap.size g2 32 (zeros32b.map B) (L.map B) rfl rfl hr2 hLm size43 h1c ?_; intro w3 hR3 hg3))
 have hge := hR3.ge
 have hgl := hR3.lt
 have hB3' : Below w1.heap.size w1 w3 := hb2.trans (below_of_grown hg3 hge hb2.size)
 have hn3 : w3.heap[ga]? = some (.cells #[.int .i64 (wd : Int), .map (some r)] 176) := by
  rw [<- hga]
  exact (hB3'.block _ (Array.getElem?_eq_some_iff.1 hn1).1).trans hn1
 have hM3 : MapF F r w3 := (h.below hB1).below hB3'
 have hB3 : Below w.heap.size w w3 := hB1.trans (hB3'.mono hB1.size)
 have hne : ga ≠ g2 := by have := (Array.getElem?_eq_some_iff.1 hn1).1; omega
 clear hb2 hr2 hg3 hB3' hn1 hb1 hB1
 have c0 := ZC hn3 0
 have c1 := ZC hn3 1
 have q1 : (wd : Int) <= 32 := by omega
 have q2 : (0 : Int) <= (wd : Int) := by omega
 by_cases hw : wd < 32
 · obtain ⟨w4, hcl, hR4, hg4⟩ := run_clear_tail hR3 hLl wd hw
   have hM4 := hM3.kept hg4 (by omega)
   have hn4 : w4.heap[ga]? = some (.cells #[.int .i64 (wd : Int), .map (some r)] 176) := (hg4.block ga (Array.getElem?_eq_some_iff.1 hn3).1 (fun e => hne (Option.some.inj e))).trans hn3
   have hB4 : w.grownBy w4 (some r) := by
    have : Below w.heap.size w w4 := hB3.trans (below_of_grown hg4 (by omega) hB3.size)
    exact grownBy_of_below this _
   go_upto_region 3 with fail
   clear hcl hR3 hg4 hM3 hn3 hB3 c0 c1
   have hX := cutW_len wd L hLl h1
   have HX : Hid (cutW wd (sha (78 :: enc.data.toList)) = cutW wd L) := by show _ = _; rw [hL]
   obtain ⟨X, hXX⟩ : ∃ X, cutW wd L = X := ⟨_, rfl⟩
   rw [hXX] at hR4 hX HX
   have hlk := run_look key43 Tryz.underlying174 zeroV3 hM4 X hX
   unfold K32 at hlk
   have d0 := ZC hn4 0
   have d1 := ZC hn4 1
   cases hF : F X with
   | some u =>
    rw [hF] at hlk
    have hend : MapF (addF F (cutW wd (sha (78 :: enc.data.toList))) pl) r w4 := by
     rw [HX.out]
     unfold addF
     rw [if_neg (by rw [hF]; intro hh; cases hh)]
     exact hM4
    clear HX hM4 hF
    go_wp2_with (first | (refine wpList_load_whole _ rfl 116 (.tmp 6) rfl w1.heap.size g2 32 32 (X.map B) 5 rfl hR4 Tryz.underlying116 size43 ?_))
    go_end0
    exact ⟨rfl, hend, hB4⟩
   | none =>
    rw [hF] at hlk
    obtain ⟨w5, hup, hM5, hg5⟩ := run_put key43 Tryz.underlying174 hM4 X hX hF pl
    unfold K32 at hup
    have hend : MapF (addF F (cutW wd (sha (78 :: enc.data.toList))) pl) r w5 := by
     rw [HX.out]
     unfold addF
     rw [if_pos hF]
     exact hM5
    have hB5 := grownBy_trans hB4 hg5
    clear HX hM4 hF hM5
    go_wp2_with (first | (refine wpList_load_whole _ rfl 116 (.tmp 6) rfl w1.heap.size g2 32 32 (X.map B) 5 rfl hR4 Tryz.underlying116 size43 ?_))
    go_end0
    exact ⟨rfl, hend, hB5⟩
 · obtain rfl : wd = 32 := by omega
   have hcl : (Builtin.clear_ #[22] 0 #[.slice (some ⟨g2, 0, none⟩) 0 0]).run prog w3 = .ok (.tuple #[]) w3 := by
    unfold Builtin.clear_
    simp only [Sem.run_bind, run_underlying Tryz.underlying22, Result.andThen_ok, List.getElem?_toArray, List.getElem?_cons_zero]
    rfl
   have hc32 : cutW 32 L = L := by unfold cutW; rw [List.take_of_length_le (by omega)]; simp
   have hR4 : Row w3 w1.heap.size g2 32 32 ((cutW 32 L).map B) := by rw [hc32]; exact hR3
   have hM4 := hM3
   have hn4 := hn3
   have hB4 : w.grownBy w3 (some r) := grownBy_of_below hB3 _
   go_upto_region 3 with fail
   clear hcl hR3 hM3 hn3 hB3 c0 c1 hc32
   have hX := cutW_len 32 L hLl h1
   have HX : Hid (cutW 32 (sha (78 :: enc.data.toList)) = cutW 32 L) := by show _ = _; rw [hL]
   obtain ⟨X, hXX⟩ : ∃ X, cutW 32 L = X := ⟨_, rfl⟩
   rw [hXX] at hR4 hX HX
   have hlk := run_look key43 Tryz.underlying174 zeroV3 hM4 X hX
   unfold K32 at hlk
   have d0 := ZC hn4 0
   have d1 := ZC hn4 1
   cases hF : F X with
   | some u =>
    rw [hF] at hlk
    have hend : MapF (addF F (cutW 32 (sha (78 :: enc.data.toList))) pl) r w3 := by
     rw [HX.out]
     unfold addF
     rw [if_neg (by rw [hF]; intro hh; cases hh)]
     exact hM4
    clear HX hM4 hF
    go_wp2_with (first | (refine wpList_load_whole _ rfl 116 (.tmp 6) rfl w1.heap.size g2 32 32 (X.map B) 5 rfl hR4 Tryz.underlying116 size43 ?_))
    go_end0
    exact ⟨rfl, hend, hB4⟩
   | none =>
    rw [hF] at hlk
    obtain ⟨w5, hup, hM5, hg5⟩ := run_put key43 Tryz.underlying174 hM4 X hX hF pl
    unfold K32 at hup
    have hend : MapF (addF F (cutW 32 (sha (78 :: enc.data.toList))) pl) r w5 := by
     rw [HX.out]
     unfold addF
     rw [if_pos hF]
     exact hM5
    have hB5 := grownBy_trans hB4 hg5
    clear HX hM4 hF hM5
    go_wp2_with (first | (refine wpList_load_whole _ rfl 116 (.tmp 6) rfl w1.heap.size g2 32 32 (X.map B) 5 rfl hR4 Tryz.underlying116 size43 ?_))
    go_end0
    exact ⟨rfl, hend, hB5⟩
end Go.Proofs.YtfmpjlpakldheaaGreatDoor
