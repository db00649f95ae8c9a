import Derived.Test.YtmfhfehemoeeeaaGreatDoorZsab
import Derived.Deep.MidRow
import Derived.Great.Walk
namespace Go.Proofs.Sha
open Go Go.RowKit Go.Great

theorem Row.range {w : World} {base g n cap : Nat} {xs : List Value} (h : Row w base g n cap xs) : w.rangeAt g 0 xs := fun j v hv => by
  have hj : j < n := by have := (List.getElem?_eq_some_iff.1 hv).1; have := h.len; omega
  rw [Nat.zero_add, h.cell j hj, hv]
theorem Row.there {w : World} {base g n cap : Nat} {xs : List Value} (h : Row w base g n cap xs) : w.there g 0 cap := fun j hj => by
  rw [Nat.zero_add]; exact ⟨h.room j hj, h.free j hj⟩

theorem Row.set {w : World} {base g n cap : Nat} {xs : List Value} (h : Row w base g n cap xs) (i : Nat) (hi : i < n) (v : Value) : Row (w.setCell ⟨g, i, none⟩ v) base g n cap (xs.set i v) := by
  have hs := grownBy_setCell w g i v
  have hle := h.le
  obtain ⟨u, hu⟩ := Option.isSome_iff_exists.1 (h.room i (by omega))
  have hc : ∀ j, j ≠ i → (w.setCell ⟨g, i, none⟩ v).cell? ⟨g, j, none⟩ = w.cell? ⟨g, j, none⟩ := fun j hj => World.cell?_setCell_other _ _ _ _ (fun e => hj (by cases e; rfl))
  have hc' : (w.setCell ⟨g, i, none⟩ v).cell? ⟨g, i, none⟩ = some v := World.cell?_setCell_same _ _ _ hu
  refine ⟨h.ge, Nat.lt_of_lt_of_le h.lt hs.size, by rw [List.length_set]; exact h.len, hle, fun j hj => ?_, fun j hj => ?_, fun j hj => by rw [World.frozen?_setCell]; exact h.free j hj⟩
  · by_cases e : j = i
    · subst e; rw [hc', List.getElem?_set_self (by rw [h.len]; exact hi)]
    · rw [hc j e, h.cell j hj, List.getElem?_set_ne (fun e' => e e'.symm)]
  · by_cases e : j = i
    · subst e; rw [hc']; rfl
    · rw [hc j e]; exact h.room j hj

theorem Row.setAll {w : World} {base g n : Nat} {xs : List Value} (h : Row w base g n n xs) (ys : List Value) (hy : ys.length = n) : Row (w.setCells g 0 ys) base g n n ys := by
  have hs := grownBy_setCells g ys 0 w
  have hin : ∀ j (hj : j < ys.length), (w.setCells g 0 ys).cell? ⟨g, 0 + j, none⟩ = some ys[j] := World.cell?_setCells_in g ys 0 w (fun j hj => by rw [Nat.zero_add]; exact h.room j (by omega))
  refine ⟨h.ge, Nat.lt_of_lt_of_le h.lt hs.size, hy, Nat.le_refl _, fun j hj => ?_, fun j hj => ?_, fun j hj => by rw [World.frozen?_setCells]; exact h.free j hj⟩
  · have := hin j (by omega)
    rw [Nat.zero_add] at this
    rw [this, List.getElem?_eq_getElem (by omega)]
  · have := hin j (by omega)
    rw [Nat.zero_add] at this
    rw [this]; rfl

section
variable {P : Program} (w : World)

theorem wpList_alloc_row {ops : Array Oper} {rest : List Oper} {o : Oper} {a : Act} {Q : Exit → Act → World → Prop} (hgd : o.guard = none) (dst : Option Tmp) (hdst : o.dst = dst) (ty ty' : TypeId) (ho : o.op = .alloc ty) (xs : List Value)
    (hrun : ∀ w : World, (Instr.alloc ty true (.tuple #[])).run P w = .ok (.pointer (some ⟨w.heap.size, 0, none⟩)) (w.alloc (.cells xs.toArray ty')))
    (h : ∀ g w', Row w' w.heap.size g xs.length xs.length xs → Below w.heap.size w w' → wpList P ops Q rest (a.put dst (.pointer (some ⟨g, 0, none⟩))) w') : wpList P ops Q (o :: rest) a w := by
  refine wpList_runTo hgd dst hdst (.pointer (some ⟨w.heap.size, 0, none⟩)) (w.alloc (.cells xs.toArray ty')) ?_ (h _ _ ?_ ((Below.refl _ _).alloc (Nat.le_refl _) _))
  · unfold execOp
    simp only [ho, Sem.run_bind, hrun, Result.andThen_ok, Sem.run_pure]
  · have := Row.of_block (base := w.heap.size) (Nat.le_refl _) (heap_alloc_new w (.cells xs.toArray ty')) xs.length (by simp) (.inl rfl)
    simpa using this

theorem wpList_load_whole {ops : Array Oper} {rest : List Oper} {o : Oper} {a : Act} {Q : Exit → Act → World → Prop} (hgd : o.guard = none) (ty : TypeId) (x : Operand) (ho : o.op = .load ty x)
    (base g n cap : Nat) (xs : List Value) (e : TypeId) (hx : a.eval x = .pointer (some ⟨g, 0, none⟩)) (hr : Row w base g n cap xs)
    (hu : P.underlying ty = some (.array n e)) (hi : (P.info? ty).map (·.size) = some n)
    (h : wpList P ops Q rest (a.put o.dst (.agg xs.toArray)) w) : wpList P ops Q (o :: rest) a w :=
  wpList_load_mid hgd ty x ho g 0 hx xs _ hr.range hu rfl (by rw [hi, hr.len]) h

theorem wpList_store_whole {ops : Array Oper} {rest : List Oper} {o : Oper} {a : Act} {Q : Exit → Act → World → Prop} (hgd : o.guard = none) (hdst : o.dst = none) (ty : TypeId) (x y : Operand) (ho : o.op = .store ty x y)
    (base g n : Nat) (xs ys : List Value) (hx : a.eval x = .pointer (some ⟨g, 0, none⟩)) (hy : a.eval y = .agg ys.toArray) (hr : Row w base g n n xs) (hl : ys.length = n)
    (hi : (P.info? ty).map (·.size) = some n) (h1 : ∀ v ∈ ys, v.oneCell' = true)
    (h : ∀ w', Row w' base g n n ys → w.grownBy w' (some g) → wpList P ops Q rest a w') : wpList P ops Q (o :: rest) a w :=
  wpList_store_mid hgd ty x y ho g 0 ys.toArray hx hy (by rw [List.size_toArray, hl]; exact hr.there) (by rw [hi, List.size_toArray, hl]) (all_oneCell_toArray h1) (by
    rw [hdst]; exact h _ (hr.setAll ys hl) (grownBy_setCells g ys 0 w))

theorem results_cell {fn : Func} {p : Tmp} {ty : TypeId} (h : fn.results = #[.cell p ty]) (tmps : Array Value) (b : Addr) (hp : tmps.getD p undef = .pointer (some b)) : (results fn tmps).run P w = (loadVar ty b).run P w := by
  have hp' : tmps[p]?.getD undef = .pointer (some b) := by simpa using hp
  simp only [results, h]
  simp [hp', asAddr]

theorem ret_row {fn : Func} {R : Ending → World → Prop} {a : Act} {p : Tmp} {ty : TypeId} (hres : fn.results = #[.cell p ty]) (base g n cap : Nat) (xs : List Value) (e : TypeId) (ht : a.tmps.getD p undef = .pointer (some ⟨g, 0, none⟩))
    (hr : Row w base g n cap xs) (hu : P.underlying ty = some (.array n e)) (hi : (P.info? ty).map (·.size) = some n) (hdef : a.defers = []) (hR : R (.returned (.agg xs.toArray)) w) : bodyPost P fn R .ret a w := by
  refine bodyPost_ret (v := .agg xs.toArray) ?_ hdef hR
  rw [results_cell w hres a.tmps _ ht]
  exact run_loadVar_mid w g 0 ty xs _ hr.range hu rfl (by rw [hi, hr.len])

theorem wpList_index_u {ops : Array Oper} {rest : List Oper} {o : Oper} {a : Act} {Q : Exit → Act → World → Prop} (hgd : o.guard = none) (t : TypeId) (x y : Operand) (ho : o.op = .index t x y)
    (L : List UInt32) (n e i : Nat) (hx : a.eval x = .agg (L.map U).toArray) (hy : a.eval y = .int .i64 (i : Int)) (hL : L.length = n) (hi : i < n)
    (hu : P.underlying t = some (.array n e)) (he : P.underlying e = some (.int .u32)) (hs : (P.info? e).map (·.size) = some 1)
    (h : wpList P ops Q rest (a.put o.dst (.int .u32 ((L.getD i 0).toNat : Int))) w) : wpList P ops Q (o :: rest) a w := by
  refine wpList_runTo hgd o.dst rfl (.int .u32 ((L.getD i 0).toNat : Int)) w ?_ h
  unfold execOp
  cases hq : P.info? e with
  | none => simp [hq] at hs
  | some ie =>
    have hs1 : ie.size = 1 := by simpa [hq] using hs
    have hc := tab_cell L i (by omega)
    simp [ho, hx, hy, Instr.index, run_underlying hu, asIntOf, sizeOf, typeInfo, hq, hs1]
    have hpart : (part e (L.map U).toArray i).run P w = .ok (.int .u32 ((L.getD i 0).toNat : Int)) w := by
      have hagg : (isAgg e).run P w = .ok false w := by
        unfold isAgg
        rw [Sem.run_bind, run_underlying he w]; rfl
      unfold part
      rw [Sem.run_bind, hagg, hc]; rfl
    rw [if_pos hi, hpart]; simp
end

/-- The hasher's block: eight words, 64 bytes, how many of them are held, the size. -/
structure Hsh (w : World) (b : Nat) (h : List UInt32) (k : List UInt8) (held size : Nat) : Prop where
  hl : h.length = 8
  kl : k.length = 64
  hs : ∀ j, j < 8 → w.cell? ⟨b, j, none⟩ = some (.int .u32 ((h.getD j 0).toNat : Int))
  ks : ∀ j, j < 64 → w.cell? ⟨b, 8 + j, none⟩ = some (.int .u8 ((k.getD j 0).toNat : Int))
  hd : w.cell? ⟨b, 72, none⟩ = some (.int .i64 (held : Int))
  sz : w.cell? ⟨b, 73, none⟩ = some (.int .u64 (size : Int))
  fr : ∀ j, j < 74 → w.frozen? ⟨b, j, none⟩ = false

theorem Hsh.lt {w : World} {b : Nat} {h : List UInt32} {k : List UInt8} {held size : Nat} (H : Hsh w b h k held size) : b < w.heap.size := World.block_lt_of_cell? w _ H.hd
theorem Hsh.kept {w w' : World} {b : Nat} {h : List UInt32} {k : List UInt8} {held size : Nat} {row : Option Nat} (H : Hsh w b h k held size) (hg : w.grownBy w' row) (hn : some b ≠ row) : Hsh w' b h k held size := by
  have hc : ∀ j, w'.cell? ⟨b, j, none⟩ = w.cell? ⟨b, j, none⟩ := fun j => hg.cell_far _ H.lt hn
  have hf : ∀ j, w'.frozen? ⟨b, j, none⟩ = w.frozen? ⟨b, j, none⟩ := fun j => hg.frozen_far _ H.lt hn
  exact ⟨H.hl, H.kl, fun j hj => (hc j).trans (H.hs j hj), fun j hj => (hc _).trans (H.ks j hj), (hc _).trans H.hd, (hc _).trans H.sz, fun j hj => (hf j).trans (H.fr j hj)⟩
theorem Hsh.below {w w' : World} {b : Nat} {h : List UInt32} {k : List UInt8} {held size : Nat} (H : Hsh w b h k held size) (hg : Below w.heap.size w w') : Hsh w' b h k held size := H.kept (grownBy_of_below hg none) (by simp)
theorem Hsh.drew {w : World} {b : Nat} {h : List UInt32} {k : List UInt8} {held size : Nat} (H : Hsh w b h k held size) : Hsh w.drew b h k held size := H.kept (grownBy_drew w none) (by simp)

theorem getD_set {α : Type} (l : List α) (i j : Nat) (v d : α) (hi : i < l.length) : (l.set i v).getD j d = if j = i then v else l.getD j d := by
  rw [List.getD_eq_getElem?_getD, List.getD_eq_getElem?_getD]
  by_cases e : j = i
  · subst e; rw [List.getElem?_set_self hi, if_pos rfl]; rfl
  · rw [List.getElem?_set_ne (fun e' => e e'.symm), if_neg e]

section
variable {w : World} {b : Nat} {h : List UInt32} {k : List UInt8} {held size : Nat}
theorem cell_set_ne (w : World) (b i j : Nat) (v : Value) (hn : j ≠ i) : (w.setCell ⟨b, i, none⟩ v).cell? ⟨b, j, none⟩ = w.cell? ⟨b, j, none⟩ := World.cell?_setCell_other _ _ _ _ (fun e => hn (by cases e; rfl))

theorem Hsh.setHeld (H : Hsh w b h k held size) (n : Nat) : Hsh (w.setCell ⟨b, 72, none⟩ (.int .i64 (n : Int))) b h k n size := by
  refine ⟨H.hl, H.kl, fun j hj => ?_, fun j hj => ?_, World.cell?_setCell_same _ _ _ H.hd, ?_, fun j hj => by rw [World.frozen?_setCell]; exact H.fr j hj⟩
  · rw [cell_set_ne _ _ _ _ _ (by omega)]; exact H.hs j hj
  · rw [cell_set_ne _ _ _ _ _ (by omega)]; exact H.ks j hj
  · rw [cell_set_ne _ _ _ _ _ (by omega)]; exact H.sz
theorem Hsh.setSize (H : Hsh w b h k held size) (n : Nat) : Hsh (w.setCell ⟨b, 73, none⟩ (.int .u64 (n : Int))) b h k held n := by
  refine ⟨H.hl, H.kl, fun j hj => ?_, fun j hj => ?_, ?_, World.cell?_setCell_same _ _ _ H.sz, fun j hj => by rw [World.frozen?_setCell]; exact H.fr j hj⟩
  · rw [cell_set_ne _ _ _ _ _ (by omega)]; exact H.hs j hj
  · rw [cell_set_ne _ _ _ _ _ (by omega)]; exact H.ks j hj
  · rw [cell_set_ne _ _ _ _ _ (by omega)]; exact H.hd
theorem Hsh.setByte (H : Hsh w b h k held size) (i : Nat) (hi : i < 64) (v : UInt8) : Hsh (w.setCell ⟨b, 8 + i, none⟩ (.int .u8 (v.toNat : Int))) b h (k.set i v) held size := by
  refine ⟨H.hl, by rw [List.length_set]; exact H.kl, fun j hj => ?_, fun j hj => ?_, ?_, ?_, fun j hj => by rw [World.frozen?_setCell]; exact H.fr j hj⟩
  · rw [cell_set_ne _ _ _ _ _ (by omega)]; exact H.hs j hj
  · rw [getD_set k i j v 0 (by rw [H.kl]; exact hi)]
    by_cases e : j = i
    · subst e; rw [if_pos rfl]; exact World.cell?_setCell_same _ _ _ (H.ks j hj)
    · rw [if_neg e, cell_set_ne _ _ _ _ _ (by omega)]; exact H.ks j hj
  · rw [cell_set_ne _ _ _ _ _ (by omega)]; exact H.hd
  · rw [cell_set_ne _ _ _ _ _ (by omega)]; exact H.sz
theorem Hsh.setWord (H : Hsh w b h k held size) (i : Nat) (hi : i < 8) (v : UInt32) : Hsh (w.setCell ⟨b, i, none⟩ (.int .u32 (v.toNat : Int))) b (h.set i v) k held size := by
  refine ⟨by rw [List.length_set]; exact H.hl, H.kl, fun j hj => ?_, fun j hj => ?_, ?_, ?_, fun j hj => by rw [World.frozen?_setCell]; exact H.fr j hj⟩
  · rw [getD_set h i j v 0 (by rw [H.hl]; exact hi)]
    by_cases e : j = i
    · subst e; rw [if_pos rfl]; exact World.cell?_setCell_same _ _ _ (H.hs j hj)
    · rw [if_neg e, cell_set_ne _ _ _ _ _ (by omega)]; exact H.hs j hj
  · rw [cell_set_ne _ _ _ _ _ (by omega)]; exact H.ks j hj
  · rw [cell_set_ne _ _ _ _ _ (by omega)]; exact H.hd
  · rw [cell_set_ne _ _ _ _ _ (by omega)]; exact H.sz
end

/-- The array of the schedule behind q rounds. -/
def arr (m : List UInt8) (q : Nat) : List UInt32 := sched m q ++ List.replicate (64 - q) 0
theorem arr_getD (m : List UInt8) (q j : Nat) (hj : j < q) : (arr m q).getD j 0 = (sched m q).getD j 0 := by
  rw [List.getD_eq_getElem?_getD, List.getD_eq_getElem?_getD, arr, List.getElem?_append_left (by rw [sched_length]; exact hj)]
theorem arr_set (m : List UInt8) (q : Nat) (hq : q < 64) (v : UInt32) : (arr m q).set q v = (sched m q ++ [v]) ++ List.replicate (64 - (q + 1)) 0 := by
  have e : 64 - q = (64 - (q + 1)) + 1 := by omega
  rw [arr, e, List.replicate_succ, List.set_append_right _ _ (by rw [sched_length]; exact Nat.le_refl _), sched_length, Nat.sub_self]
  simp
theorem arr_lo (m : List UInt8) (q p : Nat) (b0 b1 b2 b3 : UInt8) (hq : q < 16) (hp : p = 4 * q)
    (hb : m.getD p 0 = b0 ∧ m.getD (p + 1) 0 = b1 ∧ m.getD (p + 2) 0 = b2 ∧ m.getD (p + 3) 0 = b3) :
    ((arr m q).map U).set q (.int .u32 (bits BinOp.or IntKind.u32 (bits BinOp.or IntKind.u32 (bits BinOp.or IntKind.u32 (IntKind.u32.wrap (IntKind.u32.wrap (b0.toNat : Int) * 16777216)) (IntKind.u32.wrap (IntKind.u32.wrap (b1.toNat : Int) * 65536)))
      (IntKind.u32.wrap (IntKind.u32.wrap (b2.toNat : Int) * 256))) (IntKind.u32.wrap (b3.toNat : Int)))) = (arr m (q + 1)).map U := by
  rw [word_form]
  show ((arr m q).map U).set q (U _) = _
  rw [← List.map_set, arr_set m q (by omega)]
  obtain ⟨h0, h1, h2, h3⟩ := hb
  subst hp
  rw [← h0, ← h1, ← h2, ← h3]
  show _ = ((sched m q ++ [_]) ++ _).map U
  rw [if_pos hq]
theorem arr_hi (m : List UInt8) (q : Nat) (x16 x15 x7 x2 : UInt32) (hq : 16 ≤ q) (hq2 : q < 64)
    (hb : (sched m q).getD (q - 16) 0 = x16 ∧ (sched m q).getD (q - 15) 0 = x15 ∧ (sched m q).getD (q - 7) 0 = x7 ∧ (sched m q).getD (q - 2) 0 = x2) :
    ((arr m q).map U).set q (.int .u32 (IntKind.u32.wrap (IntKind.u32.wrap (IntKind.u32.wrap (((sumNear x2).toNat : Int) + x7.toNat) + (sumFar x15).toNat) + x16.toNat))) = (arr m (q + 1)).map U := by
  rw [wrap_add, wrap_add, wrap_add]
  show ((arr m q).map U).set q (U _) = _
  rw [← List.map_set, arr_set m q hq2]
  obtain ⟨h0, h1, h2, h3⟩ := hb
  rw [← h0, ← h1, ← h2, ← h3]
  show _ = ((sched m q ++ [_]) ++ _).map U
  rw [if_neg (by omega)]
  congr 4
  generalize (sched m q).getD (q - 16) 0 = a
  generalize sumFar ((sched m q).getD (q - 15) 0) = c
  generalize (sched m q).getD (q - 7) 0 = d
  generalize sumNear ((sched m q).getD (q - 2) 0) = e
  ac_rfl
theorem arr_full (m : List UInt8) : arr m 64 = sched m 64 := by simp [arr]

theorem cell_set_far (w : World) (g i b j : Nat) (v : Value) (hne : b ≠ g) : (w.setCell ⟨g, i, none⟩ v).cell? ⟨b, j, none⟩ = w.cell? ⟨b, j, none⟩ := World.cell?_setCell_other _ _ _ _ (fun e => hne (by cases e; rfl))

/-- The state with the first i words added. -/
def addTo (h v : List UInt32) : Nat → List UInt32
  | 0 => h
  | i + 1 => (addTo h v i).set i ((addTo h v i).getD i 0 + v.getD i 0)
theorem addTo_comp (m : List UInt8) (W : List UInt32) (x0 x1 x2 x3 x4 x5 x6 x7 va vb vc vd ve vf vg vz : UInt32)
    (hw : sched m 64 = W) (hr : rnds W ⟨x0, x1, x2, x3, x4, x5, x6, x7⟩ 64 = ⟨va, vb, vc, vd, ve, vf, vg, vz⟩) :
    addTo [x0, x1, x2, x3, x4, x5, x6, x7] [va, vb, vc, vd, ve, vf, vg, vz] 8 = comp [x0, x1, x2, x3, x4, x5, x6, x7] m := by
  unfold comp ofL
  rw [hw]
  show _ = [x0 + (rnds W ⟨x0, x1, x2, x3, x4, x5, x6, x7⟩ 64).a, x1 + (rnds W ⟨x0, x1, x2, x3, x4, x5, x6, x7⟩ 64).b, x2 + (rnds W ⟨x0, x1, x2, x3, x4, x5, x6, x7⟩ 64).c, x3 + (rnds W ⟨x0, x1, x2, x3, x4, x5, x6, x7⟩ 64).d,
    x4 + (rnds W ⟨x0, x1, x2, x3, x4, x5, x6, x7⟩ 64).e, x5 + (rnds W ⟨x0, x1, x2, x3, x4, x5, x6, x7⟩ 64).f, x6 + (rnds W ⟨x0, x1, x2, x3, x4, x5, x6, x7⟩ 64).g, x7 + (rnds W ⟨x0, x1, x2, x3, x4, x5, x6, x7⟩ 64).z]
  rw [hr]; rfl
theorem list8 (h : List UInt32) (hl : h.length = 8) : ∃ x0 x1 x2 x3 x4 x5 x6 x7, h = [x0, x1, x2, x3, x4, x5, x6, x7] := by
  match h, hl with
  | [x0, x1, x2, x3, x4, x5, x6, x7], _ => exact ⟨x0, x1, x2, x3, x4, x5, x6, x7, rfl⟩

end Go.Proofs.Sha
namespace Go.Proofs.Sha
open Go Go.RowKit
section
variable {P : Program} (w : World)
theorem wpList_box_row {ops : Array Oper} {rest : List Oper} {o : Oper} {a : Act} {Q : Exit → Act → World → Prop} (hgd : o.guard = none) (dst : Option Tmp) (hdst : o.dst = dst) (ty : TypeId) (x : Operand) (ho : o.op = .box ty x) (xs : List Value) (hx : a.eval x = .agg xs.toArray)
    (h : ∀ g w', Row w' w.heap.size g xs.length xs.length xs → Below w.heap.size w w' → wpList P ops Q rest (a.put dst (.pointer (some ⟨g, 0, none⟩))) w') : wpList P ops Q (o :: rest) a w := by
  refine Go.Great.wpList_runTo hgd dst hdst (.pointer (some ⟨w.heap.size, 0, none⟩)) (w.alloc (.cells xs.toArray ty)) ?_ (h _ _ ?_ ((Below.refl _ _).alloc (Nat.le_refl _) _))
  · unfold execOp
    simp only [ho, hx]
    rfl
  · have := Row.of_block (base := w.heap.size) (Nat.le_refl _) (heap_alloc_new w (.cells xs.toArray ty)) xs.length (by simp) (.inl rfl)
    simpa using this
theorem wpList_build_to {ops : Array Oper} {rest : List Oper} {o : Oper} {a : Act} {Q : Exit → Act → World → Prop} (hgd : o.guard = none) (t : TypeId) (parts : Array (Nat × Operand)) (ho : o.op = .build t parts) (cells : Array Value)
    (hb : P.built t (parts.toList.map fun (i, x) => (i, a.eval x)) = some cells)
    (h : wpList P ops Q rest (a.put o.dst (.agg cells)) w) : wpList P ops Q (o :: rest) a w := by
  rw [← Array.toList_map] at hb
  refine Go.Great.wpList_runTo hgd o.dst rfl (.agg cells) w ?_ h
  unfold execOp
  simp only [ho, Sem.run_bind, run_build w t _ cells hb, Result.andThen_ok, Sem.run_pure]
theorem ret_any {fn : Func} {R : Ending → World → Prop} {a : Act} {p : Tmp} {ty : TypeId} {d : TypeDesc} (hres : fn.results = #[.cell p ty]) (base g n cap : Nat) (xs : List Value) (ht : a.tmps.getD p undef = .pointer (some ⟨g, 0, none⟩))
    (hr : Row w base g n cap xs) (hu : P.underlying ty = some d) (hd : d.isRow = true) (hi : (P.info? ty).map (·.size) = some n) (hdef : a.defers = []) (hR : R (.returned (.agg xs.toArray)) w) : bodyPost P fn R .ret a w := by
  refine bodyPost_ret (v := .agg xs.toArray) ?_ hdef hR
  rw [results_cell w hres a.tmps _ ht]
  exact run_loadVar_mid w g 0 ty xs _ hr.range hu hd (by rw [hi, hr.len])
theorem Row.prefix {w : World} {base g n cap : Nat} {xs ys : List Value} (h : Row w base g n cap (xs ++ ys)) : w.rangeAt g 0 xs := fun j v hv => by
  refine h.range j v ?_
  rw [List.getElem?_append_left (List.getElem?_eq_some_iff.1 hv).1, hv]
end
end Go.Proofs.Sha
