import Derived.Test.YtngnbflkiiehmaaGreatDoorZa
import Derived.Deep.MidRow
import Derived.Great.Walk
import Derived.Test.YtngnbflkiiehmaaGreatDoorProg
import Derived.WalkSpells
import Derived.WalkLawsBesides
import Derived.StillTactics
import Derived.Laws.Pointers
import Derived.Deep.RegionHeld3
namespace Go.Proofs.Sha
open Go Go.RowKit Go.Great

theorem Row.range {w : World} {base g n cap : Nat} {xs : List Value} (h : Row w base g n cap xs) : w.rangeAt g 0 xs := fun j v hv => by
  have hj : j < n := by have := (List.getElem?_eq_some_iff.1 hv).1; have := h.len; omega
  rw [Nat.zero_add, h.cell j hj, hv]
theorem Row.there {w : World} {base g n cap : Nat} {xs : List Value} (h : Row w base g n cap xs) : w.there g 0 cap := fun j hj => by
  rw [Nat.zero_add]; exact ⟨h.room j hj, h.free j hj⟩

theorem Row.set {w : World} {base g n cap : Nat} {xs : List Value} (h : Row w base g n cap xs) (i : Nat) (hi : i < n) (v : Value) : Row (w.setCell ⟨g, i, none⟩ v) base g n cap (xs.set i v) := by
  have hs := grownBy_setCell w g i v
  have hle := h.le
  obtain ⟨u, hu⟩ := Option.isSome_iff_exists.1 (h.room i (by omega))
  have hc : ∀ j, j ≠ i → (w.setCell ⟨g, i, none⟩ v).cell? ⟨g, j, none⟩ = w.cell? ⟨g, j, none⟩ := fun j hj => World.cell?_setCell_other _ _ _ _ (fun e => hj (by cases e; rfl))
  have hc' : (w.setCell ⟨g, i, none⟩ v).cell? ⟨g, i, none⟩ = some v := World.cell?_setCell_same _ _ _ hu
  refine ⟨h.ge, Nat.lt_of_lt_of_le h.lt hs.size, by rw [List.length_set]; exact h.len, hle, fun j hj => ?_, fun j hj => ?_, fun j hj => by rw [World.frozen?_setCell]; exact h.free j hj⟩
  · by_cases e : j = i
    · subst e; rw [hc', List.getElem?_set_self (by rw [h.len]; exact hi)]
    · rw [hc j e, h.cell j hj, List.getElem?_set_ne (fun e' => e e'.symm)]
  · by_cases e : j = i
    · subst e; rw [hc']; rfl
    · rw [hc j e]; exact h.room j hj

theorem Row.setAll {w : World} {base g n : Nat} {xs : List Value} (h : Row w base g n n xs) (ys : List Value) (hy : ys.length = n) : Row (w.setCells g 0 ys) base g n n ys := by
  have hs := grownBy_setCells g ys 0 w
  have hin : ∀ j (hj : j < ys.length), (w.setCells g 0 ys).cell? ⟨g, 0 + j, none⟩ = some ys[j] := World.cell?_setCells_in g ys 0 w (fun j hj => by rw [Nat.zero_add]; exact h.room j (by omega))
  refine ⟨h.ge, Nat.lt_of_lt_of_le h.lt hs.size, hy, Nat.le_refl _, fun j hj => ?_, fun j hj => ?_, fun j hj => by rw [World.frozen?_setCells]; exact h.free j hj⟩
  · have := hin j (by omega)
    rw [Nat.zero_add] at this
    rw [this, List.getElem?_eq_getElem (by omega)]
  · have := hin j (by omega)
    rw [Nat.zero_add] at this
    rw [this]; rfl

section
variable {P : Program} (w : World)

theorem wpList_alloc_row {ops : Array Oper} {rest : List Oper} {o : Oper} {a : Act} {Q : Exit → Act → World → Prop} (hgd : o.guard = none) (dst : Option Tmp) (hdst : o.dst = dst) (ty ty' : TypeId) (ho : o.op = .alloc ty) (xs : List Value)
    (hrun : ∀ w : World, (Instr.alloc ty true (.tuple #[])).run P w = .ok (.pointer (some ⟨w.heap.size, 0, none⟩)) (w.alloc (.cells xs.toArray ty')))
    (h : ∀ g w', Row w' w.heap.size g xs.length xs.length xs → Below w.heap.size w w' → wpList P ops Q rest (a.put dst (.pointer (some ⟨g, 0, none⟩))) w') : wpList P ops Q (o :: rest) a w := by
  refine wpList_runTo hgd dst hdst (.pointer (some ⟨w.heap.size, 0, none⟩)) (w.alloc (.cells xs.toArray ty')) ?_ (h _ _ ?_ ((Below.refl _ _).alloc (Nat.le_refl _) _))
  · unfold execOp
    simp only [ho, Sem.run_bind, hrun, Result.andThen_ok, Sem.run_pure]
  · have := Row.of_block (base := w.heap.size) (Nat.le_refl _) (heap_alloc_new w (.cells xs.toArray ty')) xs.length (by simp) (.inl rfl)
    simpa using this

theorem wpList_load_whole {ops : Array Oper} {rest : List Oper} {o : Oper} {a : Act} {Q : Exit → Act → World → Prop} (hgd : o.guard = none) (ty : TypeId) (x : Operand) (ho : o.op = .load ty x)
    (base g n cap : Nat) (xs : List Value) (e : TypeId) (hx : a.eval x = .pointer (some ⟨g, 0, none⟩)) (hr : Row w base g n cap xs)
    (hu : P.underlying ty = some (.array n e)) (hi : (P.info? ty).map (·.size) = some n)
    (h : wpList P ops Q rest (a.put o.dst (.agg xs.toArray)) w) : wpList P ops Q (o :: rest) a w :=
  wpList_load_mid hgd ty x ho g 0 hx xs _ hr.range hu rfl (by rw [hi, hr.len]) h

theorem wpList_store_whole {ops : Array Oper} {rest : List Oper} {o : Oper} {a : Act} {Q : Exit → Act → World → Prop} (hgd : o.guard = none) (hdst : o.dst = none) (ty : TypeId) (x y : Operand) (ho : o.op = .store ty x y)
    (base g n : Nat) (xs ys : List Value) (hx : a.eval x = .pointer (some ⟨g, 0, none⟩)) (hy : a.eval y = .agg ys.toArray) (hr : Row w base g n n xs) (hl : ys.length = n)
    (hi : (P.info? ty).map (·.size) = some n) (h1 : ∀ v ∈ ys, v.oneCell' = true)
    (h : ∀ w', Row w' base g n n ys → w.grownBy w' (some g) → wpList P ops Q rest a w') : wpList P ops Q (o :: rest) a w :=
  wpList_store_mid hgd ty x y ho g 0 ys.toArray hx hy (by rw [List.size_toArray, hl]; exact hr.there) (by rw [hi, List.size_toArray, hl]) (all_oneCell_toArray h1) (by
    rw [hdst]; exact h _ (hr.setAll ys hl) (grownBy_setCells g ys 0 w))

theorem results_cell {fn : Func} {p : Tmp} {ty : TypeId} (h : fn.results = #[.cell p ty]) (tmps : Array Value) (b : Addr) (hp : tmps.getD p undef = .pointer (some b)) : (results fn tmps).run P w = (loadVar ty b).run P w := by
  have hp' : tmps[p]?.getD undef = .pointer (some b) := by simpa using hp
  simp only [results, h]
  simp [hp', asAddr]

theorem ret_row {fn : Func} {R : Ending → World → Prop} {a : Act} {p : Tmp} {ty : TypeId} (hres : fn.results = #[.cell p ty]) (base g n cap : Nat) (xs : List Value) (e : TypeId) (ht : a.tmps.getD p undef = .pointer (some ⟨g, 0, none⟩))
    (hr : Row w base g n cap xs) (hu : P.underlying ty = some (.array n e)) (hi : (P.info? ty).map (·.size) = some n) (hdef : a.defers = []) (hR : R (.returned (.agg xs.toArray)) w) : bodyPost P fn R .ret a w := by
  refine bodyPost_ret (v := .agg xs.toArray) ?_ hdef hR
  rw [results_cell w hres a.tmps _ ht]
  exact run_loadVar_mid w g 0 ty xs _ hr.range hu rfl (by rw [hi, hr.len])

theorem wpList_index_u {ops : Array Oper} {rest : List Oper} {o : Oper} {a : Act} {Q : Exit → Act → World → Prop} (hgd : o.guard = none) (t : TypeId) (x y : Operand) (ho : o.op = .index t x y)
    (L : List UInt32) (n e i : Nat) (hx : a.eval x = .agg (L.map U).toArray) (hy : a.eval y = .int .i64 (i : Int)) (hL : L.length = n) (hi : i < n)
    (hu : P.underlying t = some (.array n e)) (he : P.underlying e = some (.int .u32)) (hs : (P.info? e).map (·.size) = some 1)
    (h : wpList P ops Q rest (a.put o.dst (.int .u32 ((L.getD i 0).toNat : Int))) w) : wpList P ops Q (o :: rest) a w := by
  refine wpList_runTo hgd o.dst rfl (.int .u32 ((L.getD i 0).toNat : Int)) w ?_ h
  unfold execOp
  cases hq : P.info? e with
  | none => simp [hq] at hs
  | some ie =>
    have hs1 : ie.size = 1 := by simpa [hq] using hs
    have hc := tab_cell L i (by omega)
    simp [ho, hx, hy, Instr.index, run_underlying hu, asIntOf, sizeOf, typeInfo, hq, hs1]
    have hpart : (part e (L.map U).toArray i).run P w = .ok (.int .u32 ((L.getD i 0).toNat : Int)) w := by
      have hagg : (isAgg e).run P w = .ok false w := by
        unfold isAgg
        rw [Sem.run_bind, run_underlying he w]; rfl
      unfold part
      rw [Sem.run_bind, hagg, hc]; rfl
    rw [if_pos hi, hpart]; simp
end

/-- The hasher's block: eight words, 64 bytes, how many of them are held, the size. -/
structure Hsh (w : World) (b : Nat) (h : List UInt32) (k : List UInt8) (held size : Nat) : Prop where
  hl : h.length = 8
  kl : k.length = 64
  hs : ∀ j, j < 8 → w.cell? ⟨b, j, none⟩ = some (.int .u32 ((h.getD j 0).toNat : Int))
  ks : ∀ j, j < 64 → w.cell? ⟨b, 8 + j, none⟩ = some (.int .u8 ((k.getD j 0).toNat : Int))
  hd : w.cell? ⟨b, 72, none⟩ = some (.int .i64 (held : Int))
  sz : w.cell? ⟨b, 73, none⟩ = some (.int .u64 (size : Int))
  fr : ∀ j, j < 74 → w.frozen? ⟨b, j, none⟩ = false

theorem Hsh.lt {w : World} {b : Nat} {h : List UInt32} {k : List UInt8} {held size : Nat} (H : Hsh w b h k held size) : b < w.heap.size := World.block_lt_of_cell? w _ H.hd
theorem Hsh.kept {w w' : World} {b : Nat} {h : List UInt32} {k : List UInt8} {held size : Nat} {row : Option Nat} (H : Hsh w b h k held size) (hg : w.grownBy w' row) (hn : some b ≠ row) : Hsh w' b h k held size := by
  have hc : ∀ j, w'.cell? ⟨b, j, none⟩ = w.cell? ⟨b, j, none⟩ := fun j => hg.cell_far _ H.lt hn
  have hf : ∀ j, w'.frozen? ⟨b, j, none⟩ = w.frozen? ⟨b, j, none⟩ := fun j => hg.frozen_far _ H.lt hn
  exact ⟨H.hl, H.kl, fun j hj => (hc j).trans (H.hs j hj), fun j hj => (hc _).trans (H.ks j hj), (hc _).trans H.hd, (hc _).trans H.sz, fun j hj => (hf j).trans (H.fr j hj)⟩
theorem Hsh.below {w w' : World} {b : Nat} {h : List UInt32} {k : List UInt8} {held size : Nat} (H : Hsh w b h k held size) (hg : Below w.heap.size w w') : Hsh w' b h k held size := H.kept (grownBy_of_below hg none) (by simp)
theorem Hsh.drew {w : World} {b : Nat} {h : List UInt32} {k : List UInt8} {held size : Nat} (H : Hsh w b h k held size) : Hsh w.drew b h k held size := H.kept (grownBy_drew w none) (by simp)

theorem getD_set {α : Type} (l : List α) (i j : Nat) (v d : α) (hi : i < l.length) : (l.set i v).getD j d = if j = i then v else l.getD j d := by
  rw [List.getD_eq_getElem?_getD, List.getD_eq_getElem?_getD]
  by_cases e : j = i
  · subst e; rw [List.getElem?_set_self hi, if_pos rfl]; rfl
  · rw [List.getElem?_set_ne (fun e' => e e'.symm), if_neg e]

section
variable {w : World} {b : Nat} {h : List UInt32} {k : List UInt8} {held size : Nat}
theorem cell_set_ne (w : World) (b i j : Nat) (v : Value) (hn : j ≠ i) : (w.setCell ⟨b, i, none⟩ v).cell? ⟨b, j, none⟩ = w.cell? ⟨b, j, none⟩ := World.cell?_setCell_other _ _ _ _ (fun e => hn (by cases e; rfl))

theorem Hsh.setHeld (H : Hsh w b h k held size) (n : Nat) : Hsh (w.setCell ⟨b, 72, none⟩ (.int .i64 (n : Int))) b h k n size := by
  refine ⟨H.hl, H.kl, fun j hj => ?_, fun j hj => ?_, World.cell?_setCell_same _ _ _ H.hd, ?_, fun j hj => by rw [World.frozen?_setCell]; exact H.fr j hj⟩
  · rw [cell_set_ne _ _ _ _ _ (by omega)]; exact H.hs j hj
  · rw [cell_set_ne _ _ _ _ _ (by omega)]; exact H.ks j hj
  · rw [cell_set_ne _ _ _ _ _ (by omega)]; exact H.sz
theorem Hsh.setSize (H : Hsh w b h k held size) (n : Nat) : Hsh (w.setCell ⟨b, 73, none⟩ (.int .u64 (n : Int))) b h k held n := by
  refine ⟨H.hl, H.kl, fun j hj => ?_, fun j hj => ?_, ?_, World.cell?_setCell_same _ _ _ H.sz, fun j hj => by rw [World.frozen?_setCell]; exact H.fr j hj⟩
  · rw [cell_set_ne _ _ _ _ _ (by omega)]; exact H.hs j hj
  · rw [cell_set_ne _ _ _ _ _ (by omega)]; exact H.ks j hj
  · rw [cell_set_ne _ _ _ _ _ (by omega)]; exact H.hd
theorem Hsh.setByte (H : Hsh w b h k held size) (i : Nat) (hi : i < 64) (v : UInt8) : Hsh (w.setCell ⟨b, 8 + i, none⟩ (.int .u8 (v.toNat : Int))) b h (k.set i v) held size := by
  refine ⟨H.hl, by rw [List.length_set]; exact H.kl, fun j hj => ?_, fun j hj => ?_, ?_, ?_, fun j hj => by rw [World.frozen?_setCell]; exact H.fr j hj⟩
  · rw [cell_set_ne _ _ _ _ _ (by omega)]; exact H.hs j hj
  · rw [getD_set k i j v 0 (by rw [H.kl]; exact hi)]
    by_cases e : j = i
    · subst e; rw [if_pos rfl]; exact World.cell?_setCell_same _ _ _ (H.ks j hj)
    · rw [if_neg e, cell_set_ne _ _ _ _ _ (by omega)]; exact H.ks j hj
  · rw [cell_set_ne _ _ _ _ _ (by omega)]; exact H.hd
  · rw [cell_set_ne _ _ _ _ _ (by omega)]; exact H.sz
theorem Hsh.setWord (H : Hsh w b h k held size) (i : Nat) (hi : i < 8) (v : UInt32) : Hsh (w.setCell ⟨b, i, none⟩ (.int .u32 (v.toNat : Int))) b (h.set i v) k held size := by
  refine ⟨by rw [List.length_set]; exact H.hl, H.kl, fun j hj => ?_, fun j hj => ?_, ?_, ?_, fun j hj => by rw [World.frozen?_setCell]; exact H.fr j hj⟩
  · rw [getD_set h i j v 0 (by rw [H.hl]; exact hi)]
    by_cases e : j = i
    · subst e; rw [if_pos rfl]; exact World.cell?_setCell_same _ _ _ (H.hs j hj)
    · rw [if_neg e, cell_set_ne _ _ _ _ _ (by omega)]; exact H.hs j hj
  · rw [cell_set_ne _ _ _ _ _ (by omega)]; exact H.ks j hj
  · rw [cell_set_ne _ _ _ _ _ (by omega)]; exact H.hd
  · rw [cell_set_ne _ _ _ _ _ (by omega)]; exact H.sz
end

/-- The array of the schedule behind q rounds. -/
def arr (m : List UInt8) (q : Nat) : List UInt32 := sched m q ++ List.replicate (64 - q) 0
theorem arr_length (m : List UInt8) (q : Nat) (hq : q ≤ 64) : (arr m q).length = 64 := by simp [arr, sched_length]; omega
theorem arr_getD (m : List UInt8) (q j : Nat) (hj : j < q) : (arr m q).getD j 0 = (sched m q).getD j 0 := by
  rw [List.getD_eq_getElem?_getD, List.getD_eq_getElem?_getD, arr, List.getElem?_append_left (by rw [sched_length]; exact hj)]
theorem arr_set (m : List UInt8) (q : Nat) (hq : q < 64) (v : UInt32) : (arr m q).set q v = (sched m q ++ [v]) ++ List.replicate (64 - (q + 1)) 0 := by
  have e : 64 - q = (64 - (q + 1)) + 1 := by omega
  rw [arr, e, List.replicate_succ, List.set_append_right _ _ (by rw [sched_length]; exact Nat.le_refl _), sched_length, Nat.sub_self]
  simp
theorem arr_lo (m : List UInt8) (q p : Nat) (b0 b1 b2 b3 : UInt8) (hq : q < 16) (hp : p = 4 * q)
    (hb : m.getD p 0 = b0 ∧ m.getD (p + 1) 0 = b1 ∧ m.getD (p + 2) 0 = b2 ∧ m.getD (p + 3) 0 = b3) :
    ((arr m q).map U).set q (.int .u32 (bits BinOp.or IntKind.u32 (bits BinOp.or IntKind.u32 (bits BinOp.or IntKind.u32 (IntKind.u32.wrap (IntKind.u32.wrap (b0.toNat : Int) * 16777216)) (IntKind.u32.wrap (IntKind.u32.wrap (b1.toNat : Int) * 65536)))
      (IntKind.u32.wrap (IntKind.u32.wrap (b2.toNat : Int) * 256))) (IntKind.u32.wrap (b3.toNat : Int)))) = (arr m (q + 1)).map U := by
  rw [word_form]
  show ((arr m q).map U).set q (U _) = _
  rw [← List.map_set, arr_set m q (by omega)]
  obtain ⟨h0, h1, h2, h3⟩ := hb
  subst hp
  rw [← h0, ← h1, ← h2, ← h3]
  show _ = ((sched m q ++ [_]) ++ _).map U
  rw [if_pos hq]
theorem arr_hi (m : List UInt8) (q : Nat) (x16 x15 x7 x2 : UInt32) (hq : 16 ≤ q) (hq2 : q < 64)
    (hb : (sched m q).getD (q - 16) 0 = x16 ∧ (sched m q).getD (q - 15) 0 = x15 ∧ (sched m q).getD (q - 7) 0 = x7 ∧ (sched m q).getD (q - 2) 0 = x2) :
    ((arr m q).map U).set q (.int .u32 (IntKind.u32.wrap (IntKind.u32.wrap (IntKind.u32.wrap (((sumNear x2).toNat : Int) + x7.toNat) + (sumFar x15).toNat) + x16.toNat))) = (arr m (q + 1)).map U := by
  rw [wrap_add, wrap_add, wrap_add]
  show ((arr m q).map U).set q (U _) = _
  rw [← List.map_set, arr_set m q hq2]
  obtain ⟨h0, h1, h2, h3⟩ := hb
  rw [← h0, ← h1, ← h2, ← h3]
  show _ = ((sched m q ++ [_]) ++ _).map U
  rw [if_neg (by omega)]
  congr 4
  generalize (sched m q).getD (q - 16) 0 = a
  generalize sumFar ((sched m q).getD (q - 15) 0) = c
  generalize (sched m q).getD (q - 7) 0 = d
  generalize sumNear ((sched m q).getD (q - 2) 0) = e
  ac_rfl
theorem arr_full (m : List UInt8) : arr m 64 = sched m 64 := by simp [arr]

theorem cell_set_far (w : World) (g i b j : Nat) (v : Value) (hne : b ≠ g) : (w.setCell ⟨g, i, none⟩ v).cell? ⟨b, j, none⟩ = w.cell? ⟨b, j, none⟩ := World.cell?_setCell_other _ _ _ _ (fun e => hne (by cases e; rfl))

/-- The state with the first i words added. -/
def addTo (h v : List UInt32) : Nat → List UInt32
  | 0 => h
  | i + 1 => (addTo h v i).set i ((addTo h v i).getD i 0 + v.getD i 0)
theorem addTo_comp (m : List UInt8) (W : List UInt32) (x0 x1 x2 x3 x4 x5 x6 x7 va vb vc vd ve vf vg vz : UInt32)
    (hw : sched m 64 = W) (hr : rnds W ⟨x0, x1, x2, x3, x4, x5, x6, x7⟩ 64 = ⟨va, vb, vc, vd, ve, vf, vg, vz⟩) :
    addTo [x0, x1, x2, x3, x4, x5, x6, x7] [va, vb, vc, vd, ve, vf, vg, vz] 8 = comp [x0, x1, x2, x3, x4, x5, x6, x7] m := by
  unfold comp ofL
  rw [hw]
  show _ = [x0 + (rnds W ⟨x0, x1, x2, x3, x4, x5, x6, x7⟩ 64).a, x1 + (rnds W ⟨x0, x1, x2, x3, x4, x5, x6, x7⟩ 64).b, x2 + (rnds W ⟨x0, x1, x2, x3, x4, x5, x6, x7⟩ 64).c, x3 + (rnds W ⟨x0, x1, x2, x3, x4, x5, x6, x7⟩ 64).d,
    x4 + (rnds W ⟨x0, x1, x2, x3, x4, x5, x6, x7⟩ 64).e, x5 + (rnds W ⟨x0, x1, x2, x3, x4, x5, x6, x7⟩ 64).f, x6 + (rnds W ⟨x0, x1, x2, x3, x4, x5, x6, x7⟩ 64).g, x7 + (rnds W ⟨x0, x1, x2, x3, x4, x5, x6, x7⟩ 64).z]
  rw [hr]; rfl
theorem list8 (h : List UInt32) (hl : h.length = 8) : ∃ x0 x1 x2 x3 x4 x5 x6 x7, h = [x0, x1, x2, x3, x4, x5, x6, x7] := by
  match h, hl with
  | [x0, x1, x2, x3, x4, x5, x6, x7], _ => exact ⟨x0, x1, x2, x3, x4, x5, x6, x7, rfl⟩

end Go.Proofs.Sha
namespace Go.Proofs.YtngnbflkiiehmaaGreatDoor
open Go.RowKit Go.Proofs.Sha

theorem and31 (n : Nat) (hn : n ≤ 31) (h1 : 1 ≤ n) : bits BinOp.and IntKind.u64 (IntKind.u64.wrap (-(n:Int))) 31 = ((32 - n : Nat) : Int) := by
  have : n = 1 ∨ n = 2 ∨ n = 3 ∨ n = 4 ∨ n = 5 ∨ n = 6 ∨ n = 7 ∨ n = 8 ∨ n = 9 ∨ n = 10 ∨ n = 11 ∨ n = 12 ∨ n = 13 ∨ n = 14 ∨ n = 15 ∨ n = 16 ∨ n = 17 ∨ n = 18 ∨ n = 19 ∨ n = 20 ∨ n = 21 ∨ n = 22 ∨ n = 23 ∨ n = 24 ∨ n = 25 ∨ n = 26 ∨ n = 27 ∨ n = 28 ∨ n = 29 ∨ n = 30 ∨ n = 31 := by omega
  rcases this with h|h|h|h|h|h|h|h|h|h|h|h|h|h|h|h|h|h|h|h|h|h|h|h|h|h|h|h|h|h|h <;> subst h <;> decide

set_option maxHeartbeats 400000 in
theorem rot_any (x : UInt32) (m : Int) (h1 : m ≤ -1) (h2 : -31 ≤ m) (w : World) :
    Calls Tryz.prog 62 #[.int .u32 x.toNat, .int .i64 m] w fun e w' => e = .returned (.int .u32 (turn x (-m).toNat).toNat) ∧ w = w' := by
  obtain ⟨n, hn⟩ := Int.eq_ofNat_of_zero_le (show 0 ≤ -m by omega)
  obtain rfl : m = -(n : Int) := by omega
  rw [Int.neg_neg, Int.toNat_natCast]
  clear hn
  have hn1 : 1 ≤ n := by omega
  have hn2 : n ≤ 31 := by omega
  have ha := and31 n hn2 hn1
  go_enter Tryz.func62, Tryz.ntmps62
  go_wp2
  go_ret
  exact ⟨ret_int (by rw [show 32 - (32 - n) = n from by omega]; exact turn_impl x n), rfl⟩

def zeros32 : List UInt32 := List.replicate 64 0
theorem alloc46 (w : World) : (Instr.alloc 104 true (.tuple #[])).run Tryz.prog w = .ok (.pointer (some ⟨w.heap.size, 0, none⟩)) (w.alloc (.cells (zeros32.map U).toArray 104)) := by kernel_rfl
theorem size46 : (Tryz.prog.info? 104).map (·.size) = some 64 := by kernel_rfl

set_option maxRecDepth 100000 in
set_option maxHeartbeats 800000 in
theorem isched_any (b : Nat) (h : List UInt32) (kb : List UInt8) (held size : Nat) (w : World) (H : Hsh w b h kb held size) :
    Calls Tryz.prog 61 #[.pointer (some ⟨b, 0, none⟩)] w fun e w' => e = .returned (.agg ((sched kb 64).map U).toArray) ∧ Below w.heap.size w w' := by
  have hbl := H.lt
  go_enter Tryz.func61, Tryz.ntmps61
  go_wp2_with (first | (refine wpList_alloc_row _ rfl (some 2) rfl 104 104 rfl (zeros32.map U) alloc46 ?_; intro g2 w2 hr2 hb2) | (refine wpList_alloc_row _ rfl (some 3) rfl 104 104 rfl (zeros32.map U) alloc46 ?_; intro g3 w3 hr3 hb3))
  have hr2' : Row w2 w.heap.size g2 64 64 (zeros32.map U) := hr2
  have hr3' : Row w3 w2.heap.size g3 64 64 ((arr kb 0).map U) := hr3
  have h2 := hb2.size
  have h3 := hb3.size
  have hl2 := hr2.lt
  have hg3 := hr3.ge
  have hg2 := hr2.ge
  have HR2 : Row w3 w.heap.size g2 64 64 (zeros32.map U) := hr2'.below hb3
  have HH : Hsh w3 b h kb held size := (H.below hb2).below hb3
  have hbw : Below w.heap.size w w3 := hb2.trans (hb3.mono h2)
  clear hr2 hr3 hr2' H hb2 hb3
  go_loopw [4] (fun i wr => ∃ q : Nat, q ≤ 16 ∧ i = .int .i64 (q : Int) ∧ Row wr w2.heap.size g3 64 64 ((arr kb q).map U) ∧ w3.grownBy wr (some g3)) (fun i _ => 16 - (intOf i).toNat)
  case atStart => exact ⟨0, by omega, rfl, hr3', grownBy_refl _ _⟩
  case round =>
    clear hr3'
    obtain ⟨q, hq, rfl, hrow, hgr⟩ := hrel
    have hne : b ≠ g3 := by omega
    have hH : Hsh wr b h kb held size := HH.kept hgr (by simp; omega)
    by_cases hlt : q < 16
    · obtain ⟨p, hp⟩ : ∃ p, p = 4 * q := ⟨_, rfl⟩
      have c0 := hH.ks p (by omega)
      have c1 := hH.ks (p + 1) (by omega)
      have c2 := hH.ks (p + 2) (by omega)
      have c3 := hH.ks (p + 3) (by omega)
      generalize hb0 : kb.getD p 0 = b0 at c0
      generalize hb1 : kb.getD (p + 1) 0 = b1 at c1
      generalize hb2 : kb.getD (p + 2) 0 = b2 at c2
      generalize hb3 : kb.getD (p + 3) 0 = b3 at c3
      have HB : Hid (kb.getD p 0 = b0 ∧ kb.getD (p + 1) 0 = b1 ∧ kb.getD (p + 2) 0 = b2 ∧ kb.getD (p + 3) 0 = b3) := ⟨hb0, hb1, hb2, hb3⟩
      clear hb0 hb1 hb2 hb3 hH
      have ct := row_u hrow q (by omega)
      have cf := hrow.free q (by omega)
      have w0 : IntKind.i64.wrap (4 * (q : Int)) = (p : Int) := by rw [wrap_i64_in _ (by omega) (by omega)]; omega
      have q0 : (0 : Int) ≤ (p : Int) := by omega
      have q1 : (p : Int) < 64 := by omega
      have q2 : (p : Int) + 1 < 64 := by omega
      have q3 : (p : Int) + 2 < 64 := by omega
      have q4 : (p : Int) + 3 < 64 := by omega
      have w1 : IntKind.i64.wrap ((p : Int) + 1) = (p : Int) + 1 := wrap_i64_in _ (by omega) (by omega)
      have r1 : (0 : Int) ≤ (p : Int) + 1 := by omega
      have t1 : ((p : Int) + 1).toNat = p + 1 := by omega
      have wp2 : IntKind.i64.wrap ((p : Int) + 2) = (p : Int) + 2 := wrap_i64_in _ (by omega) (by omega)
      have r2 : (0 : Int) ≤ (p : Int) + 2 := by omega
      have t2 : ((p : Int) + 2).toNat = p + 2 := by omega
      have wp3 : IntKind.i64.wrap ((p : Int) + 3) = (p : Int) + 3 := wrap_i64_in _ (by omega) (by omega)
      have r3 : (0 : Int) ≤ (p : Int) + 3 := by omega
      have t3 : ((p : Int) + 3).toNat = p + 3 := by omega
      have s0 : (0 : Int) ≤ (q : Int) := by omega
      have s1 : (q : Int) < 64 := by omega
      have HP : Hid (p = 4 * q) := hp
      clear hp
      go_wp2_with fail
      go_region_held3 (fun w' => w'.cell? ⟨b, 8 + p, none⟩ = some (.int .u8 (b0.toNat : Int)) ∧ w'.cell? ⟨b, 8 + (p + 1), none⟩ = some (.int .u8 (b1.toNat : Int)) ∧ w'.cell? ⟨b, 8 + (p + 2), none⟩ = some (.int .u8 (b2.toNat : Int)) ∧ w'.cell? ⟨b, 8 + (p + 3), none⟩ = some (.int .u8 (b3.toNat : Int)))
        (first | exact ⟨c0, c1, c2, c3⟩ | exact ⟨(cell_set_far _ _ _ _ _ _ hne).trans c0, (cell_set_far _ _ _ _ _ _ hne).trans c1, (cell_set_far _ _ _ _ _ _ hne).trans c2, (cell_set_far _ _ _ _ _ _ hne).trans c3⟩) (fail)
      rw [word_form]
      go_wp2
      go_roundw
      case rel =>
        refine ⟨q + 1, by omega, by go_num, ?_, ?_⟩
        · rw [← arr_lo kb q p b0 b1 b2 b3 hlt HP.out HB.out, word_form]; exact (hrow.set q (by omega) _).drew
        · exact grownBy_drewR (grownBy_trans hgr (grownBy_setCell _ _ _ _))
      case measure => simp [intOf]; omega
    · obtain rfl : q = 16 := by omega
      obtain ⟨w4, rfl⟩ : ∃ w4, w4 = wr := ⟨_, rfl⟩
      clear hH
      go_wp2_with fail
      go_loopw [5] (fun i wr => ∃ q : Nat, 16 ≤ q ∧ q ≤ 64 ∧ i = .int .i64 (q : Int) ∧ Row wr w2.heap.size g3 64 64 ((arr kb q).map U) ∧ w3.grownBy wr (some g3)) (fun i _ => 64 - (intOf i).toNat)
      case atStart => exact ⟨16, by omega, by omega, rfl, hrow, hgr⟩
      case round =>
        clear hrow hgr
        obtain ⟨q, hq16, hq, rfl, hrow, hgr⟩ := hrel
        by_cases hlt : q < 64
        · have c15 := row_u hrow (q - 15) (by omega)
          have c2 := row_u hrow (q - 2) (by omega)
          have c16 := row_u hrow (q - 16) (by omega)
          have c7 := row_u hrow (q - 7) (by omega)
          have ct := row_u hrow q (by omega)
          have cf := hrow.free q (by omega)
          rw [arr_getD kb q _ (by omega)] at c15 c2 c16 c7
          generalize h15 : (sched kb q).getD (q - 15) 0 = x15 at *
          generalize h2' : (sched kb q).getD (q - 2) 0 = x2 at *
          generalize h16' : (sched kb q).getD (q - 16) 0 = x16 at *
          generalize h7 : (sched kb q).getD (q - 7) 0 = x7 at *
          have HB : Hid ((sched kb q).getD (q - 16) 0 = x16 ∧ (sched kb q).getD (q - 15) 0 = x15 ∧ (sched kb q).getD (q - 7) 0 = x7 ∧ (sched kb q).getD (q - 2) 0 = x2) := ⟨h16', h15, h7, h2'⟩
          clear h15 h2' h16' h7
          have k1 : (q : Int) - 16 < 64 := by omega
          have k2 : (q : Int) - 7 < 64 := by omega
          have k3 : (q : Int) - 15 < 64 := by omega
          have k4 : (q : Int) - 2 < 64 := by omega
          have k5 : (q : Int) < 64 := by omega
          have k6 : (0 : Int) ≤ (q : Int) := by omega
          have w1 : IntKind.i64.wrap ((q : Int) - 16) = (q : Int) - 16 := wrap_i64_in _ (by omega) (by omega)
          have r1 : (16 : Int) ≤ (q : Int) := by omega
          have t1 : ((q : Int) - 16).toNat = q - 16 := by omega
          have w2' : IntKind.i64.wrap ((q : Int) - 7) = (q : Int) - 7 := wrap_i64_in _ (by omega) (by omega)
          have r2 : (7 : Int) ≤ (q : Int) := by omega
          have t2 : ((q : Int) - 7).toNat = q - 7 := by omega
          have w3' : IntKind.i64.wrap ((q : Int) - 15) = (q : Int) - 15 := wrap_i64_in _ (by omega) (by omega)
          have r3 : (15 : Int) ≤ (q : Int) := by omega
          have t3 : ((q : Int) - 15).toNat = q - 15 := by omega
          have w4' : IntKind.i64.wrap ((q : Int) - 2) = (q : Int) - 2 := wrap_i64_in _ (by omega) (by omega)
          have r4 : (2 : Int) ≤ (q : Int) := by omega
          have t4 : ((q : Int) - 2).toNat = q - 2 := by omega
          go_wp2_with fail
          go_region_held3 (fun w' => w'.cell? ⟨g3, q - 2, none⟩ = some (.int .u32 (x2.toNat : Int)) ∧ w'.cell? ⟨g3, q - 15, none⟩ = some (.int .u32 (x15.toNat : Int))) (exact ⟨c2, c15⟩) (fail)
          go_wp2_with (go_at_call 62; refine (rot_any _ _ (by omega) (by omega) _).mono ?_; rintro e w' ⟨rfl, rfl⟩)
          rw [far_form, near_form]
          generalize hs0 : sumFar x15 = sf at *
          generalize hs1 : sumNear x2 = sn at *
          have HS : Hid (sumFar x15 = sf ∧ sumNear x2 = sn) := ⟨hs0, hs1⟩
          clear hs0 hs1
          go_region_held3 (fun w' => w'.cell? ⟨g3, q - 7, none⟩ = some (.int .u32 (x7.toNat : Int)) ∧ w'.cell? ⟨g3, q - 16, none⟩ = some (.int .u32 (x16.toNat : Int))) (first | exact ⟨c7, c16⟩ | exact ⟨(cell_set_ne _ _ _ _ _ (by omega)).trans c7, (cell_set_ne _ _ _ _ _ (by omega)).trans c16⟩) (fail)
          rw [wrap_add, wrap_add, wrap_add]
          generalize hv : sn + x7 + sf + x16 = nv
          have HV : Hid (sn + x7 + sf + x16 = nv) := hv
          clear hv
          go_wp2
          go_roundw
          case rel =>
            have e := arr_hi kb q x16 x15 x7 x2 hq16 hlt HB.out
            rw [HS.out.1, HS.out.2, wrap_add, wrap_add, wrap_add, HV.out] at e
            (repeat apply Exists.intro)
            refine ⟨⟨q + 1, by omega, by omega, by go_num, ?_, ?_⟩, rfl⟩
            · rw [← e]; exact (hrow.set q (by omega) _).drew.drew
            · exact grownBy_drewR (grownBy_drewR (grownBy_trans hgr (grownBy_setCell _ _ _ _)))
          case measure => simp [intOf]; omega
        · obtain rfl : q = 64 := by omega
          have hR2 : Row wr w.heap.size g2 64 64 (zeros32.map U) := HR2.kept hgr (by simp; omega)
          rw [arr_full] at hrow
          have hln : ((sched kb 64).map U).length = 64 := by rw [List.length_map, sched_length]
          have h1c : ∀ v ∈ (sched kb 64).map U, v.oneCell' = true := by
            intro v hv
            obtain ⟨x, _, rfl⟩ := List.mem_map.1 hv
            rfl
          have HF : Hid (∀ N, N = 64 → Row wr w2.heap.size g3 64 64 ((sched kb N).map U) ∧ ((sched kb N).map U).length = 64 ∧ ∀ v ∈ (sched kb N).map U, v.oneCell' = true) := fun N hN => by subst hN; exact ⟨hrow, hln, h1c⟩
          clear hrow hln h1c
          obtain ⟨L, hL⟩ : ∃ L, (sched kb 64).map U = L := ⟨_, rfl⟩
          have HL : Hid (∀ N, N = 64 → (sched kb N).map U = L) := fun N hN => by subst hN; exact hL
          have F := HF.out 64 rfl
          rw [hL] at F
          obtain ⟨F1, F2, F3⟩ := F
          clear hL HF
          go_wp2_with (first | (refine wpList_load_whole _ rfl 104 (.tmp 3) rfl w2.heap.size g3 64 64 L 77 rfl F1 Tryz.underlying104 size46 ?_) | (refine wpList_store_whole _ rfl rfl 104 (.tmp 2) (.tmp 100) rfl w.heap.size g2 64 (zeros32.map U) L rfl rfl hR2 F2 size46 F3 ?_; intro w5 hR5 hg5))
          refine ret_row _ (p := 2) (ty := 104) rfl w.heap.size g2 64 64 L 77 rfl hR5 Tryz.underlying104 size46 rfl ?_
          refine ⟨?_, ?_⟩
          · rw [← HL.out 64 rfl]
          · exact (hbw.trans (below_of_grown hgr (by omega) (by omega))).trans (below_of_grown hg5 (by omega) (by have := hgr.size; omega))
end Go.Proofs.YtngnbflkiiehmaaGreatDoor
