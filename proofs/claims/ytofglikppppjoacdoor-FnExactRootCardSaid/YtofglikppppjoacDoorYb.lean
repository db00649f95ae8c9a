import Derived.Test.YtofglikppppjoacDoorYa
import Derived.Deep.MidRow
import Derived.Great.Walk
import Derived.Test.YtofglikppppjoacDoorProg
import Derived.WalkSpells
import Derived.WalkLawsBesides
import Derived.StillTactics
import Derived.Laws.Pointers
import Derived.Deep.RegionHeld3
import Derived.Carry
import Derived.Deep.Cut
import Derived.Laws.MakeOwn
import Derived.Laws.OwnMore
namespace Go.Proofs.Sha
open Go Go.RowKit Go.Great

theorem Row.range {w : World} {base g n cap : Nat} {xs : List Value} (h : Row w base g n cap xs) : w.rangeAt g 0 xs := fun j v hv => by
  have hj : j < n := by have := (List.getElem?_eq_some_iff.1 hv).1; have := h.len; omega
  rw [Nat.zero_add, h.cell j hj, hv]
theorem Row.there {w : World} {base g n cap : Nat} {xs : List Value} (h : Row w base g n cap xs) : w.there g 0 cap := fun j hj => by
  rw [Nat.zero_add]; exact ⟨h.room j hj, h.free j hj⟩

theorem Row.set {w : World} {base g n cap : Nat} {xs : List Value} (h : Row w base g n cap xs) (i : Nat) (hi : i < n) (v : Value) : Row (w.setCell ⟨g, i, none⟩ v) base g n cap (xs.set i v) := by
  have hs := grownBy_setCell w g i v
  have hle := h.le
  obtain ⟨u, hu⟩ := Option.isSome_iff_exists.1 (h.room i (by omega))
  have hc : ∀ j, j ≠ i → (w.setCell ⟨g, i, none⟩ v).cell? ⟨g, j, none⟩ = w.cell? ⟨g, j, none⟩ := fun j hj => World.cell?_setCell_other _ _ _ _ (fun e => hj (by cases e; rfl))
  have hc' : (w.setCell ⟨g, i, none⟩ v).cell? ⟨g, i, none⟩ = some v := World.cell?_setCell_same _ _ _ hu
  refine ⟨h.ge, Nat.lt_of_lt_of_le h.lt hs.size, by rw [List.length_set]; exact h.len, hle, fun j hj => ?_, fun j hj => ?_, fun j hj => by rw [World.frozen?_setCell]; exact h.free j hj⟩
  · by_cases e : j = i
    · subst e; rw [hc', List.getElem?_set_self (by rw [h.len]; exact hi)]
    · rw [hc j e, h.cell j hj, List.getElem?_set_ne (fun e' => e e'.symm)]
  · by_cases e : j = i
    · subst e; rw [hc']; rfl
    · rw [hc j e]; exact h.room j hj

theorem Row.setAll {w : World} {base g n : Nat} {xs : List Value} (h : Row w base g n n xs) (ys : List Value) (hy : ys.length = n) : Row (w.setCells g 0 ys) base g n n ys := by
  have hs := grownBy_setCells g ys 0 w
  have hin : ∀ j (hj : j < ys.length), (w.setCells g 0 ys).cell? ⟨g, 0 + j, none⟩ = some ys[j] := World.cell?_setCells_in g ys 0 w (fun j hj => by rw [Nat.zero_add]; exact h.room j (by omega))
  refine ⟨h.ge, Nat.lt_of_lt_of_le h.lt hs.size, hy, Nat.le_refl _, fun j hj => ?_, fun j hj => ?_, fun j hj => by rw [World.frozen?_setCells]; exact h.free j hj⟩
  · have := hin j (by omega)
    rw [Nat.zero_add] at this
    rw [this, List.getElem?_eq_getElem (by omega)]
  · have := hin j (by omega)
    rw [Nat.zero_add] at this
    rw [this]; rfl

section
variable {P : Program} (w : World)

theorem wpList_alloc_row {ops : Array Oper} {rest : List Oper} {o : Oper} {a : Act} {Q : Exit → Act → World → Prop} (hgd : o.guard = none) (dst : Option Tmp) (hdst : o.dst = dst) (ty ty' : TypeId) (ho : o.op = .alloc ty) (xs : List Value)
    (hrun : ∀ w : World, (Instr.alloc ty true (.tuple #[])).run P w = .ok (.pointer (some ⟨w.heap.size, 0, none⟩)) (w.alloc (.cells xs.toArray ty')))
    (h : ∀ g w', Row w' w.heap.size g xs.length xs.length xs → Below w.heap.size w w' → wpList P ops Q rest (a.put dst (.pointer (some ⟨g, 0, none⟩))) w') : wpList P ops Q (o :: rest) a w := by
  refine wpList_runTo hgd dst hdst (.pointer (some ⟨w.heap.size, 0, none⟩)) (w.alloc (.cells xs.toArray ty')) ?_ (h _ _ ?_ ((Below.refl _ _).alloc (Nat.le_refl _) _))
  · unfold execOp
    simp only [ho, Sem.run_bind, hrun, Result.andThen_ok, Sem.run_pure]
  · have := Row.of_block (base := w.heap.size) (Nat.le_refl _) (heap_alloc_new w (.cells xs.toArray ty')) xs.length (by simp) (.inl rfl)
    simpa using this

theorem wpList_load_whole {ops : Array Oper} {rest : List Oper} {o : Oper} {a : Act} {Q : Exit → Act → World → Prop} (hgd : o.guard = none) (ty : TypeId) (x : Operand) (ho : o.op = .load ty x)
    (base g n cap : Nat) (xs : List Value) (e : TypeId) (hx : a.eval x = .pointer (some ⟨g, 0, none⟩)) (hr : Row w base g n cap xs)
    (hu : P.underlying ty = some (.array n e)) (hi : (P.info? ty).map (·.size) = some n)
    (h : wpList P ops Q rest (a.put o.dst (.agg xs.toArray)) w) : wpList P ops Q (o :: rest) a w :=
  wpList_load_mid hgd ty x ho g 0 hx xs _ hr.range hu rfl (by rw [hi, hr.len]) h

theorem wpList_store_whole {ops : Array Oper} {rest : List Oper} {o : Oper} {a : Act} {Q : Exit → Act → World → Prop} (hgd : o.guard = none) (hdst : o.dst = none) (ty : TypeId) (x y : Operand) (ho : o.op = .store ty x y)
    (base g n : Nat) (xs ys : List Value) (hx : a.eval x = .pointer (some ⟨g, 0, none⟩)) (hy : a.eval y = .agg ys.toArray) (hr : Row w base g n n xs) (hl : ys.length = n)
    (hi : (P.info? ty).map (·.size) = some n) (h1 : ∀ v ∈ ys, v.oneCell' = true)
    (h : ∀ w', Row w' base g n n ys → w.grownBy w' (some g) → wpList P ops Q rest a w') : wpList P ops Q (o :: rest) a w :=
  wpList_store_mid hgd ty x y ho g 0 ys.toArray hx hy (by rw [List.size_toArray, hl]; exact hr.there) (by rw [hi, List.size_toArray, hl]) (all_oneCell_toArray h1) (by
    rw [hdst]; exact h _ (hr.setAll ys hl) (grownBy_setCells g ys 0 w))

theorem results_cell {fn : Func} {p : Tmp} {ty : TypeId} (h : fn.results = #[.cell p ty]) (tmps : Array Value) (b : Addr) (hp : tmps.getD p undef = .pointer (some b)) : (results fn tmps).run P w = (loadVar ty b).run P w := by
  have hp' : tmps[p]?.getD undef = .pointer (some b) := by simpa using hp
  simp only [results, h]
  simp [hp', asAddr]

theorem ret_row {fn : Func} {R : Ending → World → Prop} {a : Act} {p : Tmp} {ty : TypeId} (hres : fn.results = #[.cell p ty]) (base g n cap : Nat) (xs : List Value) (e : TypeId) (ht : a.tmps.getD p undef = .pointer (some ⟨g, 0, none⟩))
    (hr : Row w base g n cap xs) (hu : P.underlying ty = some (.array n e)) (hi : (P.info? ty).map (·.size) = some n) (hdef : a.defers = []) (hR : R (.returned (.agg xs.toArray)) w) : bodyPost P fn R .ret a w := by
  refine bodyPost_ret (v := .agg xs.toArray) ?_ hdef hR
  rw [results_cell w hres a.tmps _ ht]
  exact run_loadVar_mid w g 0 ty xs _ hr.range hu rfl (by rw [hi, hr.len])

theorem wpList_index_u {ops : Array Oper} {rest : List Oper} {o : Oper} {a : Act} {Q : Exit → Act → World → Prop} (hgd : o.guard = none) (t : TypeId) (x y : Operand) (ho : o.op = .index t x y)
    (L : List UInt32) (n e i : Nat) (hx : a.eval x = .agg (L.map U).toArray) (hy : a.eval y = .int .i64 (i : Int)) (hL : L.length = n) (hi : i < n)
    (hu : P.underlying t = some (.array n e)) (he : P.underlying e = some (.int .u32)) (hs : (P.info? e).map (·.size) = some 1)
    (h : wpList P ops Q rest (a.put o.dst (.int .u32 ((L.getD i 0).toNat : Int))) w) : wpList P ops Q (o :: rest) a w := by
  refine wpList_runTo hgd o.dst rfl (.int .u32 ((L.getD i 0).toNat : Int)) w ?_ h
  unfold execOp
  cases hq : P.info? e with
  | none => simp [hq] at hs
  | some ie =>
    have hs1 : ie.size = 1 := by simpa [hq] using hs
    have hc := tab_cell L i (by omega)
    simp [ho, hx, hy, Instr.index, run_underlying hu, asIntOf, sizeOf, typeInfo, hq, hs1]
    have hpart : (part e (L.map U).toArray i).run P w = .ok (.int .u32 ((L.getD i 0).toNat : Int)) w := by
      have hagg : (isAgg e).run P w = .ok false w := by
        unfold isAgg
        rw [Sem.run_bind, run_underlying he w]; rfl
      unfold part
      rw [Sem.run_bind, hagg, hc]; rfl
    rw [if_pos hi, hpart]; simp
end

/-- The hasher's block: eight words, 64 bytes, how many of them are held, the size. -/
structure Hsh (w : World) (b : Nat) (h : List UInt32) (k : List UInt8) (held size : Nat) : Prop where
  hl : h.length = 8
  kl : k.length = 64
  hs : ∀ j, j < 8 → w.cell? ⟨b, j, none⟩ = some (.int .u32 ((h.getD j 0).toNat : Int))
  ks : ∀ j, j < 64 → w.cell? ⟨b, 8 + j, none⟩ = some (.int .u8 ((k.getD j 0).toNat : Int))
  hd : w.cell? ⟨b, 72, none⟩ = some (.int .i64 (held : Int))
  sz : w.cell? ⟨b, 73, none⟩ = some (.int .u64 (size : Int))
  fr : ∀ j, j < 74 → w.frozen? ⟨b, j, none⟩ = false

theorem Hsh.lt {w : World} {b : Nat} {h : List UInt32} {k : List UInt8} {held size : Nat} (H : Hsh w b h k held size) : b < w.heap.size := World.block_lt_of_cell? w _ H.hd
theorem Hsh.kept {w w' : World} {b : Nat} {h : List UInt32} {k : List UInt8} {held size : Nat} {row : Option Nat} (H : Hsh w b h k held size) (hg : w.grownBy w' row) (hn : some b ≠ row) : Hsh w' b h k held size := by
  have hc : ∀ j, w'.cell? ⟨b, j, none⟩ = w.cell? ⟨b, j, none⟩ := fun j => hg.cell_far _ H.lt hn
  have hf : ∀ j, w'.frozen? ⟨b, j, none⟩ = w.frozen? ⟨b, j, none⟩ := fun j => hg.frozen_far _ H.lt hn
  exact ⟨H.hl, H.kl, fun j hj => (hc j).trans (H.hs j hj), fun j hj => (hc _).trans (H.ks j hj), (hc _).trans H.hd, (hc _).trans H.sz, fun j hj => (hf j).trans (H.fr j hj)⟩
theorem Hsh.below {w w' : World} {b : Nat} {h : List UInt32} {k : List UInt8} {held size : Nat} (H : Hsh w b h k held size) (hg : Below w.heap.size w w') : Hsh w' b h k held size := H.kept (grownBy_of_below hg none) (by simp)
theorem Hsh.drew {w : World} {b : Nat} {h : List UInt32} {k : List UInt8} {held size : Nat} (H : Hsh w b h k held size) : Hsh w.drew b h k held size := H.kept (grownBy_drew w none) (by simp)

theorem getD_set {α : Type} (l : List α) (i j : Nat) (v d : α) (hi : i < l.length) : (l.set i v).getD j d = if j = i then v else l.getD j d := by
  rw [List.getD_eq_getElem?_getD, List.getD_eq_getElem?_getD]
  by_cases e : j = i
  · subst e; rw [List.getElem?_set_self hi, if_pos rfl]; rfl
  · rw [List.getElem?_set_ne (fun e' => e e'.symm), if_neg e]

section
variable {w : World} {b : Nat} {h : List UInt32} {k : List UInt8} {held size : Nat}
theorem cell_set_ne (w : World) (b i j : Nat) (v : Value) (hn : j ≠ i) : (w.setCell ⟨b, i, none⟩ v).cell? ⟨b, j, none⟩ = w.cell? ⟨b, j, none⟩ := World.cell?_setCell_other _ _ _ _ (fun e => hn (by cases e; rfl))

theorem Hsh.setHeld (H : Hsh w b h k held size) (n : Nat) : Hsh (w.setCell ⟨b, 72, none⟩ (.int .i64 (n : Int))) b h k n size := by
  refine ⟨H.hl, H.kl, fun j hj => ?_, fun j hj => ?_, World.cell?_setCell_same _ _ _ H.hd, ?_, fun j hj => by rw [World.frozen?_setCell]; exact H.fr j hj⟩
  · rw [cell_set_ne _ _ _ _ _ (by omega)]; exact H.hs j hj
  · rw [cell_set_ne _ _ _ _ _ (by omega)]; exact H.ks j hj
  · rw [cell_set_ne _ _ _ _ _ (by omega)]; exact H.sz
theorem Hsh.setSize (H : Hsh w b h k held size) (n : Nat) : Hsh (w.setCell ⟨b, 73, none⟩ (.int .u64 (n : Int))) b h k held n := by
  refine ⟨H.hl, H.kl, fun j hj => ?_, fun j hj => ?_, ?_, World.cell?_setCell_same _ _ _ H.sz, fun j hj => by rw [World.frozen?_setCell]; exact H.fr j hj⟩
  · rw [cell_set_ne _ _ _ _ _ (by omega)]; exact H.hs j hj
  · rw [cell_set_ne _ _ _ _ _ (by omega)]; exact H.ks j hj
  · rw [cell_set_ne _ _ _ _ _ (by omega)]; exact H.hd
theorem Hsh.setByte (H : Hsh w b h k held size) (i : Nat) (hi : i < 64) (v : UInt8) : Hsh (w.setCell ⟨b, 8 + i, none⟩ (.int .u8 (v.toNat : Int))) b h (k.set i v) held size := by
  refine ⟨H.hl, by rw [List.length_set]; exact H.kl, fun j hj => ?_, fun j hj => ?_, ?_, ?_, fun j hj => by rw [World.frozen?_setCell]; exact H.fr j hj⟩
  · rw [cell_set_ne _ _ _ _ _ (by omega)]; exact H.hs j hj
  · rw [getD_set k i j v 0 (by rw [H.kl]; exact hi)]
    by_cases e : j = i
    · subst e; rw [if_pos rfl]; exact World.cell?_setCell_same _ _ _ (H.ks j hj)
    · rw [if_neg e, cell_set_ne _ _ _ _ _ (by omega)]; exact H.ks j hj
  · rw [cell_set_ne _ _ _ _ _ (by omega)]; exact H.hd
  · rw [cell_set_ne _ _ _ _ _ (by omega)]; exact H.sz
theorem Hsh.setWord (H : Hsh w b h k held size) (i : Nat) (hi : i < 8) (v : UInt32) : Hsh (w.setCell ⟨b, i, none⟩ (.int .u32 (v.toNat : Int))) b (h.set i v) k held size := by
  refine ⟨by rw [List.length_set]; exact H.hl, H.kl, fun j hj => ?_, fun j hj => ?_, ?_, ?_, fun j hj => by rw [World.frozen?_setCell]; exact H.fr j hj⟩
  · rw [getD_set h i j v 0 (by rw [H.hl]; exact hi)]
    by_cases e : j = i
    · subst e; rw [if_pos rfl]; exact World.cell?_setCell_same _ _ _ (H.hs j hj)
    · rw [if_neg e, cell_set_ne _ _ _ _ _ (by omega)]; exact H.hs j hj
  · rw [cell_set_ne _ _ _ _ _ (by omega)]; exact H.ks j hj
  · rw [cell_set_ne _ _ _ _ _ (by omega)]; exact H.hd
  · rw [cell_set_ne _ _ _ _ _ (by omega)]; exact H.sz
end

/-- The array of the schedule behind q rounds. -/
def arr (m : List UInt8) (q : Nat) : List UInt32 := sched m q ++ List.replicate (64 - q) 0
theorem arr_length (m : List UInt8) (q : Nat) (hq : q ≤ 64) : (arr m q).length = 64 := by simp [arr, sched_length]; omega
theorem arr_getD (m : List UInt8) (q j : Nat) (hj : j < q) : (arr m q).getD j 0 = (sched m q).getD j 0 := by
  rw [List.getD_eq_getElem?_getD, List.getD_eq_getElem?_getD, arr, List.getElem?_append_left (by rw [sched_length]; exact hj)]
theorem arr_set (m : List UInt8) (q : Nat) (hq : q < 64) (v : UInt32) : (arr m q).set q v = (sched m q ++ [v]) ++ List.replicate (64 - (q + 1)) 0 := by
  have e : 64 - q = (64 - (q + 1)) + 1 := by omega
  rw [arr, e, List.replicate_succ, List.set_append_right _ _ (by rw [sched_length]; exact Nat.le_refl _), sched_length, Nat.sub_self]
  simp
theorem arr_lo (m : List UInt8) (q p : Nat) (b0 b1 b2 b3 : UInt8) (hq : q < 16) (hp : p = 4 * q)
    (hb : m.getD p 0 = b0 ∧ m.getD (p + 1) 0 = b1 ∧ m.getD (p + 2) 0 = b2 ∧ m.getD (p + 3) 0 = b3) :
    ((arr m q).map U).set q (.int .u32 (bits BinOp.or IntKind.u32 (bits BinOp.or IntKind.u32 (bits BinOp.or IntKind.u32 (IntKind.u32.wrap (IntKind.u32.wrap (b0.toNat : Int) * 16777216)) (IntKind.u32.wrap (IntKind.u32.wrap (b1.toNat : Int) * 65536)))
      (IntKind.u32.wrap (IntKind.u32.wrap (b2.toNat : Int) * 256))) (IntKind.u32.wrap (b3.toNat : Int)))) = (arr m (q + 1)).map U := by
  rw [word_form]
  show ((arr m q).map U).set q (U _) = _
  rw [← List.map_set, arr_set m q (by omega)]
  obtain ⟨h0, h1, h2, h3⟩ := hb
  subst hp
  rw [← h0, ← h1, ← h2, ← h3]
  show _ = ((sched m q ++ [_]) ++ _).map U
  rw [if_pos hq]
theorem arr_hi (m : List UInt8) (q : Nat) (x16 x15 x7 x2 : UInt32) (hq : 16 ≤ q) (hq2 : q < 64)
    (hb : (sched m q).getD (q - 16) 0 = x16 ∧ (sched m q).getD (q - 15) 0 = x15 ∧ (sched m q).getD (q - 7) 0 = x7 ∧ (sched m q).getD (q - 2) 0 = x2) :
    ((arr m q).map U).set q (.int .u32 (IntKind.u32.wrap (IntKind.u32.wrap (IntKind.u32.wrap (((sumNear x2).toNat : Int) + x7.toNat) + (sumFar x15).toNat) + x16.toNat))) = (arr m (q + 1)).map U := by
  rw [wrap_add, wrap_add, wrap_add]
  show ((arr m q).map U).set q (U _) = _
  rw [← List.map_set, arr_set m q hq2]
  obtain ⟨h0, h1, h2, h3⟩ := hb
  rw [← h0, ← h1, ← h2, ← h3]
  show _ = ((sched m q ++ [_]) ++ _).map U
  rw [if_neg (by omega)]
  congr 4
  generalize (sched m q).getD (q - 16) 0 = a
  generalize sumFar ((sched m q).getD (q - 15) 0) = c
  generalize (sched m q).getD (q - 7) 0 = d
  generalize sumNear ((sched m q).getD (q - 2) 0) = e
  ac_rfl
theorem arr_full (m : List UInt8) : arr m 64 = sched m 64 := by simp [arr]

theorem cell_set_far (w : World) (g i b j : Nat) (v : Value) (hne : b ≠ g) : (w.setCell ⟨g, i, none⟩ v).cell? ⟨b, j, none⟩ = w.cell? ⟨b, j, none⟩ := World.cell?_setCell_other _ _ _ _ (fun e => hne (by cases e; rfl))

/-- The state with the first i words added. -/
def addTo (h v : List UInt32) : Nat → List UInt32
  | 0 => h
  | i + 1 => (addTo h v i).set i ((addTo h v i).getD i 0 + v.getD i 0)
theorem addTo_comp (m : List UInt8) (W : List UInt32) (x0 x1 x2 x3 x4 x5 x6 x7 va vb vc vd ve vf vg vz : UInt32)
    (hw : sched m 64 = W) (hr : rnds W ⟨x0, x1, x2, x3, x4, x5, x6, x7⟩ 64 = ⟨va, vb, vc, vd, ve, vf, vg, vz⟩) :
    addTo [x0, x1, x2, x3, x4, x5, x6, x7] [va, vb, vc, vd, ve, vf, vg, vz] 8 = comp [x0, x1, x2, x3, x4, x5, x6, x7] m := by
  unfold comp ofL
  rw [hw]
  show _ = [x0 + (rnds W ⟨x0, x1, x2, x3, x4, x5, x6, x7⟩ 64).a, x1 + (rnds W ⟨x0, x1, x2, x3, x4, x5, x6, x7⟩ 64).b, x2 + (rnds W ⟨x0, x1, x2, x3, x4, x5, x6, x7⟩ 64).c, x3 + (rnds W ⟨x0, x1, x2, x3, x4, x5, x6, x7⟩ 64).d,
    x4 + (rnds W ⟨x0, x1, x2, x3, x4, x5, x6, x7⟩ 64).e, x5 + (rnds W ⟨x0, x1, x2, x3, x4, x5, x6, x7⟩ 64).f, x6 + (rnds W ⟨x0, x1, x2, x3, x4, x5, x6, x7⟩ 64).g, x7 + (rnds W ⟨x0, x1, x2, x3, x4, x5, x6, x7⟩ 64).z]
  rw [hr]; rfl
theorem list8 (h : List UInt32) (hl : h.length = 8) : ∃ x0 x1 x2 x3 x4 x5 x6 x7, h = [x0, x1, x2, x3, x4, x5, x6, x7] := by
  match h, hl with
  | [x0, x1, x2, x3, x4, x5, x6, x7], _ => exact ⟨x0, x1, x2, x3, x4, x5, x6, x7, rfl⟩

end Go.Proofs.Sha
namespace Go.Proofs.Sha
open Go Go.RowKit
section
variable {P : Program} (w : World)
theorem wpList_box_row {ops : Array Oper} {rest : List Oper} {o : Oper} {a : Act} {Q : Exit → Act → World → Prop} (hgd : o.guard = none) (dst : Option Tmp) (hdst : o.dst = dst) (ty : TypeId) (x : Operand) (ho : o.op = .box ty x) (xs : List Value) (hx : a.eval x = .agg xs.toArray)
    (h : ∀ g w', Row w' w.heap.size g xs.length xs.length xs → Below w.heap.size w w' → wpList P ops Q rest (a.put dst (.pointer (some ⟨g, 0, none⟩))) w') : wpList P ops Q (o :: rest) a w := by
  refine Go.Great.wpList_runTo hgd dst hdst (.pointer (some ⟨w.heap.size, 0, none⟩)) (w.alloc (.cells xs.toArray ty)) ?_ (h _ _ ?_ ((Below.refl _ _).alloc (Nat.le_refl _) _))
  · unfold execOp
    simp only [ho, hx]
    rfl
  · have := Row.of_block (base := w.heap.size) (Nat.le_refl _) (heap_alloc_new w (.cells xs.toArray ty)) xs.length (by simp) (.inl rfl)
    simpa using this
theorem wpList_build_to {ops : Array Oper} {rest : List Oper} {o : Oper} {a : Act} {Q : Exit → Act → World → Prop} (hgd : o.guard = none) (t : TypeId) (parts : Array (Nat × Operand)) (ho : o.op = .build t parts) (cells : Array Value)
    (hb : P.built t (parts.toList.map fun (i, x) => (i, a.eval x)) = some cells)
    (h : wpList P ops Q rest (a.put o.dst (.agg cells)) w) : wpList P ops Q (o :: rest) a w := by
  rw [← Array.toList_map] at hb
  refine Go.Great.wpList_runTo hgd o.dst rfl (.agg cells) w ?_ h
  unfold execOp
  simp only [ho, Sem.run_bind, run_build w t _ cells hb, Result.andThen_ok, Sem.run_pure]
theorem ret_any {fn : Func} {R : Ending → World → Prop} {a : Act} {p : Tmp} {ty : TypeId} {d : TypeDesc} (hres : fn.results = #[.cell p ty]) (base g n cap : Nat) (xs : List Value) (ht : a.tmps.getD p undef = .pointer (some ⟨g, 0, none⟩))
    (hr : Row w base g n cap xs) (hu : P.underlying ty = some d) (hd : d.isRow = true) (hi : (P.info? ty).map (·.size) = some n) (hdef : a.defers = []) (hR : R (.returned (.agg xs.toArray)) w) : bodyPost P fn R .ret a w := by
  refine bodyPost_ret (v := .agg xs.toArray) ?_ hdef hR
  rw [results_cell w hres a.tmps _ ht]
  exact run_loadVar_mid w g 0 ty xs _ hr.range hu hd (by rw [hi, hr.len])
theorem Row.prefix {w : World} {base g n cap : Nat} {xs ys : List Value} (h : Row w base g n cap (xs ++ ys)) : w.rangeAt g 0 xs := fun j v hv => by
  refine h.range j v ?_
  rw [List.getElem?_append_left (List.getElem?_eq_some_iff.1 hv).1, hv]
end
end Go.Proofs.Sha
namespace Go.Proofs.YtofglikppppjoacDoor
open Go.RowKit Go.Proofs.Sha

theorem key43 : Key32 Tryd.prog 85 5 :=
  ⟨Tryd.underlying85, Tryd.underlying5, by kernel_rfl, by kernel_rfl, by kernel_rfl, deep_law_gate (by kernel_rfl) (by decide +kernel) (by decide +kernel) (by kernel_rfl) (by rw [Tryd.underlying85]), ⟨Tryd.prog.types.size - 1, by kernel_rfl⟩⟩
def zeros32b : List UInt8 := List.replicate 32 0
theorem alloc43 (w : World) : (Instr.alloc 85 true (.tuple #[])).run Tryd.prog w = .ok (.pointer (some ⟨w.heap.size, 0, none⟩)) (w.alloc (.cells (zeros32b.map B).toArray 85)) := by kernel_rfl
theorem size43 : (Tryd.prog.info? 85).map (·.size) = some 32 := by kernel_rfl
/-- A hash cut to a width by zeros. -/
def cutW (k : Nat) (X : List UInt8) : List UInt8 := X.take k ++ List.replicate (32 - k) 0
theorem cutW_len (k : Nat) (X : List UInt8) (hX : X.length = 32) (hk : k ≤ 32) : (cutW k X).length = 32 := by unfold cutW; rw [List.length_append, List.length_take, List.length_replicate]; omega
/-- The first place counts. -/
def addF (F : List UInt8 → Option Int) (X : List UInt8) (v : Int) : List UInt8 → Option Int := if F X = none then fun Y => if Y = X then some v else F Y else F
/-- What encodingHash's contract says, by itself. -/
def HashSaid (K : World → Prop) : Prop := ∀ (s : ByteArray) (w : World), s.size ≤ 1048576 → K w → Calls Tryd.prog 59 #[.string s] w fun e w' => e = .returned (.agg ((sha (78 :: s.data.toList)).map B).toArray) ∧ Below w.heap.size w w'

theorem Row.setTail {w : World} {base g n cap : Nat} {xs : List Value} (h : Row w base g n cap xs) (o : Nat) (ys : List Value) (ho : o + ys.length = n) : Row (w.setCells g o ys) base g n cap (xs.take o ++ ys) := by
  have hin : ∀ j (hj : j < ys.length), (w.setCells g o ys).cell? ⟨g, o + j, none⟩ = some ys[j] := World.cell?_setCells_in g ys o w (fun j hj => h.room (o + j) (by have := h.le; omega))
  have hout : ∀ j, j < o ∨ o + ys.length ≤ j → (w.setCells g o ys).cell? ⟨g, j, none⟩ = w.cell? ⟨g, j, none⟩ := fun j hj => World.cell?_setCells_out g ys o w ⟨g, j, none⟩ (fun _ _ => hj)
  have hgr := grownBy_setCells g ys o w
  have hl := h.len
  refine ⟨h.ge, Nat.lt_of_lt_of_le h.lt hgr.size, by rw [List.length_append, List.length_take]; omega, h.le, ?_, ?_, ?_⟩
  · intro j hj
    rcases Nat.lt_or_ge j o with h1 | h1
    · rw [hout j (.inl h1), h.cell j (by omega), List.getElem?_append_left (by rw [List.length_take]; omega), List.getElem?_take, if_pos h1]
    · obtain ⟨q, rfl⟩ := Nat.exists_eq_add_of_le h1
      rw [hin q (by omega), List.getElem?_append_right (by rw [List.length_take]; omega), List.length_take, show o + q - min o xs.length = q by omega, List.getElem?_eq_getElem (by omega)]
  · intro j hj
    rcases Nat.lt_or_ge j o with h1 | h1
    · rw [hout j (.inl h1)]; exact h.room j hj
    · rcases Nat.lt_or_ge j (o + ys.length) with h2 | h2
      · obtain ⟨q, rfl⟩ := Nat.exists_eq_add_of_le h1
        rw [hin q (by omega)]; rfl
      · rw [hout j (.inr h2)]; exact h.room j hj
  · intro j hj
    rw [World.frozen?_setCells]; exact h.free j hj
theorem zeroV3 (w : World) : (zeroValue 3).run Tryd.prog w = .ok (.int .i64 0) w := by kernel_rfl
theorem zeroV5 (w : World) : (zeroValue 5).run Tryd.prog w = .ok (.int .u8 0) w := by kernel_rfl
theorem zeroCells_b (q : Nat) : (Builtin.zeroCells (Value.int .u8 0).cells q).toList = List.replicate q (B 0) := by
  show (Builtin.zeroCells #[Value.int .u8 0] q).toList = _
  rw [Builtin.zeroCells]
  apply List.ext_getElem
  · simp
  · intro j h1 h2
    simp [B, Nat.mod_one]
theorem run_clear_tail {w : World} {base g : Nat} {X : List UInt8} (h : Row w base g 32 32 (X.map B)) (_hX : X.length = 32) (k : Nat) (hk : k < 32) :
    ∃ w', (Builtin.clear_ #[87] 0 #[.slice (some ⟨g, k, none⟩) (32 - k) (32 - k)]).run Tryd.prog w = .ok (.tuple #[]) w' ∧ Row w' base g 32 32 ((cutW k X).map B) ∧ w.grownBy w' (some g) := by
  obtain ⟨q, hq⟩ : ∃ q, 32 - k = q + 1 := ⟨31 - k, by omega⟩
  have hst := run_storeCells_cells (P := Tryd.prog) g k (List.replicate (32 - k) (B 0)) 0 w (fun j hj => by rw [List.length_replicate] at hj; have := h.room (k + j) (by omega); simpa using this) (fun j hj => by rw [List.length_replicate] at hj; have := h.free (k + j) (by omega); simpa using this) (fun v hv => by rw [List.eq_of_mem_replicate hv]; rfl)
  simp only [Nat.add_zero] at hst
  refine ⟨w.setCells g k (List.replicate (32 - k) (B 0)), ?_, ?_, grownBy_setCells _ _ _ _⟩
  · unfold Builtin.clear_
    rw [hq] at hst ⊢
    simp only [Sem.run_bind, run_underlying Tryd.underlying87, Result.andThen_ok, zeroV5, zeroCells_b, List.getElem?_toArray, List.getElem?_cons_zero]
    rw [hst]
    rfl
  · have := Row.setTail h k (List.replicate (32 - k) (B 0)) (by rw [List.length_replicate]; omega)
    unfold cutW
    rw [List.map_append, List.map_take, List.map_replicate]
    exact this

end Go.Proofs.YtofglikppppjoacDoor
namespace Go.Proofs.YtofglikppppjoacDoor
open Go.RowKit Go.Proofs.Sha

theorem less_tri : ∀ a b : List UInt8, Op.bytesLess a b = !(Op.bytesLess b a || b == a)
  | [], [] => rfl
  | [], b :: y => by simp [Op.bytesLess]
  | a :: x, [] => by simp [Op.bytesLess]
  | a :: x, b :: y => by
    rw [Op.bytesLess, Op.bytesLess, less_tri x y]
    by_cases h : a = b
    · subst h
      simp
    · by_cases hl : a < b
      · have h2 : ¬ b < a := by rw [UInt8.lt_iff_toNat_lt] at hl ⊢; omega
        have h3 : ¬ b = a := fun e => h e.symm
        simp [hl, h2, h3]
      · have h2 : b < a := by
          rw [UInt8.lt_iff_toNat_lt] at hl ⊢
          have : a.toNat ≠ b.toNat := fun e => h (UInt8.toNat_inj.1 e)
          omega
        have h3 : ¬ b = a := fun e => h e.symm
        simp [h, hl, h2]
abbrev PairT := ByteArray × ByteArray
def noPair : PairT := (⟨#[]⟩, ⟨#[]⟩)
/-- A slice of pairs. -/
structure PArg (a : Option Addr) (ps : List PairT) (w : World) : Prop where
  le : ps.length ≤ 1048576
  sz : ∀ j, (ps.getD j noPair).1.size ≤ 1048576 ∧ (ps.getD j noPair).2.size ≤ 1048576
  at_ : 0 < ps.length → ∃ b off : Nat, a = some ⟨b, off, none⟩ ∧ b < w.heap.size ∧ ∀ j, j < ps.length → w.cell? ⟨b, off + j * 2, none⟩ = some (.string (ps.getD j noPair).1) ∧ w.cell? ⟨b, off + j * 2 + 1, none⟩ = some (.string (ps.getD j noPair).2)
theorem PArg.below {a : Option Addr} {ps : List PairT} {w w' : World} (h : PArg a ps w) (hb : Below w.heap.size w w') : PArg a ps w' := by
  refine ⟨h.le, h.sz, fun hn => ?_⟩
  obtain ⟨b, off, ha, hlt, hc⟩ := h.at_ hn
  exact ⟨b, off, ha, Nat.lt_of_lt_of_le hlt hb.size, fun j hj => ⟨(hb.cell (p := ⟨b, off + j * 2, none⟩) hlt).trans (hc j hj).1, (hb.cell (p := ⟨b, off + j * 2 + 1, none⟩) hlt).trans (hc j hj).2⟩⟩
def okKey (k : ByteArray) : Bool := decide (1 ≤ k.size ∧ k.size ≤ 256)
def okVal (v : ByteArray) : Bool := decide (v.size ≤ 2000)
/-- The key before. -/
def lastK (ps : List PairT) : Nat → ByteArray
  | 0 => ⟨#[]⟩
  | k + 1 => (ps.getD k noPair).1
def goodAt (ps : List PairT) (k : Nat) : Bool := okKey (ps.getD k noPair).1 && (okVal (ps.getD k noPair).2 && Op.bytesLess (lastK ps k).toList (ps.getD k noPair).1.toList)
def mapTo (ps : List PairT) : Nat → Bool
  | 0 => true
  | k + 1 => mapTo ps k && goodAt ps k
theorem mapTo_false (ps : List PairT) (k n : Nat) (h : k < n) (hg : goodAt ps k = false) : mapTo ps n = false := by
  induction n with
  | zero => omega
  | succ n ih =>
    rw [mapTo]
    by_cases e : k = n
    · subst e; rw [hg, Bool.and_false]
    · rw [ih (by omega), Bool.false_and]
def isMapT (ps : List PairT) : Bool := decide (ps.length ≤ 500) && mapTo ps ps.length
theorem vkey_any (k : ByteArray) (w : World) (hk : k.size ≤ 1048576) : Calls Tryd.prog 67 #[.string k] w fun e w' => e = .returned (.bool (okKey k)) ∧ w = w' := by
  by_cases c1 : 1 ≤ k.size
  · have hr : okKey k = decide ((k.size : Int) ≤ 256) := by
      unfold okKey
      by_cases c2 : k.size ≤ 256
      · rw [decide_eq_true (by omega), decide_eq_true (by omega)]
      · rw [decide_eq_false (by omega), decide_eq_false (by omega)]
    rw [hr]
    have z1 : decide ((1 : Int) ≤ (k.size : Int)) = true := by rw [decide_eq_true_eq]; omega
    have z2 : decide (1 ≤ k.size) = true := decide_eq_true c1
    have z3 : 0 < k.size := by omega
    clear hr
    go_enter Tryd.func67, Tryd.ntmps67
    go_wp2_with fail
    go_ret
    exact ⟨rfl, rfl⟩
  · have hr : okKey k = false := by unfold okKey; rw [decide_eq_false (by omega)]
    rw [hr]
    have z1 : decide ((1 : Int) ≤ (k.size : Int)) = false := by rw [decide_eq_false_iff_not]; omega
    have z0 : k.size = 0 := by omega
    clear hr
    go_enter Tryd.func67, Tryd.ntmps67
    go_wp2_with fail
    go_ret
    exact ⟨rfl, rfl⟩
theorem vval_any (v : ByteArray) (w : World) (hv : v.size ≤ 1048576) : Calls Tryd.prog 68 #[.string v] w fun e w' => e = .returned (.bool (okVal v)) ∧ w = w' := by
  have hr : okVal v = decide ((v.size : Int) ≤ 2000) := by
    unfold okVal
    by_cases c2 : v.size ≤ 2000
    · rw [decide_eq_true (by omega), decide_eq_true (by omega)]
    · rw [decide_eq_false (by omega), decide_eq_false (by omega)]
  rw [hr]
  go_enter Tryd.func68, Tryd.ntmps68
  go_wp2_with fail
  go_ret
  exact ⟨rfl, rfl⟩

set_option maxRecDepth 100000 in
set_option maxHeartbeats 1000000 in
theorem isMap_any (a : Option Addr) (ps : List PairT) (c : Nat) (w : World) (h : PArg a ps w) :
    Calls Tryd.prog 43 #[.slice a ps.length c] w fun e w' => e = .returned (.bool (isMapT ps)) ∧ Below w.heap.size w w' := by
  have hn := h.le
  obtain ⟨n, hnn⟩ : ∃ n, ps.length = n := ⟨_, rfl⟩
  obtain ⟨B, hB⟩ : ∃ B, isMapT ps = B := ⟨_, rfl⟩
  rw [hB, hnn]
  rw [hnn] at hn
  by_cases hx : 500 < n
  · have hf : Hid (B = false) := by show B = false; rw [← hB]; unfold isMapT; rw [decide_eq_false (by omega), Bool.false_and]
    have z1 : decide ((500 : Int) < (n : Int)) = true := by rw [decide_eq_true_eq]; omega
    have z2 : decide ((n : Int) > 500) = true := by rw [decide_eq_true_eq]; omega
    clear hB
    go_enter Tryd.func43, Tryd.ntmps43
    go_wp2_with fail
    go_ret
    exact ⟨by rw [hf.out]; rfl, Below.refl _ _⟩
  · have hBm : Hid (B = mapTo ps n) := by show B = _; rw [← hB]; unfold isMapT; rw [decide_eq_true (by omega), Bool.true_and, hnn]
    have z1 : decide ((500 : Int) < (n : Int)) = false := by rw [decide_eq_false_iff_not]; omega
    have z2 : decide ((n : Int) > 500) = false := by rw [decide_eq_false_iff_not]; omega
    have hnl : Hid (ps.length = n) := hnn
    clear hB hnn
    go_enter Tryd.func43, Tryd.ntmps43
    go_wp2_with fail
    go_loopw [3, 11] (fun t3 t11 wr => ∃ k : Nat, k ≤ n ∧ t3 = .string (lastK ps k) ∧ t11 = .int .i64 (k : Int) ∧ Hid (mapTo ps k = true) ∧ Below w.heap.size w wr) (fun _ t11 _ => n - (intOf t11).toNat)
    case atStart => exact ⟨0, Nat.zero_le _, rfl, rfl, rfl, Below.refl _ _⟩
    case round =>
      obtain ⟨k, hk, rfl, rfl, hm, hbw⟩ := hrel
      by_cases hlt : k < n
      · have z3 : decide ((k : Int) < (n : Int)) = true := by simp; omega
        have hx0 : (0 : Int) ≤ (k : Int) := Int.natCast_nonneg _
        have hx1 : (k : Int) < (n : Int) := by omega
        obtain ⟨b, off, rfl, hbl, hc⟩ := (h.below hbw).at_ (by rw [hnl.out]; omega)
        obtain ⟨hc1, hc2⟩ := hc k (by rw [hnl.out]; exact hlt)
        have hgd : Hid (goodAt ps k = (okKey (ps.getD k noPair).1 && (okVal (ps.getD k noPair).2 && Op.bytesLess (lastK ps k).toList (ps.getD k noPair).1.toList))) := rfl
        have hlk : Hid (lastK ps (k + 1) = (ps.getD k noPair).1) := rfl
        obtain ⟨hs1, hs2⟩ := h.sz k
        generalize (ps.getD k noPair).1 = pk at hc1 hgd hlk hs1
        generalize (ps.getD k noPair).2 = pv at hc2 hgd hs2
        generalize lastK ps k = lk at hgd ⊢
        have H1 : Hid (∀ w', Calls Tryd.prog 67 #[.string pk] w' fun e w'' => e = .returned (.bool (okKey pk)) ∧ w' = w'') := fun w' => vkey_any pk w' hs1
        have H2 : Hid (∀ w', Calls Tryd.prog 68 #[.string pv] w' fun e w'' => e = .returned (.bool (okVal pv)) ∧ w' = w'') := fun w' => vval_any pv w' hs2
        clear hc
        cases hk1 : okKey pk with
        | false =>
          rw [hk1] at H1
          have hbf : Hid (B = false) := by
            show B = false
            rw [hBm.out]
            exact mapTo_false ps k n hlt (by rw [hgd.out, hk1, Bool.false_and])
          clear hk1 hgd hm hBm
          have hbA : Below w.heap.size w (wr.alloc (.cells #[.string pk, .string pv] 68)) := hbw.alloc hbw.size _
          go_wp2_with (first | (go_at_call 67; refine (H1.out _).mono ?_; rintro e w1 ⟨rfl, rfl⟩))
          go_ret
          exact ⟨by rw [hbf.out]; rfl, hbA⟩
        | true =>
          rw [hk1] at H1
          cases hv1 : okVal pv with
          | false =>
            rw [hv1] at H2
            have hbf : Hid (B = false) := by
              show B = false
              rw [hBm.out]
              exact mapTo_false ps k n hlt (by rw [hgd.out, hk1, hv1]; rfl)
            clear hk1 hv1 hgd hm hBm
            have hbA : Below w.heap.size w (wr.alloc (.cells #[.string pk, .string pv] 68)) := hbw.alloc hbw.size _
            go_wp2_with (first | (go_at_call 67; refine (H1.out _).mono ?_; rintro e w1 ⟨rfl, rfl⟩) | (go_at_call 68; refine (H2.out _).mono ?_; rintro e w1 ⟨rfl, rfl⟩))
            go_ret
            exact ⟨by rw [hbf.out]; rfl, hbA⟩
          | true =>
            rw [hv1] at H2
            have hg2 : Hid (goodAt ps k = Op.bytesLess lk.toList pk.toList) := by show _ = _; rw [hgd.out, hk1, hv1]; rfl
            have hbA : Below w.heap.size w (wr.alloc (.cells #[.string pk, .string pv] 68)) := hbw.alloc hbw.size _
            clear hk1 hv1 hgd
            cases hls : Op.bytesLess lk.toList pk.toList with
            | false =>
              have hbf : Hid (B = false) := by
                show B = false
                rw [hBm.out]
                exact mapTo_false ps k n hlt (by rw [hg2.out, hls])
              have hor := less_tri lk.toList pk.toList
              rw [hls] at hor
              have hor2 : (Op.bytesLess pk.toList lk.toList || (pk.toList == lk.toList)) = true := by
                cases hq : (Op.bytesLess pk.toList lk.toList || (pk.toList == lk.toList)) with
                | true => rfl
                | false => rw [hq] at hor; cases hor
              clear hg2 hm hBm hor hls
              cases hq1 : Op.bytesLess pk.toList lk.toList with
              | true =>
                clear hor2
                go_wp2_with (first | (go_at_call 67; refine (H1.out _).mono ?_; rintro e w1 ⟨rfl, rfl⟩) | (go_at_call 68; refine (H2.out _).mono ?_; rintro e w1 ⟨rfl, rfl⟩))
                go_ret
                exact ⟨by rw [hbf.out]; rfl, hbA⟩
              | false =>
                rw [hq1, Bool.false_or] at hor2
                go_wp2_with (first | (go_at_call 67; refine (H1.out _).mono ?_; rintro e w1 ⟨rfl, rfl⟩) | (go_at_call 68; refine (H2.out _).mono ?_; rintro e w1 ⟨rfl, rfl⟩))
                go_ret
                exact ⟨by rw [hbf.out]; rfl, hbA⟩
            | true =>
              have hm' : Hid (mapTo ps (k + 1) = true) := by show _ = _; rw [mapTo, hm.out, hg2.out, hls]; rfl
              have hor := less_tri lk.toList pk.toList
              rw [hls] at hor
              have hq1 : Op.bytesLess pk.toList lk.toList = false := by
                cases hq : Op.bytesLess pk.toList lk.toList with
                | false => rfl
                | true => rw [hq, Bool.true_or] at hor; cases hor
              have hq2 : (pk.toList == lk.toList) = false := by
                cases hq : (pk.toList == lk.toList) with
                | false => rfl
                | true => rw [hq, Bool.or_true] at hor; cases hor
              clear hg2 hm hor hls
              go_wp2_with (first | (go_at_call 67; refine (H1.out _).mono ?_; rintro e w1 ⟨rfl, rfl⟩) | (go_at_call 68; refine (H2.out _).mono ?_; rintro e w1 ⟨rfl, rfl⟩))
              go_roundw
              case rel => exact ⟨k + 1, hlt, by rw [hlk.out], by go_num, hm', hbA⟩
              case measure => simp [intOf]; omega
      · obtain rfl : k = n := by omega
        have z3 : decide ((k : Int) < (k : Int)) = false := by simp
        have hbt : Hid (B = true) := by show B = true; rw [hBm.out, hm.out]
        clear hBm hm
        go_wp2_with fail
        go_ret
        exact ⟨by rw [hbt.out]; rfl, hbw⟩
end Go.Proofs.YtofglikppppjoacDoor
namespace Go.Proofs.YtofglikppppjoacDoor
open Go.RowKit Go.Proofs.Sha

theorem wr_in64 (n : Int) (h : -9223372036854775808 ≤ n ∧ n ≤ 9223372036854775807) : wrap64 n = n := by unfold wrap64; omega
/-- A slice of pairs that was handed in, whatever its size. -/
structure QArg (a : Option Addr) (ps : List PairT) (w : World) : Prop where
  at_ : 0 < ps.length → ∃ b off : Nat, a = some ⟨b, off, none⟩ ∧ b < w.heap.size ∧ ∀ j, j < ps.length → w.cell? ⟨b, off + j * 2, none⟩ = some (.string (ps.getD j noPair).1) ∧ w.cell? ⟨b, off + j * 2 + 1, none⟩ = some (.string (ps.getD j noPair).2)
theorem QArg.below {a : Option Addr} {ps : List PairT} {w w' : World} (h : QArg a ps w) (hb : Below w.heap.size w w') : QArg a ps w' := by
  refine ⟨fun hn => ?_⟩
  obtain ⟨b, off, ha, hlt, hc⟩ := h.at_ hn
  exact ⟨b, off, ha, Nat.lt_of_lt_of_le hlt hb.size, fun j hj => ⟨(hb.cell (p := ⟨b, off + j * 2, none⟩) hlt).trans (hc j hj).1, (hb.cell (p := ⟨b, off + j * 2 + 1, none⟩) hlt).trans (hc j hj).2⟩⟩
/-- Within the law's bound. -/
def SmallP (ps : List PairT) : Prop := ps.length ≤ 1048576 ∧ ∀ j, (ps.getD j noPair).1.size ≤ 1048576 ∧ (ps.getD j noPair).2.size ≤ 1048576
theorem QArg.parg {a : Option Addr} {ps : List PairT} {w : World} (h : QArg a ps w) (hs : SmallP ps) : PArg a ps w := ⟨hs.1, hs.2, h.at_⟩
theorem PArg.qarg {a : Option Addr} {ps : List PairT} {w : World} (h : PArg a ps w) : QArg a ps w := ⟨h.at_⟩
theorem pget_out (ps : List PairT) (j : Nat) (h : ps.length ≤ j) : ps.getD j noPair = noPair := by
  rw [List.getD_eq_getElem?_getD, List.getElem?_eq_none h]; rfl
theorem szPair_yes (k v : ByteArray) (r q : Nat) (hr : r ≤ 1048576) (hk : k.size ≤ 9223372036854775807) (hv : v.size ≤ 9223372036854775807) (hq : q + k.size + v.size = r) (w : World) :
    Calls Tryd.prog 38 #[.agg #[.string k, .string v], .int .i64 (r : Int)] w fun e w' => e = .returned (.int .i64 (q : Int)) ∧ Below w.heap.size w w' := by
  obtain ⟨p, hp⟩ : ∃ p : Nat, (r : Int) - (k.size : Int) = (p : Int) := ⟨r - k.size, by omega⟩
  have hp2 : (p : Int) - (v.size : Int) = (q : Int) := by omega
  have y1 : wrap64 ((r : Int) - (k.size : Int)) = (p : Int) := by rw [hp]; exact wr_in64 _ (by omega)
  have y2 : wrap64 ((p : Int) - (v.size : Int)) = (q : Int) := by rw [hp2]; exact wr_in64 _ (by omega)
  have y3 : decide ((p : Int) < 0) = false := by rw [decide_eq_false_iff_not]; omega
  have y4 : decide ((q : Int) < 0) = false := by rw [decide_eq_false_iff_not]; omega
  clear hq
  have hb : Below w.heap.size w (w.alloc (.cells #[.string k, .string v] 63)) := (Below.refl _ _).alloc (Nat.le_refl _) _
  go_enter Tryd.func38, Tryd.ntmps38
  go_wp2_with fail
  go_ret
  exact ⟨rfl, hb⟩
theorem szPair_no (k v : ByteArray) (r : Nat) (hr : r ≤ 1048576) (hk : k.size ≤ 9223372036854775807) (hv : v.size ≤ 9223372036854775807) (hq : r < k.size + v.size) (w : World) :
    Calls Tryd.prog 38 #[.agg #[.string k, .string v], .int .i64 (r : Int)] w fun e w' => e = .returned (.int .i64 (-1)) ∧ Below w.heap.size w w' := by
  have hb : Below w.heap.size w (w.alloc (.cells #[.string k, .string v] 63)) := (Below.refl _ _).alloc (Nat.le_refl _) _
  by_cases c : k.size ≤ r
  · obtain ⟨p, hp⟩ : ∃ p : Nat, (r : Int) - (k.size : Int) = (p : Int) := ⟨r - k.size, by omega⟩
    obtain ⟨q, hp2⟩ : ∃ q : Int, (p : Int) - (v.size : Int) = q := ⟨_, rfl⟩
    have y1 : wrap64 ((r : Int) - (k.size : Int)) = (p : Int) := by rw [hp]; exact wr_in64 _ (by omega)
    have y2 : wrap64 ((p : Int) - (v.size : Int)) = q := by rw [hp2]; exact wr_in64 _ (by omega)
    have y3 : decide ((p : Int) < 0) = false := by rw [decide_eq_false_iff_not]; omega
    have y4 : decide (q < 0) = true := by rw [decide_eq_true_eq]; omega
    clear hq
    go_enter Tryd.func38, Tryd.ntmps38
    go_wp2_with fail
    go_ret
    exact ⟨rfl, hb⟩
  · obtain ⟨p, hp⟩ : ∃ p : Int, (r : Int) - (k.size : Int) = p := ⟨_, rfl⟩
    have y1 : wrap64 ((r : Int) - (k.size : Int)) = p := by rw [hp]; exact wr_in64 _ (by omega)
    have y3 : decide (p < 0) = true := by rw [decide_eq_true_eq]; omega
    clear hq
    go_enter Tryd.func38, Tryd.ntmps38
    go_wp2_with fail
    go_ret
    exact ⟨rfl, hb⟩

set_option maxRecDepth 100000 in
set_option maxHeartbeats 1000000 in
theorem szPairS_any (a : Option Addr) (ps : List PairT) (c l0 : Nat) (w : World) (h : QArg a ps w) (hl0 : l0 ≤ 1048576) (hN : ps.length ≤ maxLen) (hM : ∀ j, (ps.getD j noPair).1.size ≤ maxLen ∧ (ps.getD j noPair).2.size ≤ maxLen) :
    Calls Tryd.prog 17 #[.slice a ps.length c, .int .i64 (l0 : Int)] w fun e w' => ∃ r : Int, e = .returned (.int .i64 r) ∧ Hid (r ≤ l0) ∧ Hid (0 ≤ r → SmallP ps) ∧ Below w.heap.size w w' := by
  unfold maxLen at hN hM
  obtain ⟨N, hl⟩ : ∃ N, ps.length = N := ⟨_, rfl⟩
  rw [hl] at hN
  rw [hl]
  by_cases hx : l0 < N
  · have z1 : decide ((l0 : Int) - (N : Int) < 0) = true := by rw [decide_eq_true_eq]; omega
    have z5 : wrap64 ((l0 : Int) - (N : Int)) = l0 - (N : Int) := wr_in64 _ (by omega)
    go_enter Tryd.func17, Tryd.ntmps17
    go_wp2_with fail
    go_ret
    exact ⟨_, rfl, by show (-1 : Int) ≤ _; omega, fun hh => absurd hh (by decide), Below.refl _ _⟩
  · obtain ⟨q, hq⟩ : ∃ q : Nat, (l0 : Int) - (N : Int) = (q : Int) := ⟨l0 - N, by omega⟩
    have z5 : wrap64 ((l0 : Int) - (N : Int)) = (q : Int) := by rw [hq]; exact wr_in64 _ (by omega)
    have z1 : decide ((q : Int) < 0) = false := by rw [decide_eq_false_iff_not]; omega
    have hq0 : q ≤ l0 := by omega
    go_enter Tryd.func17, Tryd.ntmps17
    go_wp2_with fail
    go_loopw [1, 5] (fun t1 t5 wr => ∃ k r : Nat, k ≤ N ∧ t5 = .int .i64 (k : Int) ∧ t1 = .int .i64 (r : Int) ∧ r ≤ q ∧ Hid (∀ j, j < k → (ps.getD j noPair).1.size ≤ q ∧ (ps.getD j noPair).2.size ≤ q) ∧ Below w.heap.size w wr) (fun _ t5 _ => N - (intOf t5).toNat)
    case atStart => exact ⟨0, q, Nat.zero_le _, rfl, by first | rfl | rw [z5] | rw [hq], Nat.le_refl _, fun j hj => absurd hj (Nat.not_lt_zero j), Below.refl _ _⟩
    case round =>
      obtain ⟨k, r, hk, rfl, rfl, hr, hall, hbw⟩ := hrel
      by_cases hlt : k < N
      · have y1 : decide ((k : Int) < (N : Int)) = true := by simp; omega
        have hx0 : (0 : Int) ≤ (k : Int) := Int.natCast_nonneg _
        have hx1 : (k : Int) < (N : Int) := by omega
        obtain ⟨b, off, rfl, hbl, hcs⟩ := (h.below hbw).at_ (by omega)
        obtain ⟨hc1, hc2⟩ := hcs k (by omega)
        obtain ⟨m1, m2⟩ := hM k
        have hgk : Hid (ps.getD k noPair = ((ps.getD k noPair).1, (ps.getD k noPair).2)) := rfl
        generalize (ps.getD k noPair).1 = pk at hc1 m1 hgk
        generalize (ps.getD k noPair).2 = pv at hc2 m2 hgk
        by_cases hc : pk.size + pv.size ≤ r
        · obtain ⟨r', hr'⟩ : ∃ r' : Nat, r' + pk.size + pv.size = r := ⟨r - pk.size - pv.size, by omega⟩
          have HS := fun w' => szPair_yes pk pv r r' (by omega) m1 m2 hr' w'
          have y3 : decide ((r' : Int) < 0) = false := by rw [decide_eq_false_iff_not]; omega
          have hall' : Hid (∀ j, j < k + 1 → (ps.getD j noPair).1.size ≤ q ∧ (ps.getD j noPair).2.size ≤ q) := fun j hj => by
            by_cases hjk : j < k
            · exact hall.out j hjk
            · obtain rfl : j = k := by omega
              rw [hgk.out]; exact ⟨by show pk.size ≤ _; omega, by show pv.size ≤ _; omega⟩
          have hrq : r' ≤ q := by omega
          clear hall hcs hgk hr'
          go_wp2_with (go_at_call 38; refine (HS _).mono ?_; rintro e w1 ⟨rfl, hb1⟩)
          go_roundw
          case rel => exact ⟨k + 1, r', hlt, by go_num, rfl, hrq, hall', hbw.trans (hb1.mono hbw.size)⟩
          case measure => simp [intOf]; omega
        · have HS := fun w' => szPair_no pk pv r (by omega) m1 m2 (by omega) w'
          clear hall hcs hgk
          go_wp2_with (go_at_call 38; refine (HS _).mono ?_; rintro e w1 ⟨rfl, hb1⟩)
          go_ret
          exact ⟨_, rfl, by show (-1 : Int) ≤ _; omega, fun hh => absurd hh (by decide), hbw.trans (hb1.mono hbw.size)⟩
      · obtain rfl : k = N := by omega
        have y1 : decide ((k : Int) < (k : Int)) = false := by simp
        have HS : Hid (SmallP ps) := by
          refine ⟨by omega, fun j => ?_⟩
          by_cases hj : j < k
          · have := hall.out j hj; omega
          · rw [pget_out ps j (by omega)]; exact ⟨Nat.zero_le _, Nat.zero_le _⟩
        clear hall
        go_wp2_with fail
        go_ret
        exact ⟨_, rfl, by show (r : Int) ≤ _; omega, fun _ => HS.out, hbw⟩
end Go.Proofs.YtofglikppppjoacDoor
namespace Go.Proofs.YtofglikppppjoacDoor
open Go.RowKit Go.Proofs.Sha

/-- Pairs as cells. -/
def flatP : List PairT → List Value
  | [] => []
  | p :: l => .string p.1 :: .string p.2 :: flatP l
theorem flatP_len : ∀ l : List PairT, (flatP l).length = l.length * 2
  | [] => rfl
  | p :: l => by simp only [flatP, List.length_cons, flatP_len l]; omega
theorem flatP_app : ∀ l m : List PairT, flatP (l ++ m) = flatP l ++ flatP m
  | [], m => rfl
  | p :: l, m => by simp only [List.cons_append, flatP, flatP_app l m]
theorem flatP_get : ∀ (l : List PairT) (j : Nat), j < l.length → (flatP l)[j * 2]? = some (.string (l.getD j noPair).1) ∧ (flatP l)[j * 2 + 1]? = some (.string (l.getD j noPair).2)
  | [], j, h => absurd h (Nat.not_lt_zero _)
  | p :: l, 0, _ => ⟨rfl, rfl⟩
  | p :: l, j + 1, h => by
    have := flatP_get l j (by simpa using h)
    rw [show (j + 1) * 2 = j * 2 + 2 by omega]
    simpa [flatP] using this
theorem flatP_set : ∀ (l : List PairT) (k : Nat) (x y : ByteArray), k < l.length → ((flatP l).set (k * 2) (.string x)).set (k * 2 + 1) (.string y) = flatP (l.set k (x, y))
  | [], k, _, _, h => absurd h (Nat.not_lt_zero _)
  | p :: l, 0, _, _, _ => rfl
  | p :: l, k + 1, x, y, h => by
    have := flatP_set l k x y (by simpa using h)
    rw [show (k + 1) * 2 = k * 2 + 2 by omega]
    simpa [flatP] using this
theorem flatP_rep (n : Nat) : flatP (List.replicate n noPair) = List.replicate (n * 2) (.string ⟨#[]⟩) := by
  induction n with
  | zero => rfl
  | succ n ih =>
    rw [List.replicate_succ, flatP, ih, show (n + 1) * 2 = n * 2 + 1 + 1 by omega, List.replicate_succ, List.replicate_succ]
    rfl
theorem made2 (n : Nat) : (madeCells #[.string ⟨#[]⟩, .string ⟨#[]⟩] n).toList = List.replicate n (Value.string ⟨#[]⟩) := by
  unfold madeCells
  refine List.ext_getElem (by simp) fun i h1 h2 => ?_
  rw [List.getElem_replicate]
  simp only [Array.getElem_toList, Array.getElem_map]
  have : ∀ j, j < 2 → (#[Value.string ⟨#[]⟩, .string ⟨#[]⟩])[j]! = .string ⟨#[]⟩ := fun j hj => by
    match j, hj with
    | 0, _ => rfl
    | 1, _ => rfl
  exact this _ (Nat.mod_lt _ (by simp))
theorem Row.parg {w : World} {base g c n : Nat} {ps : List PairT} (h : Row w base g n c (flatP ps)) (hs : SmallP ps) : PArg (some ⟨g, 0, none⟩) ps w := by
  refine ⟨hs.1, hs.2, fun _ => ⟨g, 0, rfl, h.lt, fun j hj => ?_⟩⟩
  have hn := h.len
  rw [flatP_len] at hn
  obtain ⟨e0, e1⟩ := flatP_get ps j hj
  rw [Nat.zero_add]
  exact ⟨(h.cell _ (by omega)).trans e0, (h.cell _ (by omega)).trans e1⟩
/-- The first k, and zeros. -/
def partP (ps : List PairT) (k : Nat) : List PairT := ps.take k ++ List.replicate (ps.length - k) noPair
theorem partP_zero (ps : List PairT) : partP ps 0 = List.replicate ps.length noPair := by simp [partP]
theorem partP_all (ps : List PairT) : partP ps ps.length = ps := by simp [partP]
theorem partP_len (ps : List PairT) (k : Nat) (h : k ≤ ps.length) : (partP ps k).length = ps.length := by simp [partP]; omega
theorem partP_set (ps : List PairT) (k : Nat) (h : k < ps.length) : (partP ps k).set k (ps.getD k noPair) = partP ps (k + 1) := by
  have e : ps.take (k + 1) = ps.take k ++ [ps[k]] := by rw [List.take_add_one, List.getElem?_eq_getElem h]; rfl
  unfold partP
  rw [show ps.length - k = (ps.length - (k + 1)) + 1 by omega, List.replicate_succ, List.set_append_right _ _ (by rw [List.length_take]; omega), List.length_take, show k - min k ps.length = 0 by omega, List.set_cons_zero, e, List.getD_eq_getElem?_getD, List.getElem?_eq_getElem h, List.append_assoc]
  rfl
theorem info37 : (Tryd.prog.info? 68).map (fun i => (i.zero, i.size, i.bytes)) = some (some (.agg #[.string ⟨#[]⟩, .string ⟨#[]⟩]), 2, 32) := by kernel_rfl
theorem info_parts2 {i : Option TypeInfo} {a : Option Value} {b c : Nat} (h : i.map (fun i => (i.zero, i.size, i.bytes)) = some (a, b, c)) : ∃ j, i = some j ∧ j.zero = a ∧ j.size = b ∧ j.bytes = c := by
  cases i with
  | none => cases h
  | some j => simp only [Option.map_some, Option.some.injEq, Prod.mk.injEq] at h; exact ⟨j, rfl, h.1, h.2.1, h.2.2⟩
theorem make25 (n : Nat) (hn : n ≤ 1048576) (W : World) : (Instr.makeSlice 43 (.int .i64 (n : Int)) (.int .i64 (n : Int))).run Tryd.prog W = .ok (.slice (some ⟨W.heap.size, 0, none⟩) n n) (W.alloc (.cells (flatP (List.replicate n noPair)).toArray 68)) := by
  obtain ⟨i0, hi, hz0, hz1, hz2⟩ := info_parts2 info37
  have e : madeCells (Value.agg #[.string ⟨#[]⟩, .string ⟨#[]⟩]).cells (((n : Nat) : Int).toNat * i0.size) = (flatP (List.replicate n noPair)).toArray := by
    rw [hz1, Int.toNat_natCast, flatP_rep]
    show madeCells #[.string ⟨#[]⟩, .string ⟨#[]⟩] (n * 2) = _
    rw [← Array.toList_inj, made2]
  have h := run_make (P := Tryd.prog) W 43 68 i0 (.agg #[.string ⟨#[]⟩, .string ⟨#[]⟩]) Tryd.underlying43 hi hz0 .i64 .i64 (n : Int) (n : Int) (by omega) (by omega) (by rw [hz2]; omega) (by omega)
  rw [e] at h
  simpa using h
theorem toPair_any (k v : ByteArray) (w : World) : Calls Tryd.prog 42 #[.agg #[.string k, .string v]] w fun e w' => e = .returned (.agg #[.string k, .string v]) ∧ Below w.heap.size w w' := by
  have hb : Below w.heap.size w (((w.alloc (.cells #[.string k, .string v] 63)).alloc (.cells #[.string k, .string v] 68)).alloc (.cells #[.string k, .string v] 68)) := (((Below.refl _ _).alloc (Nat.le_refl _) _).alloc (by simp) _).alloc (by simp; omega) _
  go_enter Tryd.func42, Tryd.ntmps42
  go_wp2_with fail
  exact bodyPost_ret (v := .agg #[.string k, .string v]) (by simp [results, Tryd.results42, go_sem]) rfl ⟨rfl, hb⟩

set_option maxRecDepth 100000 in
set_option maxHeartbeats 1000000 in
theorem toPairS_any (a : Option Addr) (ps : List PairT) (c : Nat) (w : World) (h : PArg a ps w) :
    Calls Tryd.prog 19 #[.slice a ps.length c] w fun e w' => ∃ g, e = .returned (.slice (some ⟨g, 0, none⟩) ps.length ps.length) ∧ w.heap.size ≤ g ∧ PArg (some ⟨g, 0, none⟩) ps w' ∧ Below w.heap.size w w' := by
  have hn := h.le
  have hsm : SmallP ps := ⟨h.le, h.sz⟩
  have hmk := make25 ps.length hn
  obtain ⟨N, hN⟩ : ∃ N, ps.length = N := ⟨_, rfl⟩
  have hrow0 : Row (w.alloc (.cells (flatP (List.replicate ps.length noPair)).toArray 68)) w.heap.size w.heap.size (N * 2) (N * 2) (flatP (partP ps 0)) := by
    have hl : (flatP (List.replicate ps.length noPair)).toArray.size = N * 2 := by rw [List.size_toArray, flatP_len, List.length_replicate, hN]
    have := Row.of_block (Nat.le_refl w.heap.size) (heap_alloc_new w (.cells (flatP (List.replicate ps.length noPair)).toArray 68)) (N * 2) (by rw [hl]; exact Nat.le_refl _) (.inl rfl)
    rw [hl] at this
    have e : (flatP (List.replicate ps.length noPair)).toArray.toList.take (N * 2) = flatP (partP ps 0) := by
      rw [partP_zero, List.toList_toArray, List.take_of_length_le (by rw [flatP_len, List.length_replicate, hN]; exact Nat.le_refl _)]
    rw [e] at this
    exact this
  have hb0 : Below w.heap.size w (w.alloc (.cells (flatP (List.replicate ps.length noPair)).toArray 68)) := (Below.refl _ _).alloc (Nat.le_refl _) _
  obtain ⟨o, ho⟩ : ∃ o, (.cells (flatP (List.replicate ps.length noPair)).toArray 68 : Obj) = o := ⟨_, rfl⟩
  rw [ho] at hrow0 hb0 hmk
  clear ho
  rw [hN] at hmk hn ⊢
  have hNl : Hid (ps.length = N) := hN
  clear hN
  go_enter Tryd.func19, Tryd.ntmps19
  go_wp2_with fail
  obtain ⟨g, hg⟩ : ∃ g, w.heap.size = g := ⟨_, rfl⟩
  rw [hg] at hrow0 hb0 ⊢
  generalize w.alloc o = W0 at hrow0 hb0 ⊢
  go_loopw [4] (fun t wr => ∃ k : Nat, k ≤ N ∧ t = .int .i64 (k : Int) ∧ Row wr g g (N * 2) (N * 2) (flatP (partP ps k)) ∧ Below g w wr) (fun t _ => N - (intOf t).toNat)
  case atStart => exact ⟨0, Nat.zero_le _, rfl, hrow0, hb0⟩
  case round =>
    clear hrow0 hb0 hmk
    obtain ⟨k, hk, rfl, hrow, hbel⟩ := hrel
    by_cases hlt : k < N
    · have z1 : decide ((k : Int) < (N : Int)) = true := by simp; omega
      have hx0 : (0 : Int) ≤ (k : Int) := Int.natCast_nonneg _
      have hx1 : (k : Int) < (N : Int) := by omega
      obtain ⟨b, off, rfl, hbl, hc⟩ := (h.below (by rw [hg]; exact hbel)).at_ (by rw [hNl.out]; omega)
      obtain ⟨hc1, hc2⟩ := hc k (by rw [hNl.out]; exact hlt)
      have hbg : b < w.heap.size := by
        obtain ⟨b', off', he, hb', _⟩ := h.at_ (by rw [hNl.out]; omega)
        obtain ⟨rfl, rfl⟩ : b = b' ∧ off = off' := by simpa using he
        exact hb'
      have hkl : k < ps.length := by rw [hNl.out]; exact hlt
      have hstep := flatP_set (partP ps k) k (ps.getD k noPair).1 (ps.getD k noPair).2 (by rw [partP_len ps k (by omega)]; exact hkl)
      rw [show ((ps.getD k noPair).1, (ps.getD k noPair).2) = ps.getD k noPair from rfl, partP_set ps k hkl] at hstep
      generalize (ps.getD k noPair).1 = pk at hc1 hstep
      generalize (ps.getD k noPair).2 = pv at hc2 hstep
      have hstep' : Hid (((flatP (partP ps k)).set (k * 2) (.string pk)).set (k * 2 + 1) (.string pv) = flatP (partP ps (k + 1))) := hstep
      have hgl := hrow.lt
      have HT := fun w' => toPair_any pk pv w'
      have hset := fun w' (hr : Row w' g g (N * 2) (N * 2) (flatP (partP ps k))) => (hr.set (k * 2) (by omega) (.string pk)).set (k * 2 + 1) (by omega) (.string pv)
      rw [hstep] at hset
      replace hset : Hid _ := hset
      clear hc hstep hkl
      generalize flatP (partP ps k) = L at hrow hset
      go_wp2_with (go_at_call 42; refine (HT _).mono ?_; rintro e w1 ⟨rfl, hb1⟩; have hrow1 := hrow.below hb1; obtain ⟨y0, hy0⟩ := Option.isSome_iff_exists.1 (hrow1.room (k * 2) (by omega)); obtain ⟨y1, hy1⟩ := Option.isSome_iff_exists.1 (hrow1.room (k * 2 + 1) (by omega)); have hf0 := hrow1.free (k * 2) (by omega); have hf1 := hrow1.free (k * 2 + 1) (by omega))
      go_roundw
      case rel =>
        have hb1' : Below g w w1 := hbel.trans (hb1.mono (by omega))
        exact ⟨k + 1, hlt, by go_num, hset.out _ hrow1, (hb1'.setCell (Nat.le_refl _) _).setCell (Nat.le_refl _) _⟩
      case measure => simp [intOf]; omega
    · obtain rfl : k = N := by omega
      have z1 : decide ((k : Int) < (k : Int)) = false := by simp
      have hall : partP ps k = ps := by rw [← hNl.out]; exact partP_all ps
      rw [hall] at hrow
      go_wp2_with fail
      go_ret
      exact ⟨g, rfl, by omega, Row.parg hrow hsm, by rw [hg]; exact hbel⟩
theorem eqPair_any (k v : ByteArray) (w : World) : Calls Tryd.prog 47 #[.agg #[.string k, .string v], .agg #[.string k, .string v]] w fun e w' => e = .returned (.bool true) ∧ Below w.heap.size w w' := by
  have hb : Below w.heap.size w ((w.alloc (.cells #[.string k, .string v] 68)).alloc (.cells #[.string k, .string v] 68)) := ((Below.refl _ _).alloc (Nat.le_refl _) _).alloc (by simp) _
  go_enter Tryd.func47, Tryd.ntmps47
  go_wp2_with fail
  go_ret
  exact ⟨rfl, hb⟩

set_option maxRecDepth 100000 in
set_option maxHeartbeats 1000000 in
theorem eqPairS_any (a b : Option Addr) (ps : List PairT) (c d : Nat) (w : World) (h : PArg a ps w) (h' : PArg b ps w) :
    Calls Tryd.prog 21 #[.slice a ps.length c, .slice b ps.length d] w fun e w' => e = .returned (.bool true) ∧ Below w.heap.size w w' := by
  have hn := h.le
  obtain ⟨N, hN⟩ : ∃ N, ps.length = N := ⟨_, rfl⟩
  rw [hN] at hn ⊢
  have hNl : Hid (ps.length = N) := hN
  clear hN
  go_enter Tryd.func21, Tryd.ntmps21
  go_wp2_with fail
  go_loopw [5] (fun t wr => ∃ k : Nat, k ≤ N ∧ t = .int .i64 (k : Int) ∧ Below w.heap.size w wr) (fun t _ => N - (intOf t).toNat)
  case atStart => exact ⟨0, Nat.zero_le _, rfl, Below.refl _ _⟩
  case round =>
    obtain ⟨k, hk, rfl, hbw⟩ := hrel
    by_cases hlt : k < N
    · have z1 : decide ((k : Int) < (N : Int)) = true := by simp; omega
      have hx0 : (0 : Int) ≤ (k : Int) := Int.natCast_nonneg _
      have hx1 : (k : Int) < (N : Int) := by omega
      obtain ⟨b1, off1, rfl, hbl1, hc⟩ := (h.below hbw).at_ (by rw [hNl.out]; omega)
      obtain ⟨b2, off2, rfl, hbl2, hd⟩ := (h'.below hbw).at_ (by rw [hNl.out]; omega)
      obtain ⟨hc1, hc2⟩ := hc k (by rw [hNl.out]; exact hlt)
      obtain ⟨hd1, hd2⟩ := hd k (by rw [hNl.out]; exact hlt)
      generalize (ps.getD k noPair).1 = pk at hc1 hd1
      generalize (ps.getD k noPair).2 = pv at hc2 hd2
      have HE := fun w' => eqPair_any pk pv w'
      have HC : Hid (∀ W, Below wr.heap.size wr W → W.cell? ⟨b1, off1 + k * 2, none⟩ = some (.string pk) ∧ W.cell? ⟨b1, off1 + k * 2 + 1, none⟩ = some (.string pv) ∧ W.cell? ⟨b2, off2 + k * 2, none⟩ = some (.string pk) ∧ W.cell? ⟨b2, off2 + k * 2 + 1, none⟩ = some (.string pv)) := fun W hW => ⟨(hW.cell (p := ⟨b1, _, none⟩) hbl1).trans hc1, (hW.cell (p := ⟨b1, _, none⟩) hbl1).trans hc2, (hW.cell (p := ⟨b2, _, none⟩) hbl2).trans hd1, (hW.cell (p := ⟨b2, _, none⟩) hbl2).trans hd2⟩
      clear hc hd hc1 hc2 hd1 hd2
      go_wp2_with fail
      go_region_held3 (fun W => W.cell? ⟨b1, off1 + k * 2, none⟩ = some (.string pk) ∧ W.cell? ⟨b1, off1 + k * 2 + 1, none⟩ = some (.string pv) ∧ W.cell? ⟨b2, off2 + k * 2, none⟩ = some (.string pk) ∧ W.cell? ⟨b2, off2 + k * 2 + 1, none⟩ = some (.string pv)) (first | exact HC.out _ (Below.refl _ _).drew | exact HC.out _ hb1) (first | (go_at_call 47; refine (HE _).mono ?_; rintro e w1 ⟨rfl, hb1'⟩; have hb1 : Below wr.heap.size wr w1 := (Below.refl wr.heap.size wr).drew.trans hb1'))
      go_wp2_with fail
      go_roundw
      case rel => exact ⟨k + 1, hlt, by go_num, hbw.trans (hb1.mono hbw.size)⟩
      case measure => simp [intOf]; omega
    · obtain rfl : k = N := by omega
      have z1 : decide ((k : Int) < (k : Int)) = false := by simp
      go_wp2_with fail
      go_ret
      exact ⟨rfl, hbw⟩
end Go.Proofs.YtofglikppppjoacDoor
