import Derived.Test.YtofglikppppjoacDoorZa
import Derived.DeepKeys5
import Derived.Test.YtofglikppppjoacDoorProg
import Derived.Test.YtofglikppppjoacDoorZe
import Derived.WalkSpells
import Derived.WalkLawsBesides
import Derived.StillTactics
import Derived.Laws.Pointers
import Derived.Deep.RegionHeld3
import Derived.Carry
import Derived.Deep.Cut
import Derived.Test.YtofglikppppjoacDoorZf
import Derived.Deep.QuietTactic
import Derived.BigQuiet
import Derived.Test.YtofglikppppjoacDoorZc
namespace Go.Proofs.Sha
open Go Go.RowKit

/-- Thirty-two bytes as a key. -/
def K32 (X : List UInt8) : Value := .agg (X.map B).toArray
theorem mapM_some {α β : Type} (f : α → Option β) : ∀ l : List α, (∀ i ∈ l, ∃ y, f i = some y) → ∃ ys, l.mapM f = some ys
  | [], _ => ⟨[], rfl⟩
  | i :: l, h => by
    obtain ⟨y, hy⟩ := h i (List.mem_cons_self ..)
    obtain ⟨ys, hys⟩ := mapM_some f l (fun j hj => h j (List.mem_cons_of_mem _ hj))
    exact ⟨y :: ys, by rw [List.mapM_cons, hy, hys]; rfl⟩
theorem byte_wf (x : UInt8) : (Lit.int .u8 (x.toNat : Int)).wf = true := by
  have e1 : IntKind.u8.min = 0 := rfl
  have e2 : IntKind.u8.max = 255 := rfl
  have := UInt8.toNat_lt x
  unfold Lit.wf
  rw [Bool.and_eq_true, decide_eq_true_eq, decide_eq_true_eq, e1, e2]
  omega
theorem K32_inj {X Y : List UInt8} (h : K32 X = K32 Y) : X = Y := by
  unfold K32 at h
  simp only [Value.agg.injEq] at h
  have h' : X.map B = Y.map B := by
    have := congrArg Array.toList h
    simpa using this
  refine List.map_inj_right (f := B) ?_ |>.1 h'
  intro a b hab
  unfold B at hab
  simp only [Value.int.injEq, true_and] at hab
  exact UInt8.toNat_inj.1 (by omega)

/-- What is asked of the key's type. -/
structure Key32 (P : Program) (k e : TypeId) : Prop where
  ak : P.underlying k = some (.array 32 e)
  ae : P.underlying e = some (.int .u8)
  ce : P.cellsOf e = 1
  ck : P.cellsOf k = 32
  kt : P.keyType k = true
  law : WideMaps.KeyLaw P k
  tz : ∃ d, P.types.size = d + 1
section
variable {P : Program} {k e : TypeId}
theorem key_of (hk : Key32 P k e) (X : List UInt8) (hX : X.length = 32) : ∃ l, keyOf P k (K32 X) = some l := by
  have hform : (K32 X).formed P k = true := by
    unfold K32 Value.formed
    rw [hk.ak]
    simp [hk.ck, hX]
  have hcells : (K32 X).cells.toList = X.map B := by simp [K32, Value.cells]
  have hL : ∃ ls, P.keyLits (P.types.size + 1) k (X.map B) = some ls := by
    obtain ⟨ys, hys⟩ := mapM_some (fun i => P.keyLits P.types.size e (((X.map B).drop (i * P.cellsOf e)).take (P.cellsOf e))) (List.range 32) (fun i hi => by
      have hi' : i < X.length := by rw [hX]; exact List.mem_range.1 hi
      rw [hk.ce, Nat.mul_one]
      have e1 : ((X.map B).drop i).take 1 = [B X[i]] := by
        rw [List.drop_eq_getElem_cons (by rw [List.length_map]; exact hi'), List.take_succ_cons, List.take_zero, List.getElem_map]
      obtain ⟨d, hd⟩ := hk.tz
      refine ⟨[.int .u8 (X[i].toNat : Int)], ?_⟩
      rw [e1, hd]
      have hb := byte_wf X[i]
      simp [Program.keyLits, hk.ae, B, hb])
    refine ⟨ys.flatten, ?_⟩
    have hlen : (X.map B).length = P.cellsOf k := by rw [List.length_map, hX, hk.ck]
    simp only [Program.keyLits, hk.ak, hlen, if_true, hys, Option.map_some]
  obtain ⟨ls, hls⟩ := hL
  refine ⟨.string (keyBytes ls), ?_⟩
  unfold keyOf
  rw [hk.ak]
  simp only [hk.kt, hform, Bool.and_self, if_true, hcells, hls, Option.map_some]

/-- A map from thirty-two bytes to numbers, as a function. -/
structure MapF (F : List UInt8 → Option Int) (r : Nat) (w : World) : Prop where
  is : ∃ (es : Array MapEntry) (clock : Nat), w.heap[r]? = some (.map es clock) ∧ (∀ x ∈ es.toList, ∃ (X : List UInt8) (v : Int), X.length = 32 ∧ x.key = K32 X ∧ x.val = .int .i64 v ∧ F X = some v) ∧ (∀ X v, F X = some v → ∃ x ∈ es.toList, x.key = K32 X)
theorem MapF.below {F : List UInt8 → Option Int} {r : Nat} {w w' : World} (h : MapF F r w) (hb : Below w.heap.size w w') : MapF F r w' := by
  obtain ⟨es, clock, hg, h1, h2⟩ := h.is
  exact ⟨es, clock, (hb.block r (Array.getElem?_eq_some_iff.1 hg).1).trans hg, h1, h2⟩
theorem MapF.kept {F : List UInt8 → Option Int} {r g : Nat} {w w' : World} (h : MapF F r w) (hg : w.grownBy w' (some g)) (hne : r ≠ g) : MapF F r w' := by
  obtain ⟨es, clock, hh, h1, h2⟩ := h.is
  exact ⟨es, clock, (hg.block r (Array.getElem?_eq_some_iff.1 hh).1 (fun e => hne (Option.some.inj e))).trans hh, h1, h2⟩
theorem run_look (hk : Key32 P k e) {mt el : TypeId} (hm : P.underlying mt = some (.map k el)) (hz : ∀ w, (zeroValue el).run P w = .ok (.int .i64 0) w) {F : List UInt8 → Option Int} {r : Nat} {w : World} (h : MapF F r w) (X : List UInt8) (hX : X.length = 32) :
    (Instr.lookup mt (.map (some r)) (K32 X) true).run P w = .ok (.tuple #[.int .i64 ((F X).getD 0), .bool (F X).isSome]) w := by
  obtain ⟨es, clock, hg, h1, h2⟩ := h.is
  obtain ⟨l, hl⟩ := key_of hk X hX
  have hgo : (getObj r).run P w = .ok (.map es clock) w := by simp [getObj, Sem.run, hg]
  have hch := fun em => hk.law.check w em hl
  have hall : ∀ x ∈ es.toList, ∃ l, keyOf P k x.key = some l := fun x hx => by
    obtain ⟨Y, v, hY, hy, _, _⟩ := h1 x hx
    rw [hy]; exact key_of hk Y hY
  unfold Instr.lookup
  simp only [Sem.run_bind, run_underlying hm, Result.andThen_ok, hgo, Sem.run_pure, hch]
  rcases hk.law.find w hl es.toList hall with ⟨hf, hn⟩ | ⟨j, x, hf, hj, hx⟩
  · have hF : F X = none := by
      cases hFX : F X with
      | none => rfl
      | some v =>
        obtain ⟨x, hx, he⟩ := h2 X v hFX
        exact absurd he (hn x hx)
    simp only [hf, Result.andThen_ok, hF, Sem.run_bind, hz, Sem.run_pure]
    rfl
  · obtain ⟨Y, v, hY, hy, hv, hFY⟩ := h1 x (List.mem_of_getElem? hj)
    have : Y = X := K32_inj (hy.symm.trans hx)
    subst this
    simp only [hf, Result.andThen_ok, hFY, hv]
    rfl
theorem run_put (hk : Key32 P k e) {mt el : TypeId} (hm : P.underlying mt = some (.map k el)) {F : List UInt8 → Option Int} {r : Nat} {w : World} (h : MapF F r w) (X : List UInt8) (hX : X.length = 32) (hF : F X = none) (v : Int) :
    ∃ w', (Instr.mapUpdate mt (.map (some r)) (K32 X) (.int .i64 v)).run P w = .ok () w' ∧ MapF (fun Y => if Y = X then some v else F Y) r w' ∧ w.grownBy w' (some r) := by
  obtain ⟨es, clock, hg, h1, h2⟩ := h.is
  obtain ⟨l, hl⟩ := key_of hk X hX
  have hgo : (getObj r).run P w = .ok (.map es clock) w := by simp [getObj, Sem.run, hg]
  have hch := fun em => hk.law.check w em hl
  have hall : ∀ x ∈ es.toList, ∃ l, keyOf P k x.key = some l := fun x hx => by
    obtain ⟨Y, u, hY, hy, _, _⟩ := h1 x hx
    rw [hy]; exact key_of hk Y hY
  have hnone : (Instr.findKey k (K32 X) es.toList).run P w = .ok none w := by
    rcases hk.law.find w hl es.toList hall with ⟨hf, _⟩ | ⟨j, x, hf, hj, hx⟩
    · exact hf
    · obtain ⟨Y, u, hY, hy, _, hFY⟩ := h1 x (List.mem_of_getElem? hj)
      have : Y = X := K32_inj (hy.symm.trans hx)
      rw [this, hF] at hFY; cases hFY
  obtain ⟨o, ho⟩ : ∃ o : Obj, o = .map (es.push { key := K32 X, val := .int .i64 v, born := clock }) (clock + 1) := ⟨_, rfl⟩
  have hso : (setObj r o).run P w = .ok () { w with heap := w.heap.setIfInBounds r o } := by
    simp [setObj, Sem.run, hg]
  refine ⟨{ w with heap := w.heap.setIfInBounds r o }, ?_, ?_, ?_⟩
  · unfold Instr.mapUpdate
    simp only [Sem.run_bind, run_underlying hm, Result.andThen_ok, hgo, hch, hnone]
    rw [← ho]
    exact hso
  · have hlt : r < w.heap.size := (Array.getElem?_eq_some_iff.1 hg).1
    refine ⟨_, _, by show (w.heap.setIfInBounds r o)[r]? = _; rw [Array.getElem?_setIfInBounds_self, if_pos hlt, ho], ?_, ?_⟩
    · intro x hx
      rw [Array.toList_push, List.mem_append, List.mem_singleton] at hx
      rcases hx with hx | rfl
      · obtain ⟨Y, u, hY, hy, hv, hFY⟩ := h1 x hx
        refine ⟨Y, u, hY, hy, hv, ?_⟩
        rw [if_neg (fun e => by rw [e, hF] at hFY; cases hFY)]
        exact hFY
      · exact ⟨X, v, hX, rfl, rfl, if_pos rfl⟩
    · intro Y u hu
      rw [Array.toList_push]
      by_cases e : Y = X
      · subst e
        exact ⟨_, List.mem_append_right _ (List.mem_singleton.2 rfl), rfl⟩
      · rw [if_neg e] at hu
        obtain ⟨x, hx, hy⟩ := h2 Y u hu
        exact ⟨x, List.mem_append_left _ hx, hy⟩
  · refine ⟨rfl, rfl, rfl, by simp, fun j hj hne => ?_⟩
    show (w.heap.setIfInBounds r o)[j]? = _
    rw [Array.getElem?_setIfInBounds_ne (fun e => hne (by rw [e]))]
end
end Go.Proofs.Sha
namespace Go.Proofs.YtofglikppppjoacDoor
open Go.RowKit Go.Proofs.Sha

theorem key43 : Key32 Tryd.prog 85 5 :=
  ⟨Tryd.underlying85, Tryd.underlying5, by kernel_rfl, by kernel_rfl, by kernel_rfl, deep_law_gate (by kernel_rfl) (by decide +kernel) (by decide +kernel) (by kernel_rfl) (by rw [Tryd.underlying85]), ⟨Tryd.prog.types.size - 1, by kernel_rfl⟩⟩
def zeros32b : List UInt8 := List.replicate 32 0
theorem alloc43 (w : World) : (Instr.alloc 85 true (.tuple #[])).run Tryd.prog w = .ok (.pointer (some ⟨w.heap.size, 0, none⟩)) (w.alloc (.cells (zeros32b.map B).toArray 85)) := by kernel_rfl
theorem size43 : (Tryd.prog.info? 85).map (·.size) = some 32 := by kernel_rfl
/-- A hash cut to a width by zeros. -/
def cutW (k : Nat) (X : List UInt8) : List UInt8 := X.take k ++ List.replicate (32 - k) 0
theorem cutW_len (k : Nat) (X : List UInt8) (hX : X.length = 32) (hk : k ≤ 32) : (cutW k X).length = 32 := by unfold cutW; rw [List.length_append, List.length_take, List.length_replicate]; omega
/-- The first place counts. -/
def addF (F : List UInt8 → Option Int) (X : List UInt8) (v : Int) : List UInt8 → Option Int := if F X = none then fun Y => if Y = X then some v else F Y else F
/-- What encodingHash's contract says, by itself. -/
def HashSaid (K : World → Prop) : Prop := ∀ (s : ByteArray) (w : World), s.size ≤ 1048576 → K w → Calls Tryd.prog 59 #[.string s] w fun e w' => e = .returned (.agg ((sha (78 :: s.data.toList)).map B).toArray) ∧ Below w.heap.size w w'

theorem Row.setTail {w : World} {base g n cap : Nat} {xs : List Value} (h : Row w base g n cap xs) (o : Nat) (ys : List Value) (ho : o + ys.length = n) : Row (w.setCells g o ys) base g n cap (xs.take o ++ ys) := by
  have hin : ∀ j (hj : j < ys.length), (w.setCells g o ys).cell? ⟨g, o + j, none⟩ = some ys[j] := World.cell?_setCells_in g ys o w (fun j hj => h.room (o + j) (by have := h.le; omega))
  have hout : ∀ j, j < o ∨ o + ys.length ≤ j → (w.setCells g o ys).cell? ⟨g, j, none⟩ = w.cell? ⟨g, j, none⟩ := fun j hj => World.cell?_setCells_out g ys o w ⟨g, j, none⟩ (fun _ _ => hj)
  have hgr := grownBy_setCells g ys o w
  have hl := h.len
  refine ⟨h.ge, Nat.lt_of_lt_of_le h.lt hgr.size, by rw [List.length_append, List.length_take]; omega, h.le, ?_, ?_, ?_⟩
  · intro j hj
    rcases Nat.lt_or_ge j o with h1 | h1
    · rw [hout j (.inl h1), h.cell j (by omega), List.getElem?_append_left (by rw [List.length_take]; omega), List.getElem?_take, if_pos h1]
    · obtain ⟨q, rfl⟩ := Nat.exists_eq_add_of_le h1
      rw [hin q (by omega), List.getElem?_append_right (by rw [List.length_take]; omega), List.length_take, show o + q - min o xs.length = q by omega, List.getElem?_eq_getElem (by omega)]
  · intro j hj
    rcases Nat.lt_or_ge j o with h1 | h1
    · rw [hout j (.inl h1)]; exact h.room j hj
    · rcases Nat.lt_or_ge j (o + ys.length) with h2 | h2
      · obtain ⟨q, rfl⟩ := Nat.exists_eq_add_of_le h1
        rw [hin q (by omega)]; rfl
      · rw [hout j (.inr h2)]; exact h.room j hj
  · intro j hj
    rw [World.frozen?_setCells]; exact h.free j hj
theorem zeroV3 (w : World) : (zeroValue 3).run Tryd.prog w = .ok (.int .i64 0) w := by kernel_rfl
theorem zeroV5 (w : World) : (zeroValue 5).run Tryd.prog w = .ok (.int .u8 0) w := by kernel_rfl
theorem zeroCells_b (q : Nat) : (Builtin.zeroCells (Value.int .u8 0).cells q).toList = List.replicate q (B 0) := by
  show (Builtin.zeroCells #[Value.int .u8 0] q).toList = _
  rw [Builtin.zeroCells]
  apply List.ext_getElem
  · simp
  · intro j h1 h2
    simp [B, Nat.mod_one]
theorem run_clear_tail {w : World} {base g : Nat} {X : List UInt8} (h : Row w base g 32 32 (X.map B)) (_hX : X.length = 32) (k : Nat) (hk : k < 32) :
    ∃ w', (Builtin.clear_ #[87] 0 #[.slice (some ⟨g, k, none⟩) (32 - k) (32 - k)]).run Tryd.prog w = .ok (.tuple #[]) w' ∧ Row w' base g 32 32 ((cutW k X).map B) ∧ w.grownBy w' (some g) := by
  obtain ⟨q, hq⟩ : ∃ q, 32 - k = q + 1 := ⟨31 - k, by omega⟩
  have hst := run_storeCells_cells (P := Tryd.prog) g k (List.replicate (32 - k) (B 0)) 0 w (fun j hj => by rw [List.length_replicate] at hj; have := h.room (k + j) (by omega); simpa using this) (fun j hj => by rw [List.length_replicate] at hj; have := h.free (k + j) (by omega); simpa using this) (fun v hv => by rw [List.eq_of_mem_replicate hv]; rfl)
  simp only [Nat.add_zero] at hst
  refine ⟨w.setCells g k (List.replicate (32 - k) (B 0)), ?_, ?_, grownBy_setCells _ _ _ _⟩
  · unfold Builtin.clear_
    rw [hq] at hst ⊢
    simp only [Sem.run_bind, run_underlying Tryd.underlying87, Result.andThen_ok, zeroV5, zeroCells_b, List.getElem?_toArray, List.getElem?_cons_zero]
    rw [hst]
    rfl
  · have := Row.setTail h k (List.replicate (32 - k) (B 0)) (by rw [List.length_replicate]; omega)
    unfold cutW
    rw [List.map_append, List.map_take, List.map_replicate]
    exact this

end Go.Proofs.YtofglikppppjoacDoor
namespace Go.Proofs.YtofglikppppjoacDoor
open Go.RowKit Go.Proofs.Sha

/-- A node of a tree in its block. -/
def TBk (b : Nat) (k v : ByteArray) (l r : Option Addr) (enc h : ByteArray) (w : World) : Prop := w.heap[b]? = some (.cells (treeL (sha k.data.toList) k v l r enc h).toArray 104)
/-- What rankOf's contract says, by itself. -/
def RankSaid (K : World → Prop) : Prop := ∀ (s : ByteArray) (w : World), s.size ≤ 1048576 → K w → Calls Tryd.prog 107 #[.string s] w fun e w' => e = .returned (.agg (rankL (sha s.data.toList) s).toArray) ∧ Below w.heap.size w w'

set_option maxRecDepth 100000 in
set_option maxHeartbeats 1000000 in
theorem single_any {K : World → Prop} (HR : Hid (RankSaid K)) (keep : Hid (∀ w1 w2, K w1 → Below w1.heap.size w1 w2 → K w2)) (k v : ByteArray) (w : World) (hk : k.size ≤ 1048576) (hK : K w) :
    Calls Tryd.prog 92 #[.agg #[.string k, .string v]] w fun e w' => ∃ b, e = .returned (.pointer (some ⟨b, 0, none⟩)) ∧ w.heap.size ≤ b ∧ TBk b k v none none ⟨#[]⟩ ⟨#[]⟩ w' ∧ Below w.heap.size w w' := by
  have hbA : Below w.heap.size w (w.alloc (.cells #[.string k, .string v] 68)) := (Below.refl _ _).alloc (Nat.le_refl _) _
  have nA := heap_alloc_new w (.cells #[.string k, .string v] 68)
  have HC : Hid (∀ w', Below w.heap.size w w' → Calls Tryd.prog 107 #[.string k] w' fun e w'' => e = .returned (.agg (rankL (sha k.data.toList) k).toArray) ∧ Below w'.heap.size w' w'') := fun w' hb => HR.out k w' hk (keep.out _ _ hK hb)
  unfold TBk
  obtain ⟨x0, x1, x2, x3, x4, x5, x6, x7, x8, x9, x10, x11, x12, x13, x14, x15, x16, x17, x18, x19, x20, x21, x22, x23, x24, x25, x26, x27, x28, x29, x30, x31, hX⟩ := list32 (sha k.data.toList) (sha_len _)
  rw [hX] at HC
  rw [hX]
  clear hX
  unfold treeL
  unfold rankL at HC ⊢
  simp only [List.map_cons, List.map_nil, List.cons_append, List.nil_append] at HC ⊢
  unfold B at HC ⊢
  obtain ⟨ga, hga⟩ : ∃ ga, w.heap.size = ga := ⟨_, rfl⟩
  rw [hga] at nA
  go_enter Tryd.func92, Tryd.ntmps92
  go_upto_region 1 with fail
  try rw [hga]
  generalize w.alloc (.cells #[.string k, .string v] 68) = wa at hbA nA ⊢
  have HS : Hid (∀ W : World, Below wa.heap.size wa W → W.cell? ⟨ga, 0, none⟩ = some (.string k) ∧ W.cell? ⟨ga, 1, none⟩ = some (.string v)) := fun W hW => by
    have e := (hW.block ga (Array.getElem?_eq_some_iff.1 nA).1).trans nA
    exact ⟨Lib.cell_of_heap e 0, Lib.cell_of_heap e 1⟩
  go_region_held3 (fun W => W.cell? ⟨ga, 0, none⟩ = some (.string k) ∧ W.cell? ⟨ga, 1, none⟩ = some (.string v)) (first | exact HS.out _ (Below.refl _ _) | exact HS.out _ (Below.refl _ _).drew | exact HS.out _ hb2 | exact HS.out _ (hb3 _)) (first | (go_at_call 107; refine (HC.out _ hbA.drew).mono ?_; rintro e w2 ⟨rfl, hb2'⟩; have hb2 : Below wa.heap.size wa w2 := (Below.refl wa.heap.size wa).drew.trans hb2'; have hb3 : ∀ o : Obj, Below wa.heap.size wa (w2.alloc o) := fun o => hb2.alloc hb2.size o; clear hb2'))
  have nT := heap_alloc_new w2 (.cells #[.string k, .string v, .int .u8 (x0.toNat : Int), .int .u8 (x1.toNat : Int), .int .u8 (x2.toNat : Int), .int .u8 (x3.toNat : Int), .int .u8 (x4.toNat : Int), .int .u8 (x5.toNat : Int), .int .u8 (x6.toNat : Int), .int .u8 (x7.toNat : Int), .int .u8 (x8.toNat : Int), .int .u8 (x9.toNat : Int), .int .u8 (x10.toNat : Int), .int .u8 (x11.toNat : Int), .int .u8 (x12.toNat : Int), .int .u8 (x13.toNat : Int), .int .u8 (x14.toNat : Int), .int .u8 (x15.toNat : Int), .int .u8 (x16.toNat : Int), .int .u8 (x17.toNat : Int), .int .u8 (x18.toNat : Int), .int .u8 (x19.toNat : Int), .int .u8 (x20.toNat : Int), .int .u8 (x21.toNat : Int), .int .u8 (x22.toNat : Int), .int .u8 (x23.toNat : Int), .int .u8 (x24.toNat : Int), .int .u8 (x25.toNat : Int), .int .u8 (x26.toNat : Int), .int .u8 (x27.toNat : Int), .int .u8 (x28.toNat : Int), .int .u8 (x29.toNat : Int), .int .u8 (x30.toNat : Int), .int .u8 (x31.toNat : Int), .string k, .pointer none, .pointer none, .string ⟨#[]⟩, .string ⟨#[]⟩] 104)
  have hbT : Below w.heap.size w w2 := hbA.trans (hb2.mono hbA.size)
  have hle := hbT.size
  go_wp2_with fail
  go_ret
  rw [hga] at hbT hle
  exact ⟨w2.heap.size, rfl, hle, nT, hbT.alloc hle _⟩
end Go.Proofs.YtofglikppppjoacDoor
namespace Go.Proofs.YtofglikppppjoacDoor
open Go.RowKit Go.Proofs.Sha

theorem less_tri : ∀ a b : List UInt8, Op.bytesLess a b = !(Op.bytesLess b a || b == a)
  | [], [] => rfl
  | [], b :: y => by simp [Op.bytesLess]
  | a :: x, [] => by simp [Op.bytesLess]
  | a :: x, b :: y => by
    rw [Op.bytesLess, Op.bytesLess, less_tri x y]
    by_cases h : a = b
    · subst h
      simp
    · by_cases hl : a < b
      · have h2 : ¬ b < a := by rw [UInt8.lt_iff_toNat_lt] at hl ⊢; omega
        have h3 : ¬ b = a := fun e => h e.symm
        simp [hl, h2, h3]
      · have h2 : b < a := by
          rw [UInt8.lt_iff_toNat_lt] at hl ⊢
          have : a.toNat ≠ b.toNat := fun e => h (UInt8.toNat_inj.1 e)
          omega
        have h3 : ¬ b = a := fun e => h e.symm
        simp [h, hl, h2]
abbrev PairT := ByteArray × ByteArray
def noPair : PairT := (⟨#[]⟩, ⟨#[]⟩)
/-- A slice of pairs. -/
structure PArg (a : Option Addr) (ps : List PairT) (w : World) : Prop where
  le : ps.length ≤ 1048576
  sz : ∀ j, (ps.getD j noPair).1.size ≤ 1048576 ∧ (ps.getD j noPair).2.size ≤ 1048576
  at_ : 0 < ps.length → ∃ b off : Nat, a = some ⟨b, off, none⟩ ∧ b < w.heap.size ∧ ∀ j, j < ps.length → w.cell? ⟨b, off + j * 2, none⟩ = some (.string (ps.getD j noPair).1) ∧ w.cell? ⟨b, off + j * 2 + 1, none⟩ = some (.string (ps.getD j noPair).2)
theorem PArg.below {a : Option Addr} {ps : List PairT} {w w' : World} (h : PArg a ps w) (hb : Below w.heap.size w w') : PArg a ps w' := by
  refine ⟨h.le, h.sz, fun hn => ?_⟩
  obtain ⟨b, off, ha, hlt, hc⟩ := h.at_ hn
  exact ⟨b, off, ha, Nat.lt_of_lt_of_le hlt hb.size, fun j hj => ⟨(hb.cell (p := ⟨b, off + j * 2, none⟩) hlt).trans (hc j hj).1, (hb.cell (p := ⟨b, off + j * 2 + 1, none⟩) hlt).trans (hc j hj).2⟩⟩
def okKey (k : ByteArray) : Bool := decide (1 ≤ k.size ∧ k.size ≤ 256)
def okVal (v : ByteArray) : Bool := decide (v.size ≤ 2000)
/-- The key before. -/
def lastK (ps : List PairT) : Nat → ByteArray
  | 0 => ⟨#[]⟩
  | k + 1 => (ps.getD k noPair).1
def goodAt (ps : List PairT) (k : Nat) : Bool := okKey (ps.getD k noPair).1 && (okVal (ps.getD k noPair).2 && Op.bytesLess (lastK ps k).toList (ps.getD k noPair).1.toList)
def mapTo (ps : List PairT) : Nat → Bool
  | 0 => true
  | k + 1 => mapTo ps k && goodAt ps k
theorem mapTo_false (ps : List PairT) (k n : Nat) (h : k < n) (hg : goodAt ps k = false) : mapTo ps n = false := by
  induction n with
  | zero => omega
  | succ n ih =>
    rw [mapTo]
    by_cases e : k = n
    · subst e; rw [hg, Bool.and_false]
    · rw [ih (by omega), Bool.false_and]
def isMapT (ps : List PairT) : Bool := decide (ps.length ≤ 500) && mapTo ps ps.length
theorem vkey_any (k : ByteArray) (w : World) (hk : k.size ≤ 1048576) : Calls Tryd.prog 67 #[.string k] w fun e w' => e = .returned (.bool (okKey k)) ∧ w = w' := by
  by_cases c1 : 1 ≤ k.size
  · have hr : okKey k = decide ((k.size : Int) ≤ 256) := by
      unfold okKey
      by_cases c2 : k.size ≤ 256
      · rw [decide_eq_true (by omega), decide_eq_true (by omega)]
      · rw [decide_eq_false (by omega), decide_eq_false (by omega)]
    rw [hr]
    have z1 : decide ((1 : Int) ≤ (k.size : Int)) = true := by rw [decide_eq_true_eq]; omega
    have z2 : decide (1 ≤ k.size) = true := decide_eq_true c1
    have z3 : 0 < k.size := by omega
    clear hr
    go_enter Tryd.func67, Tryd.ntmps67
    go_wp2_with fail
    go_ret
    exact ⟨rfl, rfl⟩
  · have hr : okKey k = false := by unfold okKey; rw [decide_eq_false (by omega)]
    rw [hr]
    have z1 : decide ((1 : Int) ≤ (k.size : Int)) = false := by rw [decide_eq_false_iff_not]; omega
    have z0 : k.size = 0 := by omega
    clear hr
    go_enter Tryd.func67, Tryd.ntmps67
    go_wp2_with fail
    go_ret
    exact ⟨rfl, rfl⟩
theorem vval_any (v : ByteArray) (w : World) (hv : v.size ≤ 1048576) : Calls Tryd.prog 68 #[.string v] w fun e w' => e = .returned (.bool (okVal v)) ∧ w = w' := by
  have hr : okVal v = decide ((v.size : Int) ≤ 2000) := by
    unfold okVal
    by_cases c2 : v.size ≤ 2000
    · rw [decide_eq_true (by omega), decide_eq_true (by omega)]
    · rw [decide_eq_false (by omega), decide_eq_false (by omega)]
  rw [hr]
  go_enter Tryd.func68, Tryd.ntmps68
  go_wp2_with fail
  go_ret
  exact ⟨rfl, rfl⟩

set_option maxRecDepth 100000 in
set_option maxHeartbeats 1000000 in
theorem isMap_any (a : Option Addr) (ps : List PairT) (c : Nat) (w : World) (h : PArg a ps w) :
    Calls Tryd.prog 43 #[.slice a ps.length c] w fun e w' => e = .returned (.bool (isMapT ps)) ∧ Below w.heap.size w w' := by
  have hn := h.le
  obtain ⟨n, hnn⟩ : ∃ n, ps.length = n := ⟨_, rfl⟩
  obtain ⟨B, hB⟩ : ∃ B, isMapT ps = B := ⟨_, rfl⟩
  rw [hB, hnn]
  rw [hnn] at hn
  by_cases hx : 500 < n
  · have hf : Hid (B = false) := by show B = false; rw [← hB]; unfold isMapT; rw [decide_eq_false (by omega), Bool.false_and]
    have z1 : decide ((500 : Int) < (n : Int)) = true := by rw [decide_eq_true_eq]; omega
    have z2 : decide ((n : Int) > 500) = true := by rw [decide_eq_true_eq]; omega
    clear hB
    go_enter Tryd.func43, Tryd.ntmps43
    go_wp2_with fail
    go_ret
    exact ⟨by rw [hf.out]; rfl, Below.refl _ _⟩
  · have hBm : Hid (B = mapTo ps n) := by show B = _; rw [← hB]; unfold isMapT; rw [decide_eq_true (by omega), Bool.true_and, hnn]
    have z1 : decide ((500 : Int) < (n : Int)) = false := by rw [decide_eq_false_iff_not]; omega
    have z2 : decide ((n : Int) > 500) = false := by rw [decide_eq_false_iff_not]; omega
    have hnl : Hid (ps.length = n) := hnn
    clear hB hnn
    go_enter Tryd.func43, Tryd.ntmps43
    go_wp2_with fail
    go_loopw [3, 11] (fun t3 t11 wr => ∃ k : Nat, k ≤ n ∧ t3 = .string (lastK ps k) ∧ t11 = .int .i64 (k : Int) ∧ Hid (mapTo ps k = true) ∧ Below w.heap.size w wr) (fun _ t11 _ => n - (intOf t11).toNat)
    case atStart => exact ⟨0, Nat.zero_le _, rfl, rfl, rfl, Below.refl _ _⟩
    case round =>
      obtain ⟨k, hk, rfl, rfl, hm, hbw⟩ := hrel
      by_cases hlt : k < n
      · have z3 : decide ((k : Int) < (n : Int)) = true := by simp; omega
        have hx0 : (0 : Int) ≤ (k : Int) := Int.natCast_nonneg _
        have hx1 : (k : Int) < (n : Int) := by omega
        obtain ⟨b, off, rfl, hbl, hc⟩ := (h.below hbw).at_ (by rw [hnl.out]; omega)
        obtain ⟨hc1, hc2⟩ := hc k (by rw [hnl.out]; exact hlt)
        have hgd : Hid (goodAt ps k = (okKey (ps.getD k noPair).1 && (okVal (ps.getD k noPair).2 && Op.bytesLess (lastK ps k).toList (ps.getD k noPair).1.toList))) := rfl
        have hlk : Hid (lastK ps (k + 1) = (ps.getD k noPair).1) := rfl
        obtain ⟨hs1, hs2⟩ := h.sz k
        generalize (ps.getD k noPair).1 = pk at hc1 hgd hlk hs1
        generalize (ps.getD k noPair).2 = pv at hc2 hgd hs2
        generalize lastK ps k = lk at hgd ⊢
        have H1 : Hid (∀ w', Calls Tryd.prog 67 #[.string pk] w' fun e w'' => e = .returned (.bool (okKey pk)) ∧ w' = w'') := fun w' => vkey_any pk w' hs1
        have H2 : Hid (∀ w', Calls Tryd.prog 68 #[.string pv] w' fun e w'' => e = .returned (.bool (okVal pv)) ∧ w' = w'') := fun w' => vval_any pv w' hs2
        clear hc
        cases hk1 : okKey pk with
        | false =>
          rw [hk1] at H1
          have hbf : Hid (B = false) := by
            show B = false
            rw [hBm.out]
            exact mapTo_false ps k n hlt (by rw [hgd.out, hk1, Bool.false_and])
          clear hk1 hgd hm hBm
          have hbA : Below w.heap.size w (wr.alloc (.cells #[.string pk, .string pv] 68)) := hbw.alloc hbw.size _
          go_wp2_with (first | (go_at_call 67; refine (H1.out _).mono ?_; rintro e w1 ⟨rfl, rfl⟩))
          go_ret
          exact ⟨by rw [hbf.out]; rfl, hbA⟩
        | true =>
          rw [hk1] at H1
          cases hv1 : okVal pv with
          | false =>
            rw [hv1] at H2
            have hbf : Hid (B = false) := by
              show B = false
              rw [hBm.out]
              exact mapTo_false ps k n hlt (by rw [hgd.out, hk1, hv1]; rfl)
            clear hk1 hv1 hgd hm hBm
            have hbA : Below w.heap.size w (wr.alloc (.cells #[.string pk, .string pv] 68)) := hbw.alloc hbw.size _
            go_wp2_with (first | (go_at_call 67; refine (H1.out _).mono ?_; rintro e w1 ⟨rfl, rfl⟩) | (go_at_call 68; refine (H2.out _).mono ?_; rintro e w1 ⟨rfl, rfl⟩))
            go_ret
            exact ⟨by rw [hbf.out]; rfl, hbA⟩
          | true =>
            rw [hv1] at H2
            have hg2 : Hid (goodAt ps k = Op.bytesLess lk.toList pk.toList) := by show _ = _; rw [hgd.out, hk1, hv1]; rfl
            have hbA : Below w.heap.size w (wr.alloc (.cells #[.string pk, .string pv] 68)) := hbw.alloc hbw.size _
            clear hk1 hv1 hgd
            cases hls : Op.bytesLess lk.toList pk.toList with
            | false =>
              have hbf : Hid (B = false) := by
                show B = false
                rw [hBm.out]
                exact mapTo_false ps k n hlt (by rw [hg2.out, hls])
              have hor := less_tri lk.toList pk.toList
              rw [hls] at hor
              have hor2 : (Op.bytesLess pk.toList lk.toList || (pk.toList == lk.toList)) = true := by
                cases hq : (Op.bytesLess pk.toList lk.toList || (pk.toList == lk.toList)) with
                | true => rfl
                | false => rw [hq] at hor; cases hor
              clear hg2 hm hBm hor hls
              cases hq1 : Op.bytesLess pk.toList lk.toList with
              | true =>
                clear hor2
                go_wp2_with (first | (go_at_call 67; refine (H1.out _).mono ?_; rintro e w1 ⟨rfl, rfl⟩) | (go_at_call 68; refine (H2.out _).mono ?_; rintro e w1 ⟨rfl, rfl⟩))
                go_ret
                exact ⟨by rw [hbf.out]; rfl, hbA⟩
              | false =>
                rw [hq1, Bool.false_or] at hor2
                go_wp2_with (first | (go_at_call 67; refine (H1.out _).mono ?_; rintro e w1 ⟨rfl, rfl⟩) | (go_at_call 68; refine (H2.out _).mono ?_; rintro e w1 ⟨rfl, rfl⟩))
                go_ret
                exact ⟨by rw [hbf.out]; rfl, hbA⟩
            | true =>
              have hm' : Hid (mapTo ps (k + 1) = true) := by show _ = _; rw [mapTo, hm.out, hg2.out, hls]; rfl
              have hor := less_tri lk.toList pk.toList
              rw [hls] at hor
              have hq1 : Op.bytesLess pk.toList lk.toList = false := by
                cases hq : Op.bytesLess pk.toList lk.toList with
                | false => rfl
                | true => rw [hq, Bool.true_or] at hor; cases hor
              have hq2 : (pk.toList == lk.toList) = false := by
                cases hq : (pk.toList == lk.toList) with
                | false => rfl
                | true => rw [hq, Bool.or_true] at hor; cases hor
              clear hg2 hm hor hls
              go_wp2_with (first | (go_at_call 67; refine (H1.out _).mono ?_; rintro e w1 ⟨rfl, rfl⟩) | (go_at_call 68; refine (H2.out _).mono ?_; rintro e w1 ⟨rfl, rfl⟩))
              go_roundw
              case rel => exact ⟨k + 1, hlt, by rw [hlk.out], by go_num, hm', hbA⟩
              case measure => simp [intOf]; omega
      · obtain rfl : k = n := by omega
        have z3 : decide ((k : Int) < (k : Int)) = false := by simp
        have hbt : Hid (B = true) := by show B = true; rw [hBm.out, hm.out]
        clear hBm hm
        go_wp2_with fail
        go_ret
        exact ⟨by rw [hbt.out]; rfl, hbw⟩
end Go.Proofs.YtofglikppppjoacDoor
namespace Go.Proofs.YtofglikppppjoacDoor
open Go.RowKit Go.Proofs.Sha

theorem pairOk_any (k v : ByteArray) (w : World) (hk : k.size ≤ 1048576) (hv : v.size ≤ 1048576) : Calls Tryd.prog 65 #[.string k, .string v] w fun e w' => e = .returned (.bool (okKey k && okVal v)) ∧ w = w' := by
  have hr : okVal v = decide ((v.size : Int) ≤ 2000) := by
    unfold okVal
    by_cases c2 : v.size ≤ 2000
    · rw [decide_eq_true (by omega), decide_eq_true (by omega)]
    · rw [decide_eq_false (by omega), decide_eq_false (by omega)]
  by_cases c1 : 1 ≤ k.size
  · by_cases c2 : k.size ≤ 256
    · have hq : okKey k = true := by unfold okKey; rw [decide_eq_true (by omega)]
      rw [hq, hr, Bool.true_and]
      have z1 : decide ((k.size : Int) ≥ 1) = true := by rw [decide_eq_true_eq]; omega
      have z2 : decide ((1 : Int) ≤ (k.size : Int)) = true := by rw [decide_eq_true_eq]; omega
      have z3 : decide ((k.size : Int) ≤ 256) = true := by rw [decide_eq_true_eq]; omega
      have z4 : 0 < k.size := by omega
      have z5 : decide (1 ≤ k.size) = true := decide_eq_true c1
      clear hr hq
      go_enter Tryd.func65, Tryd.ntmps65
      go_wp2_with fail
      go_ret
      exact ⟨rfl, rfl⟩
    · have hq : okKey k = false := by unfold okKey; rw [decide_eq_false (by omega)]
      rw [hq, Bool.false_and]
      have z1 : decide ((k.size : Int) ≥ 1) = true := by rw [decide_eq_true_eq]; omega
      have z2 : decide ((1 : Int) ≤ (k.size : Int)) = true := by rw [decide_eq_true_eq]; omega
      have z3 : decide ((k.size : Int) ≤ 256) = false := by rw [decide_eq_false_iff_not]; omega
      have z4 : 0 < k.size := by omega
      have z5 : decide (1 ≤ k.size) = true := decide_eq_true c1
      clear hr hq
      go_enter Tryd.func65, Tryd.ntmps65
      go_wp2_with fail
      go_ret
      exact ⟨rfl, rfl⟩
  · have hq : okKey k = false := by unfold okKey; rw [decide_eq_false (by omega)]
    rw [hq, Bool.false_and]
    have z1 : decide ((k.size : Int) ≥ 1) = false := by rw [decide_eq_false_iff_not]; omega
    have z2 : decide ((1 : Int) ≤ (k.size : Int)) = false := by rw [decide_eq_false_iff_not]; omega
    have z0 : k.size = 0 := by omega
    clear hr hq
    go_enter Tryd.func65, Tryd.ntmps65
    go_wp2_with fail
    go_ret
    exact ⟨rfl, rfl⟩
end Go.Proofs.YtofglikppppjoacDoor
namespace Go.Proofs.YtofglikppppjoacDoor
open Go.RowKit Go.Proofs.Sha

theorem drew1 {w wr : World} (h : ∃ m, wr = w.drewN m) : ∃ m, wr.drew = w.drewN m := by
  obtain ⟨m, rfl⟩ := h
  exact ⟨m + 1, by rw [← World.drewN_drewN]; rfl⟩
set_option maxRecDepth 100000 in
set_option maxHeartbeats 400000 in
theorem less_q (p q : ByteArray) (w : World) (hp : p.size ≤ 1048576) (hq : q.size ≤ 1048576) :
    Calls Tryd.prog 66 #[.string p, .string q] w fun e w' => e = .returned (.bool (Op.bytesLess p.data.toList q.data.toList)) ∧ (∃ m, w' = w.drewN m) := by
  have hpl : p.data.toList.length = p.size := rfl
  have hql : q.data.toList.length = q.size := rfl
  go_enter Tryd.func66, Tryd.ntmps66
  go_wp2_with fail
  go_loopw [5] (fun t wr => ∃ k : Nat, k ≤ p.size ∧ k ≤ q.size ∧ t = .int .i64 (k : Int) ∧ Hid (Op.bytesLess p.data.toList q.data.toList = Op.bytesLess (p.data.toList.drop k) (q.data.toList.drop k)) ∧ ∃ m, wr = w.drewN m) (fun t _ => p.size - (intOf t).toNat)
  case atStart => exact ⟨0, by omega, by omega, rfl, rfl, 0, rfl⟩
  case round =>
    obtain ⟨k, hk1, hk2, rfl, HL, hb⟩ := hrel
    by_cases h1 : k < p.size
    · by_cases h2 : k < q.size
      · have z1 : (0 : Int) ≤ (k : Int) := by omega
        have z2 : (k : Int) < (p.size : Int) := by omega
        have z3 : (k : Int) < (q.size : Int) := by omega
        go_wp2_with fail
        go_region
        rw [bget p k h1, bget q k h2]
        have HE := less_eq p.data.toList q.data.toList k h1 h2
        have HN := less_ne p.data.toList q.data.toList k h1 h2
        obtain ⟨x, hx⟩ : ∃ x, p.data.toList.getD k 0 = x := ⟨_, rfl⟩
        obtain ⟨y, hy⟩ : ∃ y, q.data.toList.getD k 0 = y := ⟨_, rfl⟩
        rw [hx, hy] at HE HN
        rw [hx, hy]
        have HXY : Hid (p.data.toList.getD k 0 = x ∧ q.data.toList.getD k 0 = y) := ⟨hx, hy⟩
        clear hx hy
        by_cases hxy : x = y
        · have c0 : ((x.toNat : Int) != (y.toNat : Int)) = false := by rw [hxy]; simp
          have HE' : Hid (Op.bytesLess p.data.toList q.data.toList = Op.bytesLess (p.data.toList.drop (k + 1)) (q.data.toList.drop (k + 1))) := HL.out.trans (HE hxy)
          clear HE HN hxy
          go_wp2_with fail
          go_roundw
          case rel => exact ⟨k + 1, by omega, by omega, by go_num, HE', drew1 hb⟩
          case measure => simp [intOf]; omega
        · have c0 : ((x.toNat : Int) != (y.toNat : Int)) = true := by
            rw [bne_iff_ne]; exact fun h => hxy (UInt8.toNat_inj.1 (by omega))
          have HN' : Hid (Op.bytesLess p.data.toList q.data.toList = decide (x.toNat < y.toNat)) := (HL.out.trans (HN hxy)).trans (by simp)
          clear HE HN hxy
          go_wp2_with fail
          go_region
          rw [bget p k h1, bget q k h2, HXY.out.1, HXY.out.2]
          go_wp2
          go_ret
          exact ⟨by rw [HN'.out]; rfl, drew1 (drew1 hb)⟩
      · have HN' : Hid (Op.bytesLess p.data.toList q.data.toList = decide (p.size < q.size)) := (HL.out.trans (less_end p.data.toList q.data.toList k (.inr (by omega)) (by omega) (by omega))).trans (by simp)
        go_wp2
        go_ret
        exact ⟨by rw [HN'.out]; rfl, hb⟩
    · have HN' : Hid (Op.bytesLess p.data.toList q.data.toList = decide (p.size < q.size)) := (HL.out.trans (less_end p.data.toList q.data.toList k (.inl (by omega)) (by omega) (by omega))).trans (by simp)
      go_wp2
      go_ret
      exact ⟨by rw [HN'.out]; rfl, hb⟩

theorem pairOk_q (k v : ByteArray) (w : World) (hk : k.size ≤ 1048576) (hv : v.size ≤ 1048576) : Calls Tryd.prog 65 #[.string k, .string v] w fun e w' => e = .returned (.bool (okKey k && okVal v)) ∧ w' = w :=
  (pairOk_any k v w hk hv).mono fun _ _ ⟨he, hw⟩ => ⟨he, hw.symm⟩
end Go.Proofs.YtofglikppppjoacDoor
namespace Go.Proofs.YtofglikppppjoacDoor
open Go.RowKit Go.Proofs.Sha

theorem below_draws {B : Nat} {a w : World} (n : Nat) (h : Below B a w) : Below B a (w.drewN n) := ⟨h.os, h.tape, h.output, h.size, h.block⟩

set_option maxRecDepth 100000 in
set_option maxHeartbeats 1000000 in
theorem mapOk_any (a : Option Addr) (ps : List PairT) (c : Nat) (w : World) (h : PArg a ps w) :
    Calls Tryd.prog 39 #[.slice a ps.length c] w fun e w' => e = .returned (.bool (isMapT ps)) ∧ Below w.heap.size w w' := by
  have hn := h.le
  obtain ⟨n, hnn⟩ : ∃ n, ps.length = n := ⟨_, rfl⟩
  obtain ⟨B, hB⟩ : ∃ B, isMapT ps = B := ⟨_, rfl⟩
  rw [hB, hnn]
  rw [hnn] at hn
  by_cases hx : 500 < n
  · have hf : Hid (B = false) := by show B = false; rw [← hB]; unfold isMapT; rw [decide_eq_false (by omega), Bool.false_and]
    have z1 : decide ((500 : Int) < (n : Int)) = true := by rw [decide_eq_true_eq]; omega
    have z2 : decide ((n : Int) > 500) = true := by rw [decide_eq_true_eq]; omega
    clear hB
    go_enter Tryd.func39, Tryd.ntmps39
    go_wp2_with fail
    go_ret
    exact ⟨by rw [hf.out]; rfl, Below.refl _ _⟩
  · have hBm : Hid (B = mapTo ps n) := by show B = _; rw [← hB]; unfold isMapT; rw [decide_eq_true (by omega), Bool.true_and, hnn]
    have z1 : decide ((500 : Int) < (n : Int)) = false := by rw [decide_eq_false_iff_not]; omega
    have z2 : decide ((n : Int) > 500) = false := by rw [decide_eq_false_iff_not]; omega
    have hnl : Hid (ps.length = n) := hnn
    clear hB hnn
    go_enter Tryd.func39, Tryd.ntmps39
    go_wp2_with fail
    go_loopw [3] (fun t3 wr => ∃ k : Nat, k ≤ n ∧ t3 = .int .i64 (k : Int) ∧ Hid (mapTo ps k = true) ∧ Below w.heap.size w wr) (fun t3 _ => n - (intOf t3).toNat)
    case atStart => exact ⟨0, Nat.zero_le _, rfl, rfl, Below.refl _ _⟩
    case round =>
      obtain ⟨k, hk, rfl, hm, hbw⟩ := hrel
      by_cases hlt : k < n
      · have z3 : decide ((k : Int) < (n : Int)) = true := by simp; omega
        have hx0 : (0 : Int) ≤ (k : Int) := Int.natCast_nonneg _
        have hx1 : (k : Int) < (n : Int) := by omega
        obtain ⟨b, off, rfl, hbl, hc⟩ := (h.below hbw).at_ (by rw [hnl.out]; omega)
        obtain ⟨hc1, hc2⟩ := hc k (by rw [hnl.out]; exact hlt)
        have hgd : Hid (goodAt ps k = (okKey (ps.getD k noPair).1 && (okVal (ps.getD k noPair).2 && Op.bytesLess (lastK ps k).toList (ps.getD k noPair).1.toList))) := rfl
        obtain ⟨hs1, hs2⟩ := h.sz k
        have hkn : ∀ pk : ByteArray, okKey pk = true → Op.bytesLess (⟨#[]⟩ : ByteArray).toList pk.toList = true := fun pk hok => by
          unfold okKey at hok
          rw [decide_eq_true_eq] at hok
          have : pk.toList ≠ [] := fun e => by
            have hl := congrArg List.length e
            rw [ByteArray.toList_eq] at hl
            have h0 : pk.data.toList.length = pk.size := rfl
            have h1 : pk.size = 0 := h0.symm.trans hl
            omega
          have e0 : (⟨#[]⟩ : ByteArray).toList = [] := by rw [ByteArray.toList_eq]
          rw [e0]
          cases hp : pk.toList with
          | nil => exact absurd hp this
          | cons x y => rfl
        generalize hpk : (ps.getD k noPair).1 = pk at hc1 hgd hs1
        generalize (ps.getD k noPair).2 = pv at hc2 hgd hs2
        have H1 : ∀ w', Calls Tryd.prog 65 #[.string pk, .string pv] w' fun e w'' => e = .returned (.bool (okKey pk && okVal pv)) ∧ w'' = w' := fun w' => pairOk_q pk pv w' hs1 hs2
        cases hk1 : (okKey pk && okVal pv) with
        | false =>
          rw [hk1] at H1
          have hbf : Hid (B = false) := by
            show B = false
            rw [hBm.out]
            exact mapTo_false ps k n hlt (by rw [hgd.out, ← Bool.and_assoc, hk1, Bool.false_and])
          replace H1 : Hid _ := H1
          clear hk1 hgd hm hBm hc hkn hpk
          go_upto_region 6 with fail
          go_quiet ((go_at_call 65; exact Calls.quiet_of_same (H1.out _)))
          go_wp2_with fail
          go_ret
          exact ⟨by rw [hbf.out]; rfl, below_draws nq hbw⟩
        | true =>
          rw [hk1] at H1
          have hok : okKey pk = true := by cases hq : okKey pk with
            | true => rfl
            | false => rw [hq, Bool.false_and] at hk1; cases hk1
          have hg2 : Hid (goodAt ps k = Op.bytesLess (lastK ps k).toList pk.toList) := by show _ = _; rw [hgd.out, ← Bool.and_assoc, hk1, Bool.true_and]
          replace H1 : Hid _ := H1
          by_cases hk0 : k = 0
          · have hm' : Hid (mapTo ps (k + 1) = true) := by
              show _ = _
              rw [mapTo, hm.out, hg2.out, Bool.true_and]
              subst hk0
              exact hkn pk hok
            have y0 : ¬ (0 < (k : Int)) := by omega
            have y1 : decide (0 < (k : Int)) = false := by rw [decide_eq_false_iff_not]; exact y0
            have y2 : ¬ (0 < k) := by omega
            have y3 : decide (0 < k) = false := by rw [decide_eq_false_iff_not]; exact y2
            clear hk1 hgd hm hBm hc hkn hpk hg2 hk0 hok
            go_upto_region 6 with fail
            go_quiet ((go_at_call 65; exact Calls.quiet_of_same (H1.out _)))
            go_wp2_with fail
            go_roundw
            case rel => exact ⟨k + 1, hlt, by go_num, hm', below_draws nq hbw⟩
            case measure => simp [intOf]; omega
          · have y0 : 0 < (k : Int) := by omega
            have y1 : decide (0 < (k : Int)) = true := by rw [decide_eq_true_eq]; exact y0
            have y2 : 0 < k := by omega
            have y3 : decide (0 < k) = true := by rw [decide_eq_true_eq]; exact y2
            obtain ⟨hc3, hc4⟩ := hc (k - 1) (by rw [hnl.out]; omega)
            obtain ⟨hs3, hs4⟩ := h.sz (k - 1)
            have hlk : lastK ps k = (ps.getD (k - 1) noPair).1 := by cases k with | zero => exact absurd rfl hk0 | succ k' => rfl
            rw [hlk] at hg2
            generalize (ps.getD (k - 1) noPair).1 = pl at hc3 hs3 hg2
            have H2 : ∀ w', Calls Tryd.prog 66 #[.string pl, .string pk] w' fun e w'' => e = .returned (.bool (Op.bytesLess pl.toList pk.toList)) ∧ ∃ m, w'' = w'.drewN m := fun w' => by
              rw [ByteArray.toList_eq, ByteArray.toList_eq]
              exact less_q pl pk w' hs3 hs1
            have x0 : (0 : Int) ≤ (k : Int) - 1 := by omega
            have x1 : (k : Int) - 1 < (n : Int) := by omega
            have x2 : ((k : Int) - 1).toNat = k - 1 := by omega
            have x3 : wrap64 ((k : Int) - 1) = (k : Int) - 1 := by unfold wrap64; omega
            cases hlt2 : Op.bytesLess pl.toList pk.toList with
            | false =>
              rw [hlt2] at H2 hg2
              have hbf : Hid (B = false) := by
                show B = false
                rw [hBm.out]
                exact mapTo_false ps k n hlt hg2.out
              replace H2 : Hid _ := H2
              clear hk1 hgd hm hBm hc hkn hpk hg2 hk0 hok hlt2 hlk hc4 hs4
              go_upto_region 6 with fail
              go_quiet (first | (go_at_call 65; exact Calls.quiet_of_same (H1.out _)) | (go_at_call 66; exact Calls.quiet_of (H2.out _)))
              go_wp2_with fail
              go_ret
              exact ⟨by rw [hbf.out]; rfl, below_draws nq hbw⟩
            | true =>
              rw [hlt2] at H2 hg2
              have hm' : Hid (mapTo ps (k + 1) = true) := by
                show _ = _
                rw [mapTo, hm.out, hg2.out]; rfl
              replace H2 : Hid _ := H2
              clear hk1 hgd hm hBm hc hkn hpk hg2 hk0 hok hlt2 hlk hc4 hs4
              go_upto_region 6 with fail
              go_quiet (first | (go_at_call 65; exact Calls.quiet_of_same (H1.out _)) | (go_at_call 66; exact Calls.quiet_of (H2.out _)))
              go_wp2_with fail
              go_roundw
              case rel => exact ⟨k + 1, hlt, by go_num, hm', below_draws nq hbw⟩
              case measure => simp [intOf]; omega
      · obtain rfl : k = n := by omega
        have z3 : decide ((k : Int) < (k : Int)) = false := by simp
        have hbt : Hid (B = true) := by show B = true; rw [hBm.out, hm.out]
        clear hBm hm
        go_wp2_with fail
        go_ret
        exact ⟨by rw [hbt.out]; rfl, hbw⟩
end Go.Proofs.YtofglikppppjoacDoor
namespace Go.Proofs.YtofglikppppjoacDoor
open Go.RowKit Go.Proofs.Sha

def keyAt (ps : List PairT) (k : Nat) : ByteArray := (ps.getD k noPair).1
def shaB (s : ByteArray) : ByteArray := ⟨(sha s.data.toList).toArray⟩
theorem shaB_size (s : ByteArray) : (shaB s).size = 32 := by
  show (sha s.data.toList).toArray.size = 32
  rw [List.size_toArray, sha_len]
/-- 'a' beats 'b'. -/
def beats (x y a b : ByteArray) : Bool := Op.bytesLess y.data.toList x.data.toList || ((x.toList == y.toList) && Op.bytesLess a.data.toList b.data.toList)
/-- The place of the highest of the first 'k + 1'. -/
def topTo (ps : List PairT) : Nat → Nat
  | 0 => 0
  | k + 1 => if beats (shaB (keyAt ps (k + 1))) (shaB (keyAt ps (topTo ps k))) (keyAt ps (k + 1)) (keyAt ps (topTo ps k)) = true then k + 1 else topTo ps k
theorem topTo_le (ps : List PairT) : ∀ k, topTo ps k ≤ k
  | 0 => Nat.le_refl _
  | k + 1 => by
    rw [topTo]
    split
    · exact Nat.le_refl _
    · exact Nat.le_succ_of_le (topTo_le ps k)

set_option maxRecDepth 100000 in
set_option maxHeartbeats 3000000 in
theorem top_any (a : Option Addr) (ps : List PairT) (c : Nat) (w : World) (h : PArg a ps w) (h0 : 0 < ps.length) :
    Calls Tryd.prog 50 #[.slice a ps.length c] w fun e w' => e = .returned (.int .i64 (topTo ps (ps.length - 1) : Int)) ∧ Below w.heap.size w w' := by
  have hn := h.le
  have HW : ∀ w', Below w.heap.size w w' → PArg a ps w' := fun w' hb => h.below hb
  obtain ⟨b, off, rfl, hbl, hc⟩ := h.at_ h0
  have HC : ∀ w', Below w.heap.size w w' → ∀ j, j < ps.length → w'.cell? ⟨b, off + j * 2, none⟩ = some (.string (keyAt ps j)) := fun w' hb j hj => (hb.cell (p := ⟨b, off + j * 2, none⟩) hbl).trans (hc j hj).1
  obtain ⟨n, hnn⟩ : ∃ n, ps.length = n := ⟨_, rfl⟩
  rw [hnn]
  rw [hnn] at hn h0
  have HS : ∀ j, (keyAt ps j).size ≤ 1048576 := fun j => (h.sz j).1
  replace HW : Hid _ := HW
  replace HS : Hid _ := HS
  rw [hnn] at HC
  replace HC : Hid _ := HC
  have hnl : Hid (ps.length = n) := hnn
  have hc0 : w.cell? ⟨b, off + 0 * 2, none⟩ = some (.string (keyAt ps 0)) := HC.out w (Below.refl _ _) 0 h0
  have hc0' : w.cell? ⟨b, off, none⟩ = some (.string (keyAt ps 0)) := hc0
  have y0 : (0 : Int) < (n : Int) := by omega
  have H0 := fun w' => spec_any (keyAt ps 0) w' (HS.out 0)
  have hX0 : Hid ((⟨(sha (keyAt ps 0).data.toList).toArray⟩ : ByteArray) = shaB (keyAt ps 0)) := rfl
  generalize (⟨(sha (keyAt ps 0).data.toList).toArray⟩ : ByteArray) = X0 at H0 hX0
  replace H0 : Hid _ := H0
  clear hnn hc h hc0
  generalize hk0 : keyAt ps 0 = k0 at hc0' H0
  have hk0' : Hid (keyAt ps 0 = k0) := hk0
  clear hk0
  go_enter Tryd.func50, Tryd.ntmps50
  go_wp2_with (go_at_call 56; refine (H0.out _).mono ?_)
  rintro _ w1 ⟨rfl, hb1⟩
  go_wp2_with fail
  go_loopw [3, 4, 5] (fun t3 t4 t5 wr => ∃ k T j : Nat, Hid (topTo ps k = T) ∧ Hid (j = k + 1) ∧ T ≤ k ∧ k < n ∧ t3 = .int .i64 (T : Int) ∧ t4 = .string (shaB (keyAt ps T)) ∧ t5 = .int .i64 (j : Int) ∧ Below w.heap.size w wr) (fun _ _ t5 _ => n - (intOf t5).toNat)
  case atStart => exact ⟨0, 0, 1, rfl, rfl, Nat.le_refl _, h0, rfl, by rw [← hX0.out], rfl, hb1⟩
  case round =>
    obtain ⟨k, T, j, hT, hj, hTk, hk, rfl, rfl, rfl, hbw⟩ := hrel
    by_cases hlt : j < n
    · have z3 : decide ((j : Int) < (n : Int)) = true := by simp; omega
      have z4 : decide (j < n) = true := by rw [decide_eq_true_eq]; exact hlt
      have z0 : (0 : Int) ≤ (j : Int) := Int.natCast_nonneg _
      have z1 : (j : Int) < (n : Int) := by omega
      have q0 : (0 : Int) ≤ (T : Int) := Int.natCast_nonneg _
      have q1 : (T : Int) < (n : Int) := by omega
      have hc1 := HC.out wr hbw j hlt
      have H1 := fun w' => spec_any (keyAt ps j) w' (HS.out j)
      have hX : Hid ((⟨(sha (keyAt ps j).data.toList).toArray⟩ : ByteArray) = shaB (keyAt ps j)) := rfl
      rw [hX.out] at H1
      have hxs := shaB_size (keyAt ps j)
      have hys := shaB_size (keyAt ps T)
      have hks := HS.out j
      have hls := HS.out T
      have hst : Hid (topTo ps j = if beats (shaB (keyAt ps j)) (shaB (keyAt ps T)) (keyAt ps j) (keyAt ps T) = true then j else T) := by
        show _ = _
        rw [hj.out, topTo, hT.out]
      have HD : ∀ w', Below w.heap.size w w' → w'.cell? ⟨b, off + j * 2, none⟩ = some (.string (keyAt ps j)) ∧ w'.cell? ⟨b, off + T * 2, none⟩ = some (.string (keyAt ps T)) := fun w' hb => ⟨HC.out w' hb j hlt, HC.out w' hb T (by omega)⟩
      obtain ⟨x, hx⟩ : ∃ x, shaB (keyAt ps j) = x := ⟨_, rfl⟩
      obtain ⟨y, hy⟩ : ∃ y, shaB (keyAt ps T) = y := ⟨_, rfl⟩
      obtain ⟨kj, hkj⟩ : ∃ x, keyAt ps j = x := ⟨_, rfl⟩
      obtain ⟨kt, hkt⟩ : ∃ x, keyAt ps T = x := ⟨_, rfl⟩
      rw [hx, hy, hkj, hkt] at hst
      rw [hy]
      rw [hx] at hxs
      rw [hy] at hys
      rw [hkj] at hks
      rw [hkt] at hls
      rw [hkj, hkt] at HD
      rw [hkj] at hc1
      rw [hx, hkj] at H1
      have hxx : Hid (shaB (keyAt ps j) = x) := hx
      have hyy : Hid (shaB (keyAt ps T) = y) := hy
      have hxl : x.size ≤ 1048576 := by omega
      have hyl : y.size ≤ 1048576 := by omega
      replace HD : Hid _ := HD
      replace H1 : Hid _ := H1
      have H2 := fun w' => less_q y x w' hyl hxl
      have H3 := fun w' => less_q kj kt w' hks hls
      clear hx hy hkj hkt hxs hys hxl hyl hX
      go_upto_region 7 with (go_at_call 56; refine (H1.out _).mono ?_)
      rintro _ w2 ⟨rfl, hb2⟩
      have hbw2 : Below w.heap.size w w2 := hbw.trans (hb2.mono hbw.size)
      obtain ⟨hd1, hd2⟩ := HD.out w2 hbw2
      clear hb2 hbw hc1
      have hTj : T ≤ j := by have := hj.out; omega
      go_upto_region 7 with fail
      cases v1 : Op.bytesLess y.data.toList x.data.toList with
      | true =>
        rw [v1] at H2
        have hbt : Hid (beats x y kj kt = true) := by show _ = _; unfold beats; rw [v1, Bool.true_or]
        replace H2 : Hid _ := H2
        replace H3 : Hid _ := H3
        clear v1
        go_quiet (first | (go_at_call_of 66 (Value.string y); exact Calls.quiet_of (H2.out _)) | (go_at_call_of 66 (Value.string kj); exact Calls.quiet_of (H3.out _)))
        go_wp2_with fail
        go_roundw
        case rel => exact ⟨j, j, j + 1, by show _ = _; rw [hst.out, hbt.out]; rfl, rfl, Nat.le_refl _, hlt, rfl, by rw [hxx.out], by go_num, below_draws nq hbw2⟩
        case measure => simp [intOf]; omega
      | false =>
        rw [v1] at H2
        replace H2 : Hid _ := H2
        cases v2 : (x.toList == y.toList) with
        | false =>
          have hbt : Hid (beats x y kj kt = false) := by show _ = _; unfold beats; rw [v1, v2]; rfl
          replace H3 : Hid _ := H3
          clear v1
          go_quiet (first | (go_at_call_of 66 (Value.string y); exact Calls.quiet_of (H2.out _)) | (go_at_call_of 66 (Value.string kj); exact Calls.quiet_of (H3.out _)))
          go_wp2_with fail
          go_roundw
          case rel => exact ⟨j, T, j + 1, by show _ = _; rw [hst.out, hbt.out]; rfl, rfl, hTj, hlt, rfl, by rw [hyy.out], by go_num, below_draws nq hbw2⟩
          case measure => simp [intOf]; omega
        | true =>
          have hb3 : Hid (beats x y kj kt = Op.bytesLess kj.data.toList kt.data.toList) := by show _ = _; unfold beats; rw [v1, v2]; rfl
          clear v1
          cases v3 : Op.bytesLess kj.data.toList kt.data.toList with
          | true =>
            rw [v3] at H3 hb3
            replace H3 : Hid _ := H3
            clear v3
            go_quiet (first | (go_at_call_of 66 (Value.string y); exact Calls.quiet_of (H2.out _)) | (go_at_call_of 66 (Value.string kj); exact Calls.quiet_of (H3.out _)))
            go_wp2_with fail
            go_roundw
            case rel => exact ⟨j, j, j + 1, by show _ = _; rw [hst.out, hb3.out]; rfl, rfl, Nat.le_refl _, hlt, rfl, by rw [hxx.out], by go_num, below_draws nq hbw2⟩
            case measure => simp [intOf]; omega
          | false =>
            rw [v3] at H3 hb3
            replace H3 : Hid _ := H3
            clear v3
            go_quiet (first | (go_at_call_of 66 (Value.string y); exact Calls.quiet_of (H2.out _)) | (go_at_call_of 66 (Value.string kj); exact Calls.quiet_of (H3.out _)))
            go_wp2_with fail
            go_roundw
            case rel => exact ⟨j, T, j + 1, by show _ = _; rw [hst.out, hb3.out]; rfl, rfl, hTj, hlt, rfl, by rw [hyy.out], by go_num, below_draws nq hbw2⟩
            case measure => simp [intOf]; omega
    · have z3 : decide ((j : Int) < (n : Int)) = false := by simp; omega
      have hjn : n - 1 = k := by have := hj.out; omega
      have hTn : Hid (topTo ps (n - 1) = T) := by show _ = _; rw [hjn]; exact hT.out
      clear hjn hT hj
      go_wp2_with fail
      go_ret
      exact ⟨by rw [hTn.out]; rfl, hbw⟩
end Go.Proofs.YtofglikppppjoacDoor
namespace Go.Proofs.YtofglikppppjoacDoor
open Go.RowKit Go.Proofs.Sha

theorem less_irr (a : List UInt8) : Op.bytesLess a a = false := by
  induction a with
  | nil => rfl
  | cons x y ih => rw [Op.bytesLess]; simp [ih]
theorem beats_rk (x y a b : ByteArray) : beats x y a b = rk x.data.toList y.data.toList a.data.toList b.data.toList := by
  unfold beats rk
  rw [ByteArray.toList_eq, ByteArray.toList_eq]
  by_cases h : x.data.toList = y.data.toList
  · rw [if_pos h, h, less_irr, Bool.false_or, beq_self_eq_true, Bool.true_and]
  · rw [if_neg h, beq_eq_false_iff_ne.2 h, Bool.false_and, Bool.or_false]
end Go.Proofs.YtofglikppppjoacDoor
namespace Go.Proofs.YtofglikppppjoacDoor
open Go.RowKit Go.Proofs.Sha

theorem less_asy {a b : List UInt8} (h : Op.bytesLess a b = true) : Op.bytesLess b a = false := by
  rw [less_tri] at h
  cases hb : Op.bytesLess b a with
  | false => rfl
  | true => rw [hb] at h; simp at h
theorem less_tot {a b : List UInt8} (h : a ≠ b) : Op.bytesLess a b = true ∨ Op.bytesLess b a = true := by
  rw [less_tri a b]
  cases hb : Op.bytesLess b a with
  | true => exact .inr rfl
  | false =>
    left
    have : (b == a) = false := beq_eq_false_iff_ne.2 fun e => h e.symm
    rw [this]; rfl
theorem less_trans : ∀ a b c : List UInt8, Op.bytesLess a b = true → Op.bytesLess b c = true → Op.bytesLess a c = true
  | _, [], [], _, h => by simp [Op.bytesLess] at h
  | [], [], _ :: _, h, _ => by simp [Op.bytesLess] at h
  | _ :: _, [], _, h, _ => by simp [Op.bytesLess] at h
  | [], _ :: _, [], _, h => by simp [Op.bytesLess] at h
  | _ :: _, _ :: _, [], _, h => by simp [Op.bytesLess] at h
  | [], _ :: _, _ :: _, _, _ => by simp [Op.bytesLess]
  | a :: x, b :: y, c :: z, h1, h2 => by
    simp only [Op.bytesLess, Bool.or_eq_true, Bool.and_eq_true, decide_eq_true_eq, beq_iff_eq, UInt8.lt_iff_toNat_lt] at h1 h2 ⊢
    have ih := less_trans x y z
    rcases h1 with h1 | ⟨h1, h1'⟩ <;> rcases h2 with h2 | ⟨h2, h2'⟩
    · left; omega
    · subst h2; exact .inl h1
    · subst h1; exact .inl h2
    · subst h1; subst h2; exact .inr ⟨rfl, ih h1' h2'⟩
theorem rk_asy {x y a b : List UInt8} (h : rk x y a b = true) : rk y x b a = false := by
  unfold rk at h ⊢
  by_cases e : x = y
  · rw [if_pos e] at h; rw [if_pos e.symm]; exact less_asy h
  · rw [if_neg e] at h; rw [if_neg (fun q => e q.symm)]; exact less_asy h
theorem rk_tot {x y a b : List UInt8} (h : a ≠ b) : rk x y a b = true ∨ rk y x b a = true := by
  unfold rk
  by_cases e : x = y
  · rw [if_pos e, if_pos e.symm]; exact less_tot h
  · rw [if_neg e, if_neg (fun q => e q.symm)]; exact less_tot (fun q => e q.symm)
theorem rk_tra {x y z a b c : List UInt8} (h1 : rk x y a b = true) (h2 : rk y z b c = true) : rk x z a c = true := by
  unfold rk at h1 h2 ⊢
  by_cases e : x = y
  · subst e
    rw [if_pos rfl] at h1
    by_cases e2 : x = z
    · rw [if_pos e2] at h2 ⊢; exact less_trans _ _ _ h1 h2
    · rw [if_neg e2] at h2 ⊢; exact h2
  · rw [if_neg e] at h1
    by_cases e2 : y = z
    · subst e2
      rw [if_neg e]; exact h1
    · rw [if_neg e2] at h2
      have h3 := less_trans _ _ _ h2 h1
      have e3 : x ≠ z := fun q => by
        subst q
        rw [less_irr] at h3; cases h3
      rw [if_neg e3]; exact h3
/-- One pair is above another. -/
def abP (p q : PairT) : Bool := rk (sha p.1.data.toList) (sha q.1.data.toList) p.1.data.toList q.1.data.toList
theorem ranked_abP (ps : List PairT) (h : ∀ p ∈ ps, ∀ q ∈ ps, p ≠ q → p.1 ≠ q.1) : Ranked abP ps :=
  ⟨fun p hp q hq hne => rk_tot fun e => h p hp q hq hne (by
      have : p.1.data = q.1.data := Array.toList_inj.1 e
      exact ByteArray.ext this),
   fun _ _ _ _ => rk_asy, fun _ _ _ _ _ _ => rk_tra⟩
theorem beats_abP (p q : PairT) : beats (shaB p.1) (shaB q.1) p.1 q.1 = abP p q := beats_rk _ _ _ _
theorem topTo_above (ps : List PairT) (h : Ranked abP ps) (hd : ∀ i j, i < ps.length → j < ps.length → i ≠ j → ps.getD i noPair ≠ ps.getD j noPair) (k : Nat) (hk : k < ps.length) :
    ∀ j, j ≤ k → j ≠ topTo ps k → abP (ps.getD (topTo ps k) noPair) (ps.getD j noPair) = true := by
  have hm : ∀ i, i < ps.length → ps.getD i noPair ∈ ps := fun i hi => by
    rw [List.getD_eq_getElem?_getD, List.getElem?_eq_getElem hi]; exact List.getElem_mem hi
  induction k with
  | zero => intro j hj hne; exact absurd (Nat.le_zero.1 hj) hne
  | succ k ih =>
    intro j hj hne
    have hT := topTo_le ps k
    have ih := ih (by omega)
    by_cases hb : beats (shaB (keyAt ps (k + 1))) (shaB (keyAt ps (topTo ps k))) (keyAt ps (k + 1)) (keyAt ps (topTo ps k)) = true
    · have he : topTo ps (k + 1) = k + 1 := by rw [topTo, if_pos hb]
      rw [he] at hne ⊢
      have hb' : abP (ps.getD (k + 1) noPair) (ps.getD (topTo ps k) noPair) = true := (beats_abP _ _).symm.trans hb
      by_cases hjt : j = topTo ps k
      · rw [hjt]; exact hb'
      · exact h.tra _ (hm _ hk) _ (hm _ (by omega)) _ (hm _ (by omega)) hb' (ih j (by omega) hjt)
    · have he : topTo ps (k + 1) = topTo ps k := by rw [topTo, if_neg hb]
      rw [he] at hne ⊢
      by_cases hjk : j = k + 1
      · subst hjk
        rcases h.tot _ (hm (topTo ps k) (by omega)) _ (hm (k + 1) hk) (hd _ _ (by omega) hk (by omega)) with q | q
        · exact q
        · exact absurd ((beats_abP _ _).trans q) hb
      · exact ih j (by omega) hne
end Go.Proofs.YtofglikppppjoacDoor
