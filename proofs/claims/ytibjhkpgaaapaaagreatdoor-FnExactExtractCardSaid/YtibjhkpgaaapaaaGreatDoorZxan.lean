import Derived.Test.YtibjhkpgaaapaaaGreatDoorZxam
import Derived.Test.YtibjhkpgaaapaaaGreatDoorZxaa
import Derived.DeepKeys5
import Derived.Test.YtibjhkpgaaapaaaGreatDoorProg
import Derived.Test.YtibjhkpgaaapaaaGreatDoorZxai
import Derived.WalkSpells
import Derived.WalkLawsBesides
import Derived.StillTactics
import Derived.Laws.Pointers
import Derived.Deep.RegionHeld3
import Derived.Carry
import Derived.Deep.Cut
import Derived.Test.YtibjhkpgaaapaaaGreatDoorZxah
namespace Go.Proofs.YtibjhkpgaaapaaaGreatDoor
open Go.RowKit Go.Proofs.Sha

theorem row_take {w : World} {base g n cap : Nat} {xs : List Value} (h : Row w base g n cap xs) (k : Nat) (hk : k ≤ n) : Row w base g k cap (xs.take k) :=
  ⟨h.ge, h.lt, by rw [List.length_take, h.len]; exact Nat.min_eq_left hk, Nat.le_trans hk h.le, fun j hj => by rw [h.cell j (by omega), List.getElem?_take, if_pos hj], h.room, h.free⟩

set_option maxRecDepth 100000 in
set_option maxHeartbeats 800000 in
theorem ehash_any (s : ByteArray) (w : World) (hs : s.size ≤ 1048576)
    (hK : ∀ j, j < 64 → w.cell? ⟨0, j, none⟩ = some (.int .u32 ((kTab.getD j 0).toNat : Int))) :
    Calls Tryz.prog 175 #[.string s] w fun e w' => e = .returned (.agg ((sha (78 :: s.data.toList)).map B).toArray) ∧ Below w.heap.size w w' := by
  have hl0 : 0 < w.heap.size := World.block_lt_of_cell? w _ (hK 0 (by omega))
  have HK : Hid (∀ w' : World, Below w.heap.size w w' → ∀ j, j < 64 → w'.cell? ⟨0, j, none⟩ = some (.int .u32 ((kTab.getD j 0).toNat : Int))) := fun w' hb j hj => (hb.cell (by exact hl0)).trans (hK j hj)
  clear hK
  have hsl : (78 :: s.data.toList).length = 1 + s.size := by rw [List.length_cons]; show s.size + 1 = _; omega
  go_enter Tryz.func175, Tryz.ntmps175
  go_wp2_with (refine wpList_alloc_row _ rfl (some 2) rfl 247 247 rfl (zeros8.map B) alloc32 ?_; intro g2 w2 hr2 hb2)
  have hr2' : Row w2 w.heap.size g2 32 32 (zeros8.map B) := hr2
  have hge := hr2.ge
  have hlt := hr2.lt
  have hs2 := hb2.size
  clear hr2
  refine (new_any w2).mono ?_
  rintro e w3 ⟨rfl, hw3⟩
  have F3 : Fed w3 w2.heap.size [] (List.replicate 64 0) 0 := by rw [hw3]; exact fed_new w2
  have hb3 : Below w2.heap.size w2 w3 := by rw [hw3]; exact (Below.refl _ _).alloc (Nat.le_refl _) _
  clear hw3
  obtain ⟨b, hb⟩ : ∃ b, w2.heap.size = b := ⟨_, rfl⟩
  rw [hb] at F3
  rw [hb]
  have hs3 := hb3.size
  have hbw3 : Below w.heap.size w w3 := hb2.trans (hb3.mono hs2)
  have hR3 : Row w3 w.heap.size g2 32 32 (zeros8.map B) := hr2'.below hb3
  have hb0 : b ≠ 0 := by omega
  have hgb : g2 < b := by omega
  have hwb : w.heap.size ≤ b := by omega
  clear hr2' hb3 hb2
  go_wp2_with fail
  refine (feed_any b [] (List.replicate 64 0) ⟨#[78]⟩ w3 F3 (by simp; show 1 ≤ _; omega) hb0 (HK.out w3 hbw3)).mono ?_
  rintro e w3' ⟨rfl, ⟨k3, F3'⟩, hg3⟩
  have hs3' := hg3.size
  have hbw3' : Below w.heap.size w w3' := hbw3.trans (below_of_grown hg3 hwb (by omega))
  have hR3' : Row w3' w.heap.size g2 32 32 (zeros8.map B) := hR3.kept hg3 (by simp; omega)
  have F3n : Fed w3' b [78] k3 [78].length := F3'
  clear F3 F3' hg3 hR3 hbw3
  go_wp2_with fail
  refine (feed_any b [78] k3 s w3' F3n (by simp; omega) hb0 (HK.out w3' hbw3')).mono ?_
  rintro e w4 ⟨rfl, ⟨k4, F4⟩, hg4⟩
  have hs4 := hg4.size
  have hbw4 : Below w.heap.size w w4 := hbw3'.trans (below_of_grown hg4 hwb (by omega))
  have hR4 : Row w4 w.heap.size g2 32 32 (zeros8.map B) := hR3'.kept hg4 (by simp; omega)
  have F4n : Fed w4 b (78 :: s.data.toList) k4 (1 + s.size) := F4
  clear F3n F4 hg4 hR3' hbw3'
  have hfs := fin_sha (78 :: s.data.toList) k4 F4n.H.kl F4n.tk
  have H4 := F4n.H
  rw [hsl] at H4 hfs
  clear F4n
  go_wp2_with fail
  refine (finish_any b _ k4 _ (1 + s.size) w4 H4 (by omega) (by omega) hb0 (HK.out w4 hbw4)).mono ?_
  rintro e w5 ⟨rfl, hg5⟩
  rw [hfs]
  clear hfs H4
  have hbw5 : Below w.heap.size w w5 := hbw4.trans (below_of_grown hg5 hwb (by omega))
  have hR5 : Row w5 w.heap.size g2 32 32 (zeros8.map B) := hR4.kept hg5 (by simp; omega)
  have hln : ((sha (78 :: s.data.toList)).map B).length = 32 := by rw [List.length_map]; unfold sha; rw [outTo_length]
  have h1c : ∀ v ∈ (sha (78 :: s.data.toList)).map B, v.oneCell' = true := by
    intro v hv
    obtain ⟨x, _, rfl⟩ := List.mem_map.1 hv
    rfl
  obtain ⟨L, hL⟩ : ∃ L, (sha (78 :: s.data.toList)).map B = L := ⟨_, rfl⟩
  rw [hL] at hln h1c
  rw [hL]
  have HL : Hid ((sha (78 :: s.data.toList)).map B = L) := hL
  clear hL
  go_wp2_with (refine wpList_store_whole _ rfl rfl 247 (.tmp 2) (.tmp 11) rfl w.heap.size g2 32 (zeros8.map B) L rfl rfl hR5 hln size32 h1c ?_; intro w8 hR8 hg8)
  refine ret_row _ (p := 2) (ty := 247) rfl w.heap.size g2 32 32 L 5 rfl hR8 Tryz.underlying247 size32 rfl ?_
  refine ⟨?_, ?_⟩
  · rw [HL.out]
  · exact hbw5.trans (below_of_grown hg8 hge (by have := hbw5.size; omega))
end Go.Proofs.YtibjhkpgaaapaaaGreatDoor
namespace Go.Proofs.Sha
open Go Go.RowKit

/-- Thirty-two bytes as a key. -/
def K32 (X : List UInt8) : Value := .agg (X.map B).toArray
theorem mapM_some {α β : Type} (f : α → Option β) : ∀ l : List α, (∀ i ∈ l, ∃ y, f i = some y) → ∃ ys, l.mapM f = some ys
  | [], _ => ⟨[], rfl⟩
  | i :: l, h => by
    obtain ⟨y, hy⟩ := h i (List.mem_cons_self ..)
    obtain ⟨ys, hys⟩ := mapM_some f l (fun j hj => h j (List.mem_cons_of_mem _ hj))
    exact ⟨y :: ys, by rw [List.mapM_cons, hy, hys]; rfl⟩
theorem byte_wf (x : UInt8) : (Lit.int .u8 (x.toNat : Int)).wf = true := by
  have e1 : IntKind.u8.min = 0 := rfl
  have e2 : IntKind.u8.max = 255 := rfl
  have := UInt8.toNat_lt x
  unfold Lit.wf
  rw [Bool.and_eq_true, decide_eq_true_eq, decide_eq_true_eq, e1, e2]
  omega
theorem K32_inj {X Y : List UInt8} (h : K32 X = K32 Y) : X = Y := by
  unfold K32 at h
  simp only [Value.agg.injEq] at h
  have h' : X.map B = Y.map B := by
    have := congrArg Array.toList h
    simpa using this
  refine List.map_inj_right (f := B) ?_ |>.1 h'
  intro a b hab
  unfold B at hab
  simp only [Value.int.injEq, true_and] at hab
  exact UInt8.toNat_inj.1 (by omega)

/-- What is asked of the key's type. -/
structure Key32 (P : Program) (k e : TypeId) : Prop where
  ak : P.underlying k = some (.array 32 e)
  ae : P.underlying e = some (.int .u8)
  ce : P.cellsOf e = 1
  ck : P.cellsOf k = 32
  kt : P.keyType k = true
  law : WideMaps.KeyLaw P k
  tz : ∃ d, P.types.size = d + 1
section
variable {P : Program} {k e : TypeId}
theorem key_of (hk : Key32 P k e) (X : List UInt8) (hX : X.length = 32) : ∃ l, keyOf P k (K32 X) = some l := by
  have hform : (K32 X).formed P k = true := by
    unfold K32 Value.formed
    rw [hk.ak]
    simp [hk.ck, hX]
  have hcells : (K32 X).cells.toList = X.map B := by simp [K32, Value.cells]
  have hL : ∃ ls, P.keyLits (P.types.size + 1) k (X.map B) = some ls := by
    obtain ⟨ys, hys⟩ := mapM_some (fun i => P.keyLits P.types.size e (((X.map B).drop (i * P.cellsOf e)).take (P.cellsOf e))) (List.range 32) (fun i hi => by
      have hi' : i < X.length := by rw [hX]; exact List.mem_range.1 hi
      rw [hk.ce, Nat.mul_one]
      have e1 : ((X.map B).drop i).take 1 = [B X[i]] := by
        rw [List.drop_eq_getElem_cons (by rw [List.length_map]; exact hi'), List.take_succ_cons, List.take_zero, List.getElem_map]
      obtain ⟨d, hd⟩ := hk.tz
      refine ⟨[.int .u8 (X[i].toNat : Int)], ?_⟩
      rw [e1, hd]
      have hb := byte_wf X[i]
      simp [Program.keyLits, hk.ae, B, hb])
    refine ⟨ys.flatten, ?_⟩
    have hlen : (X.map B).length = P.cellsOf k := by rw [List.length_map, hX, hk.ck]
    simp only [Program.keyLits, hk.ak, hlen, if_true, hys, Option.map_some]
  obtain ⟨ls, hls⟩ := hL
  refine ⟨.string (keyBytes ls), ?_⟩
  unfold keyOf
  rw [hk.ak]
  simp only [hk.kt, hform, Bool.and_self, if_true, hcells, hls, Option.map_some]

/-- A map from thirty-two bytes to numbers, as a function. -/
structure MapF (F : List UInt8 → Option Int) (r : Nat) (w : World) : Prop where
  is : ∃ (es : Array MapEntry) (clock : Nat), w.heap[r]? = some (.map es clock) ∧ (∀ x ∈ es.toList, ∃ (X : List UInt8) (v : Int), X.length = 32 ∧ x.key = K32 X ∧ x.val = .int .i64 v ∧ F X = some v) ∧ (∀ X v, F X = some v → ∃ x ∈ es.toList, x.key = K32 X)
theorem MapF.below {F : List UInt8 → Option Int} {r : Nat} {w w' : World} (h : MapF F r w) (hb : Below w.heap.size w w') : MapF F r w' := by
  obtain ⟨es, clock, hg, h1, h2⟩ := h.is
  exact ⟨es, clock, (hb.block r (Array.getElem?_eq_some_iff.1 hg).1).trans hg, h1, h2⟩
theorem MapF.kept {F : List UInt8 → Option Int} {r g : Nat} {w w' : World} (h : MapF F r w) (hg : w.grownBy w' (some g)) (hne : r ≠ g) : MapF F r w' := by
  obtain ⟨es, clock, hh, h1, h2⟩ := h.is
  exact ⟨es, clock, (hg.block r (Array.getElem?_eq_some_iff.1 hh).1 (fun e => hne (Option.some.inj e))).trans hh, h1, h2⟩
theorem run_look (hk : Key32 P k e) {mt el : TypeId} (hm : P.underlying mt = some (.map k el)) (hz : ∀ w, (zeroValue el).run P w = .ok (.int .i64 0) w) {F : List UInt8 → Option Int} {r : Nat} {w : World} (h : MapF F r w) (X : List UInt8) (hX : X.length = 32) :
    (Instr.lookup mt (.map (some r)) (K32 X) true).run P w = .ok (.tuple #[.int .i64 ((F X).getD 0), .bool (F X).isSome]) w := by
  obtain ⟨es, clock, hg, h1, h2⟩ := h.is
  obtain ⟨l, hl⟩ := key_of hk X hX
  have hgo : (getObj r).run P w = .ok (.map es clock) w := by simp [getObj, Sem.run, hg]
  have hch := fun em => hk.law.check w em hl
  have hall : ∀ x ∈ es.toList, ∃ l, keyOf P k x.key = some l := fun x hx => by
    obtain ⟨Y, v, hY, hy, _, _⟩ := h1 x hx
    rw [hy]; exact key_of hk Y hY
  unfold Instr.lookup
  simp only [Sem.run_bind, run_underlying hm, Result.andThen_ok, hgo, Sem.run_pure, hch]
  rcases hk.law.find w hl es.toList hall with ⟨hf, hn⟩ | ⟨j, x, hf, hj, hx⟩
  · have hF : F X = none := by
      cases hFX : F X with
      | none => rfl
      | some v =>
        obtain ⟨x, hx, he⟩ := h2 X v hFX
        exact absurd he (hn x hx)
    simp only [hf, Result.andThen_ok, hF, Sem.run_bind, hz, Sem.run_pure]
    rfl
  · obtain ⟨Y, v, hY, hy, hv, hFY⟩ := h1 x (List.mem_of_getElem? hj)
    have : Y = X := K32_inj (hy.symm.trans hx)
    subst this
    simp only [hf, Result.andThen_ok, hFY, hv]
    rfl
theorem run_put (hk : Key32 P k e) {mt el : TypeId} (hm : P.underlying mt = some (.map k el)) {F : List UInt8 → Option Int} {r : Nat} {w : World} (h : MapF F r w) (X : List UInt8) (hX : X.length = 32) (hF : F X = none) (v : Int) :
    ∃ w', (Instr.mapUpdate mt (.map (some r)) (K32 X) (.int .i64 v)).run P w = .ok () w' ∧ MapF (fun Y => if Y = X then some v else F Y) r w' ∧ w.grownBy w' (some r) := by
  obtain ⟨es, clock, hg, h1, h2⟩ := h.is
  obtain ⟨l, hl⟩ := key_of hk X hX
  have hgo : (getObj r).run P w = .ok (.map es clock) w := by simp [getObj, Sem.run, hg]
  have hch := fun em => hk.law.check w em hl
  have hall : ∀ x ∈ es.toList, ∃ l, keyOf P k x.key = some l := fun x hx => by
    obtain ⟨Y, u, hY, hy, _, _⟩ := h1 x hx
    rw [hy]; exact key_of hk Y hY
  have hnone : (Instr.findKey k (K32 X) es.toList).run P w = .ok none w := by
    rcases hk.law.find w hl es.toList hall with ⟨hf, _⟩ | ⟨j, x, hf, hj, hx⟩
    · exact hf
    · obtain ⟨Y, u, hY, hy, _, hFY⟩ := h1 x (List.mem_of_getElem? hj)
      have : Y = X := K32_inj (hy.symm.trans hx)
      rw [this, hF] at hFY; cases hFY
  obtain ⟨o, ho⟩ : ∃ o : Obj, o = .map (es.push { key := K32 X, val := .int .i64 v, born := clock }) (clock + 1) := ⟨_, rfl⟩
  have hso : (setObj r o).run P w = .ok () { w with heap := w.heap.setIfInBounds r o } := by
    simp [setObj, Sem.run, hg]
  refine ⟨{ w with heap := w.heap.setIfInBounds r o }, ?_, ?_, ?_⟩
  · unfold Instr.mapUpdate
    simp only [Sem.run_bind, run_underlying hm, Result.andThen_ok, hgo, hch, hnone]
    rw [← ho]
    exact hso
  · have hlt : r < w.heap.size := (Array.getElem?_eq_some_iff.1 hg).1
    refine ⟨_, _, by show (w.heap.setIfInBounds r o)[r]? = _; rw [Array.getElem?_setIfInBounds_self, if_pos hlt, ho], ?_, ?_⟩
    · intro x hx
      rw [Array.toList_push, List.mem_append, List.mem_singleton] at hx
      rcases hx with hx | rfl
      · obtain ⟨Y, u, hY, hy, hv, hFY⟩ := h1 x hx
        refine ⟨Y, u, hY, hy, hv, ?_⟩
        rw [if_neg (fun e => by rw [e, hF] at hFY; cases hFY)]
        exact hFY
      · exact ⟨X, v, hX, rfl, rfl, if_pos rfl⟩
    · intro Y u hu
      rw [Array.toList_push]
      by_cases e : Y = X
      · subst e
        exact ⟨_, List.mem_append_right _ (List.mem_singleton.2 rfl), rfl⟩
      · rw [if_neg e] at hu
        obtain ⟨x, hx, hy⟩ := h2 Y u hu
        exact ⟨x, List.mem_append_left _ hx, hy⟩
  · refine ⟨rfl, rfl, rfl, by simp, fun j hj hne => ?_⟩
    show (w.heap.setIfInBounds r o)[j]? = _
    rw [Array.getElem?_setIfInBounds_ne (fun e => hne (by rw [e]))]
end
end Go.Proofs.Sha
namespace Go.Proofs.YtibjhkpgaaapaaaGreatDoor
open Go.RowKit Go.Proofs.Sha

theorem key43 : Key32 Tryz.prog 247 5 :=
  ⟨Tryz.underlying247, Tryz.underlying5, by kernel_rfl, by kernel_rfl, by kernel_rfl, deep_law_gate (by kernel_rfl) (by decide +kernel) (by decide +kernel) (by kernel_rfl) (by rw [Tryz.underlying247]), ⟨Tryz.prog.types.size - 1, by kernel_rfl⟩⟩
def zeros32b : List UInt8 := List.replicate 32 0
theorem alloc43 (w : World) : (Instr.alloc 247 true (.tuple #[])).run Tryz.prog w = .ok (.pointer (some ⟨w.heap.size, 0, none⟩)) (w.alloc (.cells (zeros32b.map B).toArray 247)) := by kernel_rfl
theorem size43 : (Tryz.prog.info? 247).map (·.size) = some 32 := by kernel_rfl
/-- A hash cut to a width by zeros. -/
def cutW (k : Nat) (X : List UInt8) : List UInt8 := X.take k ++ List.replicate (32 - k) 0
theorem cutW_len (k : Nat) (X : List UInt8) (hX : X.length = 32) (hk : k ≤ 32) : (cutW k X).length = 32 := by unfold cutW; rw [List.length_append, List.length_take, List.length_replicate]; omega
/-- The first place counts. -/
def addF (F : List UInt8 → Option Int) (X : List UInt8) (v : Int) : List UInt8 → Option Int := if F X = none then fun Y => if Y = X then some v else F Y else F
/-- What encodingHash's contract says, by itself. -/
def HashSaid (K : World → Prop) : Prop := ∀ (s : ByteArray) (w : World), s.size ≤ 1048576 → K w → Calls Tryz.prog 175 #[.string s] w fun e w' => e = .returned (.agg ((sha (78 :: s.data.toList)).map B).toArray) ∧ Below w.heap.size w w'

theorem Row.setTail {w : World} {base g n cap : Nat} {xs : List Value} (h : Row w base g n cap xs) (o : Nat) (ys : List Value) (ho : o + ys.length = n) : Row (w.setCells g o ys) base g n cap (xs.take o ++ ys) := by
  have hin : ∀ j (hj : j < ys.length), (w.setCells g o ys).cell? ⟨g, o + j, none⟩ = some ys[j] := World.cell?_setCells_in g ys o w (fun j hj => h.room (o + j) (by have := h.le; omega))
  have hout : ∀ j, j < o ∨ o + ys.length ≤ j → (w.setCells g o ys).cell? ⟨g, j, none⟩ = w.cell? ⟨g, j, none⟩ := fun j hj => World.cell?_setCells_out g ys o w ⟨g, j, none⟩ (fun _ _ => hj)
  have hgr := grownBy_setCells g ys o w
  have hl := h.len
  refine ⟨h.ge, Nat.lt_of_lt_of_le h.lt hgr.size, by rw [List.length_append, List.length_take]; omega, h.le, ?_, ?_, ?_⟩
  · intro j hj
    rcases Nat.lt_or_ge j o with h1 | h1
    · rw [hout j (.inl h1), h.cell j (by omega), List.getElem?_append_left (by rw [List.length_take]; omega), List.getElem?_take, if_pos h1]
    · obtain ⟨q, rfl⟩ := Nat.exists_eq_add_of_le h1
      rw [hin q (by omega), List.getElem?_append_right (by rw [List.length_take]; omega), List.length_take, show o + q - min o xs.length = q by omega, List.getElem?_eq_getElem (by omega)]
  · intro j hj
    rcases Nat.lt_or_ge j o with h1 | h1
    · rw [hout j (.inl h1)]; exact h.room j hj
    · rcases Nat.lt_or_ge j (o + ys.length) with h2 | h2
      · obtain ⟨q, rfl⟩ := Nat.exists_eq_add_of_le h1
        rw [hin q (by omega)]; rfl
      · rw [hout j (.inr h2)]; exact h.room j hj
  · intro j hj
    rw [World.frozen?_setCells]; exact h.free j hj
theorem zeroV3 (w : World) : (zeroValue 3).run Tryz.prog w = .ok (.int .i64 0) w := by kernel_rfl
theorem zeroV5 (w : World) : (zeroValue 5).run Tryz.prog w = .ok (.int .u8 0) w := by kernel_rfl
theorem zeroCells_b (q : Nat) : (Builtin.zeroCells (Value.int .u8 0).cells q).toList = List.replicate q (B 0) := by
  show (Builtin.zeroCells #[Value.int .u8 0] q).toList = _
  rw [Builtin.zeroCells]
  apply List.ext_getElem
  · simp
  · intro j h1 h2
    simp [B, Nat.mod_one]
theorem run_clear_tail {w : World} {base g : Nat} {X : List UInt8} (h : Row w base g 32 32 (X.map B)) (_hX : X.length = 32) (k : Nat) (hk : k < 32) :
    ∃ w', (Builtin.clear_ #[41] 0 #[.slice (some ⟨g, k, none⟩) (32 - k) (32 - k)]).run Tryz.prog w = .ok (.tuple #[]) w' ∧ Row w' base g 32 32 ((cutW k X).map B) ∧ w.grownBy w' (some g) := by
  obtain ⟨q, hq⟩ : ∃ q, 32 - k = q + 1 := ⟨31 - k, by omega⟩
  have hst := run_storeCells_cells (P := Tryz.prog) g k (List.replicate (32 - k) (B 0)) 0 w (fun j hj => by rw [List.length_replicate] at hj; have := h.room (k + j) (by omega); simpa using this) (fun j hj => by rw [List.length_replicate] at hj; have := h.free (k + j) (by omega); simpa using this) (fun v hv => by rw [List.eq_of_mem_replicate hv]; rfl)
  simp only [Nat.add_zero] at hst
  refine ⟨w.setCells g k (List.replicate (32 - k) (B 0)), ?_, ?_, grownBy_setCells _ _ _ _⟩
  · unfold Builtin.clear_
    rw [hq] at hst ⊢
    simp only [Sem.run_bind, run_underlying Tryz.underlying41, Result.andThen_ok, zeroV5, zeroCells_b, List.getElem?_toArray, List.getElem?_cons_zero]
    rw [hst]
    rfl
  · have := Row.setTail h k (List.replicate (32 - k) (B 0)) (by rw [List.length_replicate]; omega)
    unfold cutW
    rw [List.map_append, List.map_take, List.map_replicate]
    exact this

set_option maxRecDepth 100000 in
set_option maxHeartbeats 1000000 in
theorem newP_any (wd : Int) (w : World) : Calls Tryz.prog 152 #[.int .i64 wd] w fun e w' => ∃ r, e = .returned (.agg #[.int .i64 wd, .map (some r)]) ∧ w.heap.size ≤ r ∧ MapF (fun _ => none) r w' ∧ Below w.heap.size w w' := by
  have hmm := @run_makeMap Tryz.prog
  have hM : MapF (fun _ => none) (w.heap.size + 1) ((w.alloc (.cells #[.int .i64 wd, .map (some (w.heap.size + 1))] 192)).alloc (.map #[] 0)) := by
    refine ⟨#[], 0, ?_, fun x hx => by simp at hx, fun X v hv => by cases hv⟩
    have := heap_alloc_new (w.alloc (.cells #[.int .i64 wd, .map (some (w.heap.size + 1))] 192)) (.map #[] 0)
    rwa [World.size_alloc] at this
  go_enter Tryz.func152, Tryz.ntmps152
  go_wp2_with fail
  refine bodyPost_ret (v := .agg #[.int .i64 wd, .map (some (w.heap.size + 1))]) ?_ rfl ⟨w.heap.size + 1, rfl, by omega, hM, ((Below.refl _ w).alloc (Nat.le_refl _) _).alloc (by simp) _⟩
  clear hM
  simp [results, Tryz.results152, go_sem, asAddr]

set_option maxRecDepth 100000 in
set_option maxHeartbeats 1000000 in
theorem add_any {K : World → Prop} (HH : Hid (HashSaid K)) (wd : Nat) (r : Nat) (F : List UInt8 → Option Int) (enc : ByteArray) (pl : Int) (w : World) (h : MapF F r w) (hK : K w) (keep : Hid (∀ w1 w2, K w1 → Below w1.heap.size w1 w2 → K w2)) (hs : enc.size ≤ 1048576) (h1 : wd ≤ 32) :
    Calls Tryz.prog 153 #[.agg #[.int .i64 (wd : Int), .map (some r)], .string enc, .int .i64 pl] w fun e w' => e = .returned (.tuple #[]) ∧ MapF (addF F (cutW wd (sha (78 :: enc.data.toList))) pl) r w' ∧ w.grownBy w' (some r) := by
  obtain ⟨L, hL⟩ : ∃ L, sha (78 :: enc.data.toList) = L := ⟨_, rfl⟩
  have hLl : L.length = 32 := by rw [← hL]; unfold sha; rw [outTo_length]
  have HC : Hid (∀ w', K w' → Calls Tryz.prog 175 #[.string enc] w' fun e w'' => e = .returned (.agg (L.map B).toArray) ∧ Below w'.heap.size w' w'') := fun w' hw => by rw [← hL]; exact HH.out enc w' hs hw
  go_enter Tryz.func153, Tryz.ntmps153
  go_wp2_with fail
  refine (HC.out _ (keep.out _ _ hK ((Below.refl _ w).alloc (Nat.le_refl _) _))).mono ?_
  rintro e w1 ⟨rfl, hb1⟩
  have hn1 : w1.heap[w.heap.size]? = some (.cells #[.int .i64 (wd : Int), .map (some r)] 192) := (hb1.block _ (by simp)).trans (heap_alloc_new w _)
  have hB1 : Below w.heap.size w w1 := ((Below.refl _ w).alloc (Nat.le_refl _) _).trans (hb1.mono (by simp))
  have hrl : r < w.heap.size := by
    obtain ⟨es, cl, hg, _, _⟩ := h.is
    exact (Array.getElem?_eq_some_iff.1 hg).1
  obtain ⟨ga, hga⟩ : ∃ ga, w.heap.size = ga := ⟨_, rfl⟩
  have hLm : (L.map B).length = 32 := by rw [List.length_map, hLl]
  have h1c : ∀ v ∈ L.map B, v.oneCell' = true := by
    intro v hv
    obtain ⟨x, _, rfl⟩ := List.mem_map.1 hv
    rfl
  have hs1 := hB1.size
  go_upto_region 2 with (first | (refine wpList_alloc_row _ rfl (some 6) rfl 247 247 rfl (zeros32b.map B) alloc43 ?_; intro g2 w2 hr2 hb2) | (refine wpList_store_whole _ rfl rfl 247 (.tmp 6) (.tmp 10) rfl w1.heap.size g2 32 (zeros32b.map B) (L.map B) rfl rfl hr2 hLm size43 h1c ?_; intro w3 hR3 hg3))
  have hge := hR3.ge
  have hgl := hR3.lt
  have hB3' : Below w1.heap.size w1 w3 := hb2.trans (below_of_grown hg3 hge hb2.size)
  have hn3 : w3.heap[ga]? = some (.cells #[.int .i64 (wd : Int), .map (some r)] 192) := by
    rw [← hga]
    exact (hB3'.block _ (Array.getElem?_eq_some_iff.1 hn1).1).trans hn1
  have hM3 : MapF F r w3 := (h.below hB1).below hB3'
  have hB3 : Below w.heap.size w w3 := hB1.trans (hB3'.mono hB1.size)
  have hne : ga ≠ g2 := by have := (Array.getElem?_eq_some_iff.1 hn1).1; omega
  clear hb2 hr2 hg3 hB3' hn1 hb1 hB1
  have c0 := Lib.cell_of_heap hn3 0
  have c1 := Lib.cell_of_heap hn3 1
  have q1 : (wd : Int) ≤ 32 := by omega
  have q2 : (0 : Int) ≤ (wd : Int) := by omega
  by_cases hw : wd < 32
  · obtain ⟨w4, hcl, hR4, hg4⟩ := run_clear_tail hR3 hLl wd hw
    have hM4 := hM3.kept hg4 (by omega)
    have hn4 : w4.heap[ga]? = some (.cells #[.int .i64 (wd : Int), .map (some r)] 192) := (hg4.block ga (Array.getElem?_eq_some_iff.1 hn3).1 (fun e => hne (Option.some.inj e))).trans hn3
    have hB4 : w.grownBy w4 (some r) := by
      have : Below w.heap.size w w4 := hB3.trans (below_of_grown hg4 (by omega) hB3.size)
      exact grownBy_of_below this _
    go_upto_region 3 with fail
    clear hcl hR3 hg4 hM3 hn3 hB3 c0 c1
    have hX := cutW_len wd L hLl h1
    have HX : Hid (cutW wd (sha (78 :: enc.data.toList)) = cutW wd L) := by show _ = _; rw [hL]
    obtain ⟨X, hXX⟩ : ∃ X, cutW wd L = X := ⟨_, rfl⟩
    rw [hXX] at hR4 hX HX
    have hlk := run_look key43 Tryz.underlying190 zeroV3 hM4 X hX
    unfold K32 at hlk
    have d0 := Lib.cell_of_heap hn4 0
    have d1 := Lib.cell_of_heap hn4 1
    cases hF : F X with
    | some u =>
      rw [hF] at hlk
      have hend : MapF (addF F (cutW wd (sha (78 :: enc.data.toList))) pl) r w4 := by
        rw [HX.out]
        unfold addF
        rw [if_neg (by rw [hF]; intro hh; cases hh)]
        exact hM4
      clear HX hM4 hF
      go_wp2_with (first | (refine wpList_load_whole _ rfl 247 (.tmp 6) rfl w1.heap.size g2 32 32 (X.map B) 5 rfl hR4 Tryz.underlying247 size43 ?_))
      go_end0
      exact ⟨rfl, hend, hB4⟩
    | none =>
      rw [hF] at hlk
      obtain ⟨w5, hup, hM5, hg5⟩ := run_put key43 Tryz.underlying190 hM4 X hX hF pl
      unfold K32 at hup
      have hend : MapF (addF F (cutW wd (sha (78 :: enc.data.toList))) pl) r w5 := by
        rw [HX.out]
        unfold addF
        rw [if_pos hF]
        exact hM5
      have hB5 := grownBy_trans hB4 hg5
      clear HX hM4 hF hM5
      go_wp2_with (first | (refine wpList_load_whole _ rfl 247 (.tmp 6) rfl w1.heap.size g2 32 32 (X.map B) 5 rfl hR4 Tryz.underlying247 size43 ?_))
      go_end0
      exact ⟨rfl, hend, hB5⟩
  · obtain rfl : wd = 32 := by omega
    have hcl : (Builtin.clear_ #[41] 0 #[.slice (some ⟨g2, 0, none⟩) 0 0]).run Tryz.prog w3 = .ok (.tuple #[]) w3 := by
      unfold Builtin.clear_
      simp only [Sem.run_bind, run_underlying Tryz.underlying41, Result.andThen_ok, List.getElem?_toArray, List.getElem?_cons_zero]
      rfl
    have hc32 : cutW 32 L = L := by unfold cutW; rw [List.take_of_length_le (by omega)]; simp
    have hR4 : Row w3 w1.heap.size g2 32 32 ((cutW 32 L).map B) := by rw [hc32]; exact hR3
    have hM4 := hM3
    have hn4 := hn3
    have hB4 : w.grownBy w3 (some r) := grownBy_of_below hB3 _
    go_upto_region 3 with fail
    clear hcl hR3 hM3 hn3 hB3 c0 c1 hc32
    have hX := cutW_len 32 L hLl h1
    have HX : Hid (cutW 32 (sha (78 :: enc.data.toList)) = cutW 32 L) := by show _ = _; rw [hL]
    obtain ⟨X, hXX⟩ : ∃ X, cutW 32 L = X := ⟨_, rfl⟩
    rw [hXX] at hR4 hX HX
    have hlk := run_look key43 Tryz.underlying190 zeroV3 hM4 X hX
    unfold K32 at hlk
    have d0 := Lib.cell_of_heap hn4 0
    have d1 := Lib.cell_of_heap hn4 1
    cases hF : F X with
    | some u =>
      rw [hF] at hlk
      have hend : MapF (addF F (cutW 32 (sha (78 :: enc.data.toList))) pl) r w3 := by
        rw [HX.out]
        unfold addF
        rw [if_neg (by rw [hF]; intro hh; cases hh)]
        exact hM4
      clear HX hM4 hF
      go_wp2_with (first | (refine wpList_load_whole _ rfl 247 (.tmp 6) rfl w1.heap.size g2 32 32 (X.map B) 5 rfl hR4 Tryz.underlying247 size43 ?_))
      go_end0
      exact ⟨rfl, hend, hB4⟩
    | none =>
      rw [hF] at hlk
      obtain ⟨w5, hup, hM5, hg5⟩ := run_put key43 Tryz.underlying190 hM4 X hX hF pl
      unfold K32 at hup
      have hend : MapF (addF F (cutW 32 (sha (78 :: enc.data.toList))) pl) r w5 := by
        rw [HX.out]
        unfold addF
        rw [if_pos hF]
        exact hM5
      have hB5 := grownBy_trans hB4 hg5
      clear HX hM4 hF hM5
      go_wp2_with (first | (refine wpList_load_whole _ rfl 247 (.tmp 6) rfl w1.heap.size g2 32 32 (X.map B) 5 rfl hR4 Tryz.underlying247 size43 ?_))
      go_end0
      exact ⟨rfl, hend, hB5⟩
end Go.Proofs.YtibjhkpgaaapaaaGreatDoor
