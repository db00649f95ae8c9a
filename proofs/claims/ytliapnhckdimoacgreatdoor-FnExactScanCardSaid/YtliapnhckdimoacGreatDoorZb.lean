import Derived.Test.YtliapnhckdimoacGreatDoorZa
import Derived.Test.YtliapnhckdimoacGreatDoorProg
import Derived.WalkSpells
import Derived.WalkLawsBesides
import Derived.StillTactics
import Derived.Laws.Pointers
import Derived.Deep.RegionHeld3
import Derived.Carry
import Derived.Deep.Cut
import Derived.Lib.BufferWrite
namespace Go.Proofs.Sha
open Go Go.RowKit
section
variable {P : Program} (w : World)
theorem wpList_box_row {ops : Array Oper} {rest : List Oper} {o : Oper} {a : Act} {Q : Exit → Act → World → Prop} (hgd : o.guard = none) (dst : Option Tmp) (hdst : o.dst = dst) (ty : TypeId) (x : Operand) (ho : o.op = .box ty x) (xs : List Value) (hx : a.eval x = .agg xs.toArray)
    (h : ∀ g w', Row w' w.heap.size g xs.length xs.length xs → Below w.heap.size w w' → wpList P ops Q rest (a.put dst (.pointer (some ⟨g, 0, none⟩))) w') : wpList P ops Q (o :: rest) a w := by
  refine Go.Great.wpList_runTo hgd dst hdst (.pointer (some ⟨w.heap.size, 0, none⟩)) (w.alloc (.cells xs.toArray ty)) ?_ (h _ _ ?_ ((Below.refl _ _).alloc (Nat.le_refl _) _))
  · unfold execOp
    simp only [ho, hx]
    rfl
  · have := Row.of_block (base := w.heap.size) (Nat.le_refl _) (heap_alloc_new w (.cells xs.toArray ty)) xs.length (by simp) (.inl rfl)
    simpa using this
theorem wpList_build_to {ops : Array Oper} {rest : List Oper} {o : Oper} {a : Act} {Q : Exit → Act → World → Prop} (hgd : o.guard = none) (t : TypeId) (parts : Array (Nat × Operand)) (ho : o.op = .build t parts) (cells : Array Value)
    (hb : P.built t (parts.toList.map fun (i, x) => (i, a.eval x)) = some cells)
    (h : wpList P ops Q rest (a.put o.dst (.agg cells)) w) : wpList P ops Q (o :: rest) a w := by
  rw [← Array.toList_map] at hb
  refine Go.Great.wpList_runTo hgd o.dst rfl (.agg cells) w ?_ h
  unfold execOp
  simp only [ho, Sem.run_bind, run_build w t _ cells hb, Result.andThen_ok, Sem.run_pure]
theorem ret_any {fn : Func} {R : Ending → World → Prop} {a : Act} {p : Tmp} {ty : TypeId} {d : TypeDesc} (hres : fn.results = #[.cell p ty]) (base g n cap : Nat) (xs : List Value) (ht : a.tmps.getD p undef = .pointer (some ⟨g, 0, none⟩))
    (hr : Row w base g n cap xs) (hu : P.underlying ty = some d) (hd : d.isRow = true) (hi : (P.info? ty).map (·.size) = some n) (hdef : a.defers = []) (hR : R (.returned (.agg xs.toArray)) w) : bodyPost P fn R .ret a w := by
  refine bodyPost_ret (v := .agg xs.toArray) ?_ hdef hR
  rw [results_cell w hres a.tmps _ ht]
  exact run_loadVar_mid w g 0 ty xs _ hr.range hu hd (by rw [hi, hr.len])
theorem Row.prefix {w : World} {base g n cap : Nat} {xs ys : List Value} (h : Row w base g n cap (xs ++ ys)) : w.rangeAt g 0 xs := fun j v hv => by
  refine h.range j v ?_
  rw [List.getElem?_append_left (List.getElem?_eq_some_iff.1 hv).1, hv]
end
end Go.Proofs.Sha
namespace Go.Proofs.YtliapnhckdimoacGreatDoor
open Go.RowKit Go.Proofs.Sha

theorem key43 : Key32 Tryz.prog 71 5 :=
  ⟨Tryz.underlying71, Tryz.underlying5, by kernel_rfl, by kernel_rfl, by kernel_rfl, deep_law_gate (by kernel_rfl) (by decide +kernel) (by decide +kernel) (by kernel_rfl) (by rw [Tryz.underlying71]), ⟨Tryz.prog.types.size - 1, by kernel_rfl⟩⟩
def zeros32b : List UInt8 := List.replicate 32 0
theorem alloc43 (w : World) : (Instr.alloc 71 true (.tuple #[])).run Tryz.prog w = .ok (.pointer (some ⟨w.heap.size, 0, none⟩)) (w.alloc (.cells (zeros32b.map B).toArray 71)) := by kernel_rfl
theorem size43 : (Tryz.prog.info? 71).map (·.size) = some 32 := by kernel_rfl
/-- A hash cut to a width by zeros. -/
def cutW (k : Nat) (X : List UInt8) : List UInt8 := X.take k ++ List.replicate (32 - k) 0
theorem cutW_len (k : Nat) (X : List UInt8) (hX : X.length = 32) (hk : k ≤ 32) : (cutW k X).length = 32 := by unfold cutW; rw [List.length_append, List.length_take, List.length_replicate]; omega
/-- The first place counts. -/
def addF (F : List UInt8 → Option Int) (X : List UInt8) (v : Int) : List UInt8 → Option Int := if F X = none then fun Y => if Y = X then some v else F Y else F
/-- What encodingHash's contract says, by itself. -/
def HashSaid (K : World → Prop) : Prop := ∀ (s : ByteArray) (w : World), s.size ≤ 1048576 → K w → Calls Tryz.prog 40 #[.string s] w fun e w' => e = .returned (.agg ((sha (78 :: s.data.toList)).map B).toArray) ∧ Below w.heap.size w w'

theorem Row.setTail {w : World} {base g n cap : Nat} {xs : List Value} (h : Row w base g n cap xs) (o : Nat) (ys : List Value) (ho : o + ys.length = n) : Row (w.setCells g o ys) base g n cap (xs.take o ++ ys) := by
  have hin : ∀ j (hj : j < ys.length), (w.setCells g o ys).cell? ⟨g, o + j, none⟩ = some ys[j] := World.cell?_setCells_in g ys o w (fun j hj => h.room (o + j) (by have := h.le; omega))
  have hout : ∀ j, j < o ∨ o + ys.length ≤ j → (w.setCells g o ys).cell? ⟨g, j, none⟩ = w.cell? ⟨g, j, none⟩ := fun j hj => World.cell?_setCells_out g ys o w ⟨g, j, none⟩ (fun _ _ => hj)
  have hgr := grownBy_setCells g ys o w
  have hl := h.len
  refine ⟨h.ge, Nat.lt_of_lt_of_le h.lt hgr.size, by rw [List.length_append, List.length_take]; omega, h.le, ?_, ?_, ?_⟩
  · intro j hj
    rcases Nat.lt_or_ge j o with h1 | h1
    · rw [hout j (.inl h1), h.cell j (by omega), List.getElem?_append_left (by rw [List.length_take]; omega), List.getElem?_take, if_pos h1]
    · obtain ⟨q, rfl⟩ := Nat.exists_eq_add_of_le h1
      rw [hin q (by omega), List.getElem?_append_right (by rw [List.length_take]; omega), List.length_take, show o + q - min o xs.length = q by omega, List.getElem?_eq_getElem (by omega)]
  · intro j hj
    rcases Nat.lt_or_ge j o with h1 | h1
    · rw [hout j (.inl h1)]; exact h.room j hj
    · rcases Nat.lt_or_ge j (o + ys.length) with h2 | h2
      · obtain ⟨q, rfl⟩ := Nat.exists_eq_add_of_le h1
        rw [hin q (by omega)]; rfl
      · rw [hout j (.inr h2)]; exact h.room j hj
  · intro j hj
    rw [World.frozen?_setCells]; exact h.free j hj
theorem zeroV3 (w : World) : (zeroValue 3).run Tryz.prog w = .ok (.int .i64 0) w := by kernel_rfl
theorem zeroV5 (w : World) : (zeroValue 5).run Tryz.prog w = .ok (.int .u8 0) w := by kernel_rfl
theorem zeroCells_b (q : Nat) : (Builtin.zeroCells (Value.int .u8 0).cells q).toList = List.replicate q (B 0) := by
  show (Builtin.zeroCells #[Value.int .u8 0] q).toList = _
  rw [Builtin.zeroCells]
  apply List.ext_getElem
  · simp
  · intro j h1 h2
    simp [B, Nat.mod_one]
theorem run_clear_tail {w : World} {base g : Nat} {X : List UInt8} (h : Row w base g 32 32 (X.map B)) (_hX : X.length = 32) (k : Nat) (hk : k < 32) :
    ∃ w', (Builtin.clear_ #[62] 0 #[.slice (some ⟨g, k, none⟩) (32 - k) (32 - k)]).run Tryz.prog w = .ok (.tuple #[]) w' ∧ Row w' base g 32 32 ((cutW k X).map B) ∧ w.grownBy w' (some g) := by
  obtain ⟨q, hq⟩ : ∃ q, 32 - k = q + 1 := ⟨31 - k, by omega⟩
  have hst := run_storeCells_cells (P := Tryz.prog) g k (List.replicate (32 - k) (B 0)) 0 w (fun j hj => by rw [List.length_replicate] at hj; have := h.room (k + j) (by omega); simpa using this) (fun j hj => by rw [List.length_replicate] at hj; have := h.free (k + j) (by omega); simpa using this) (fun v hv => by rw [List.eq_of_mem_replicate hv]; rfl)
  simp only [Nat.add_zero] at hst
  refine ⟨w.setCells g k (List.replicate (32 - k) (B 0)), ?_, ?_, grownBy_setCells _ _ _ _⟩
  · unfold Builtin.clear_
    rw [hq] at hst ⊢
    simp only [Sem.run_bind, run_underlying Tryz.underlying62, Result.andThen_ok, zeroV5, zeroCells_b, List.getElem?_toArray, List.getElem?_cons_zero]
    rw [hst]
    rfl
  · have := Row.setTail h k (List.replicate (32 - k) (B 0)) (by rw [List.length_replicate]; omega)
    unfold cutW
    rw [List.map_append, List.map_take, List.map_replicate]
    exact this

set_option maxRecDepth 100000 in
set_option maxHeartbeats 1000000 in
theorem newP_any (wd : Int) (w : World) : Calls Tryz.prog 15 #[.int .i64 wd] w fun e w' => ∃ r, e = .returned (.agg #[.int .i64 wd, .map (some r)]) ∧ w.heap.size ≤ r ∧ MapF (fun _ => none) r w' ∧ Below w.heap.size w w' := by
  have hmm := @run_makeMap Tryz.prog
  have hM : MapF (fun _ => none) (w.heap.size + 1) ((w.alloc (.cells #[.int .i64 wd, .map (some (w.heap.size + 1))] 38)).alloc (.map #[] 0)) := by
    refine ⟨#[], 0, ?_, fun x hx => by simp at hx, fun X v hv => by cases hv⟩
    have := heap_alloc_new (w.alloc (.cells #[.int .i64 wd, .map (some (w.heap.size + 1))] 38)) (.map #[] 0)
    rwa [World.size_alloc] at this
  go_enter Tryz.func15, Tryz.ntmps15
  go_wp2_with fail
  refine bodyPost_ret (v := .agg #[.int .i64 wd, .map (some (w.heap.size + 1))]) ?_ rfl ⟨w.heap.size + 1, rfl, by omega, hM, ((Below.refl _ w).alloc (Nat.le_refl _) _).alloc (by simp) _⟩
  clear hM
  simp [results, Tryz.results15, go_sem, asAddr]

set_option maxRecDepth 100000 in
set_option maxHeartbeats 1000000 in
theorem add_any {K : World → Prop} (HH : Hid (HashSaid K)) (wd : Nat) (r : Nat) (F : List UInt8 → Option Int) (enc : ByteArray) (pl : Int) (w : World) (h : MapF F r w) (hK : K w) (keep : Hid (∀ w1 w2, K w1 → Below w1.heap.size w1 w2 → K w2)) (hs : enc.size ≤ 1048576) (h1 : wd ≤ 32) :
    Calls Tryz.prog 30 #[.agg #[.int .i64 (wd : Int), .map (some r)], .string enc, .int .i64 pl] w fun e w' => e = .returned (.tuple #[]) ∧ MapF (addF F (cutW wd (sha (78 :: enc.data.toList))) pl) r w' ∧ w.grownBy w' (some r) := by
  obtain ⟨L, hL⟩ : ∃ L, sha (78 :: enc.data.toList) = L := ⟨_, rfl⟩
  have hLl : L.length = 32 := by rw [← hL]; unfold sha; rw [outTo_length]
  have HC : Hid (∀ w', K w' → Calls Tryz.prog 40 #[.string enc] w' fun e w'' => e = .returned (.agg (L.map B).toArray) ∧ Below w'.heap.size w' w'') := fun w' hw => by rw [← hL]; exact HH.out enc w' hs hw
  go_enter Tryz.func30, Tryz.ntmps30
  go_wp2_with fail
  refine (HC.out _ (keep.out _ _ hK ((Below.refl _ w).alloc (Nat.le_refl _) _))).mono ?_
  rintro e w1 ⟨rfl, hb1⟩
  have hn1 : w1.heap[w.heap.size]? = some (.cells #[.int .i64 (wd : Int), .map (some r)] 38) := (hb1.block _ (by simp)).trans (heap_alloc_new w _)
  have hB1 : Below w.heap.size w w1 := ((Below.refl _ w).alloc (Nat.le_refl _) _).trans (hb1.mono (by simp))
  have hrl : r < w.heap.size := by
    obtain ⟨es, cl, hg, _, _⟩ := h.is
    exact (Array.getElem?_eq_some_iff.1 hg).1
  obtain ⟨ga, hga⟩ : ∃ ga, w.heap.size = ga := ⟨_, rfl⟩
  have hLm : (L.map B).length = 32 := by rw [List.length_map, hLl]
  have h1c : ∀ v ∈ L.map B, v.oneCell' = true := by
    intro v hv
    obtain ⟨x, _, rfl⟩ := List.mem_map.1 hv
    rfl
  have hs1 := hB1.size
  go_upto_region 2 with (first | (refine wpList_alloc_row _ rfl (some 6) rfl 71 71 rfl (zeros32b.map B) alloc43 ?_; intro g2 w2 hr2 hb2) | (refine wpList_store_whole _ rfl rfl 71 (.tmp 6) (.tmp 10) rfl w1.heap.size g2 32 (zeros32b.map B) (L.map B) rfl rfl hr2 hLm size43 h1c ?_; intro w3 hR3 hg3))
  have hge := hR3.ge
  have hgl := hR3.lt
  have hB3' : Below w1.heap.size w1 w3 := hb2.trans (below_of_grown hg3 hge hb2.size)
  have hn3 : w3.heap[ga]? = some (.cells #[.int .i64 (wd : Int), .map (some r)] 38) := by
    rw [← hga]
    exact (hB3'.block _ (Array.getElem?_eq_some_iff.1 hn1).1).trans hn1
  have hM3 : MapF F r w3 := (h.below hB1).below hB3'
  have hB3 : Below w.heap.size w w3 := hB1.trans (hB3'.mono hB1.size)
  have hne : ga ≠ g2 := by have := (Array.getElem?_eq_some_iff.1 hn1).1; omega
  clear hb2 hr2 hg3 hB3' hn1 hb1 hB1
  have c0 := Lib.cell_of_heap hn3 0
  have c1 := Lib.cell_of_heap hn3 1
  have q1 : (wd : Int) ≤ 32 := by omega
  have q2 : (0 : Int) ≤ (wd : Int) := by omega
  by_cases hw : wd < 32
  · obtain ⟨w4, hcl, hR4, hg4⟩ := run_clear_tail hR3 hLl wd hw
    have hM4 := hM3.kept hg4 (by omega)
    have hn4 : w4.heap[ga]? = some (.cells #[.int .i64 (wd : Int), .map (some r)] 38) := (hg4.block ga (Array.getElem?_eq_some_iff.1 hn3).1 (fun e => hne (Option.some.inj e))).trans hn3
    have hB4 : w.grownBy w4 (some r) := by
      have : Below w.heap.size w w4 := hB3.trans (below_of_grown hg4 (by omega) hB3.size)
      exact grownBy_of_below this _
    go_upto_region 3 with fail
    clear hcl hR3 hg4 hM3 hn3 hB3 c0 c1
    have hX := cutW_len wd L hLl h1
    have HX : Hid (cutW wd (sha (78 :: enc.data.toList)) = cutW wd L) := by show _ = _; rw [hL]
    obtain ⟨X, hXX⟩ : ∃ X, cutW wd L = X := ⟨_, rfl⟩
    rw [hXX] at hR4 hX HX
    have hlk := run_look key43 Tryz.underlying36 zeroV3 hM4 X hX
    unfold K32 at hlk
    have d0 := Lib.cell_of_heap hn4 0
    have d1 := Lib.cell_of_heap hn4 1
    cases hF : F X with
    | some u =>
      rw [hF] at hlk
      have hend : MapF (addF F (cutW wd (sha (78 :: enc.data.toList))) pl) r w4 := by
        rw [HX.out]
        unfold addF
        rw [if_neg (by rw [hF]; intro hh; cases hh)]
        exact hM4
      clear HX hM4 hF
      go_wp2_with (first | (refine wpList_load_whole _ rfl 71 (.tmp 6) rfl w1.heap.size g2 32 32 (X.map B) 5 rfl hR4 Tryz.underlying71 size43 ?_))
      go_end0
      exact ⟨rfl, hend, hB4⟩
    | none =>
      rw [hF] at hlk
      obtain ⟨w5, hup, hM5, hg5⟩ := run_put key43 Tryz.underlying36 hM4 X hX hF pl
      unfold K32 at hup
      have hend : MapF (addF F (cutW wd (sha (78 :: enc.data.toList))) pl) r w5 := by
        rw [HX.out]
        unfold addF
        rw [if_pos hF]
        exact hM5
      have hB5 := grownBy_trans hB4 hg5
      clear HX hM4 hF hM5
      go_wp2_with (first | (refine wpList_load_whole _ rfl 71 (.tmp 6) rfl w1.heap.size g2 32 32 (X.map B) 5 rfl hR4 Tryz.underlying71 size43 ?_))
      go_end0
      exact ⟨rfl, hend, hB5⟩
  · obtain rfl : wd = 32 := by omega
    have hcl : (Builtin.clear_ #[62] 0 #[.slice (some ⟨g2, 0, none⟩) 0 0]).run Tryz.prog w3 = .ok (.tuple #[]) w3 := by
      unfold Builtin.clear_
      simp only [Sem.run_bind, run_underlying Tryz.underlying62, Result.andThen_ok, List.getElem?_toArray, List.getElem?_cons_zero]
      rfl
    have hc32 : cutW 32 L = L := by unfold cutW; rw [List.take_of_length_le (by omega)]; simp
    have hR4 : Row w3 w1.heap.size g2 32 32 ((cutW 32 L).map B) := by rw [hc32]; exact hR3
    have hM4 := hM3
    have hn4 := hn3
    have hB4 : w.grownBy w3 (some r) := grownBy_of_below hB3 _
    go_upto_region 3 with fail
    clear hcl hR3 hM3 hn3 hB3 c0 c1 hc32
    have hX := cutW_len 32 L hLl h1
    have HX : Hid (cutW 32 (sha (78 :: enc.data.toList)) = cutW 32 L) := by show _ = _; rw [hL]
    obtain ⟨X, hXX⟩ : ∃ X, cutW 32 L = X := ⟨_, rfl⟩
    rw [hXX] at hR4 hX HX
    have hlk := run_look key43 Tryz.underlying36 zeroV3 hM4 X hX
    unfold K32 at hlk
    have d0 := Lib.cell_of_heap hn4 0
    have d1 := Lib.cell_of_heap hn4 1
    cases hF : F X with
    | some u =>
      rw [hF] at hlk
      have hend : MapF (addF F (cutW 32 (sha (78 :: enc.data.toList))) pl) r w3 := by
        rw [HX.out]
        unfold addF
        rw [if_neg (by rw [hF]; intro hh; cases hh)]
        exact hM4
      clear HX hM4 hF
      go_wp2_with (first | (refine wpList_load_whole _ rfl 71 (.tmp 6) rfl w1.heap.size g2 32 32 (X.map B) 5 rfl hR4 Tryz.underlying71 size43 ?_))
      go_end0
      exact ⟨rfl, hend, hB4⟩
    | none =>
      rw [hF] at hlk
      obtain ⟨w5, hup, hM5, hg5⟩ := run_put key43 Tryz.underlying36 hM4 X hX hF pl
      unfold K32 at hup
      have hend : MapF (addF F (cutW 32 (sha (78 :: enc.data.toList))) pl) r w5 := by
        rw [HX.out]
        unfold addF
        rw [if_pos hF]
        exact hM5
      have hB5 := grownBy_trans hB4 hg5
      clear HX hM4 hF hM5
      go_wp2_with (first | (refine wpList_load_whole _ rfl 71 (.tmp 6) rfl w1.heap.size g2 32 32 (X.map B) 5 rfl hR4 Tryz.underlying71 size43 ?_))
      go_end0
      exact ⟨rfl, hend, hB5⟩
end Go.Proofs.YtliapnhckdimoacGreatDoor
namespace Go.Proofs.YtliapnhckdimoacGreatDoor
open Go.RowKit Go.Proofs.Sha

theorem Row.setHead {w : World} {base g n cap : Nat} {xs : List Value} (h : Row w base g n cap xs) (ys : List Value) (ho : ys.length ≤ n) : Row (w.setCells g 0 ys) base g n cap (ys ++ xs.drop ys.length) := by
  have hin : ∀ j (hj : j < ys.length), (w.setCells g 0 ys).cell? ⟨g, 0 + j, none⟩ = some ys[j] := World.cell?_setCells_in g ys 0 w (fun j hj => h.room (0 + j) (by have := h.le; omega))
  have hout : ∀ j, j < 0 ∨ 0 + ys.length ≤ j → (w.setCells g 0 ys).cell? ⟨g, j, none⟩ = w.cell? ⟨g, j, none⟩ := fun j hj => World.cell?_setCells_out g ys 0 w ⟨g, j, none⟩ (fun _ _ => hj)
  have hgr := grownBy_setCells g ys 0 w
  have hl := h.len
  refine ⟨h.ge, Nat.lt_of_lt_of_le h.lt hgr.size, by rw [List.length_append, List.length_drop]; omega, h.le, ?_, ?_, ?_⟩
  · intro j hj
    rcases Nat.lt_or_ge j ys.length with h1 | h1
    · have := hin j h1
      rw [Nat.zero_add] at this
      rw [this, List.getElem?_append_left h1, List.getElem?_eq_getElem h1]
    · rw [hout j (.inr (by omega)), h.cell j hj, List.getElem?_append_right h1, List.getElem?_drop, show ys.length + (j - ys.length) = j by omega]
  · intro j hj
    rcases Nat.lt_or_ge j ys.length with h1 | h1
    · have := hin j h1
      rw [Nat.zero_add] at this
      rw [this]; rfl
    · rw [hout j (.inr (by omega))]; exact h.room j hj
  · intro j hj
    rw [World.frozen?_setCells]; exact h.free j hj
theorem info5m : (Tryz.prog.info? 5).map (·.size) = some 1 := by kernel_rfl
theorem run_copy_text {w : World} {base g n cap : Nat} {xs : List Value} (h : Row w base g n cap xs) (s : ByteArray) (hs : s.size ≤ n) :
    (Builtin.copy_ #[62, 9] 3 #[.slice (some ⟨g, 0, none⟩) n n, .string s]).run Tryz.prog w = .ok (goInt s.size) (w.setCells g 0 (s.data.toList.map B)) := by
  have hlen : (s.data.toList.map B).length = s.size := by rw [List.length_map]; rfl
  have hst := run_storeCells_cells (P := Tryz.prog) g 0 (s.data.toList.map B) 0 w (fun j hj => by have := h.room j (by have := h.le; omega); simpa using this) (fun j hj => by have := h.free j (by have := h.le; omega); simpa using this) (fun v hv => by obtain ⟨x, _, rfl⟩ := List.mem_map.1 hv; rfl)
  simp only [Nat.add_zero] at hst
  have hmin : Nat.min s.size n = s.size := Nat.min_eq_left hs
  have htk : List.take s.size (List.map (fun b : UInt8 => Value.int IntKind.u8 (b.toNat : Int)) s.data.toList) = s.data.toList.map B := by
    rw [List.take_of_length_le (by rw [List.length_map]; exact Nat.le_refl _)]; rfl
  obtain ⟨i, hi, hsz⟩ : ∃ i, Tryz.prog.info? 5 = some i ∧ i.size = 1 := by
    have := info5m
    cases hh : Tryz.prog.info? 5 with
    | none => rw [hh] at this; cases this
    | some i => rw [hh] at this; exact ⟨i, rfl, Option.some.inj this⟩
  simp [Builtin.copy_, run_underlying Tryz.underlying62, sizeOf, typeInfo, hi, Builtin.lenOf, hmin, Builtin.firstCells, htk, hst]

set_option maxRecDepth 100000 in
set_option maxHeartbeats 1000000 in
theorem find_any (wd : Nat) (r : Nat) (F : List UInt8 → Option Int) (hash : ByteArray) (w : World) (h : MapF F r w) (h1 : wd ≤ 32) (h2 : hash.size = wd) :
    Calls Tryz.prog 31 #[.agg #[.int .i64 (wd : Int), .map (some r)], .string hash] w fun e w' => e = .returned (.tuple #[.int .i64 ((F (cutW wd hash.data.toList)).getD 0), .bool (F (cutW wd hash.data.toList)).isSome]) ∧ Below w.heap.size w w' := by
  have z1 : ((hash.size : Int) != (wd : Int)) = false := by rw [h2]; simp
  have hsz : hash.size ≤ 32 := by omega
  have hhl : hash.data.toList.length = hash.size := rfl
  have hcut : hash.data.toList.map B ++ (zeros32b.map B).drop (hash.data.toList.map B).length = (cutW wd hash.data.toList).map B := by
    unfold cutW zeros32b
    rw [List.map_append, List.take_of_length_le (by omega), List.length_map, hhl, h2, List.map_replicate, List.map_replicate, List.drop_replicate]
  have hX : (cutW wd hash.data.toList).length = 32 := by unfold cutW; rw [List.length_append, List.length_take, List.length_replicate]; omega
  obtain ⟨X, hXX⟩ : ∃ X, cutW wd hash.data.toList = X := ⟨_, rfl⟩
  rw [hXX] at hcut hX ⊢
  clear h2 hXX
  have hrl : r < w.heap.size := by
    obtain ⟨es, cl, hg, _, _⟩ := h.is
    exact (Array.getElem?_eq_some_iff.1 hg).1
  go_enter Tryz.func31, Tryz.ntmps31
  obtain ⟨ga, hga⟩ : ∃ ga, w.heap.size = ga := ⟨_, rfl⟩
  go_wp2_with (first | (refine wpList_alloc_row _ rfl (some 6) rfl 71 71 rfl (zeros32b.map B) alloc43 ?_; intro g2 w2 hr2 hb2))
  have hr2' : Row w2 (ga + 1) g2 32 32 (zeros32b.map B) := by
    have := hr2
    rw [World.size_alloc, hga] at this
    exact this
  have hcp := run_copy_text hr2' hash hsz
  have hR3 := Row.setHead hr2' (hash.data.toList.map B) (by rw [List.length_map]; omega)
  rw [hcut] at hR3
  have hg3 := grownBy_setCells g2 (hash.data.toList.map B) 0 w2
  obtain ⟨w3, hw3⟩ : ∃ w3, w2.setCells g2 0 (hash.data.toList.map B) = w3 := ⟨_, rfl⟩
  rw [hw3] at hcp hR3 hg3
  clear hw3
  have hge := hr2'.ge
  have hb2' : Below (ga + 1) (w.alloc (.cells #[.int .i64 (wd : Int), .map (some r)] 38)) w2 := by
    have := hb2
    rw [World.size_alloc, hga] at this
    exact this
  have hn2 : w2.heap[ga]? = some (.cells #[.int .i64 (wd : Int), .map (some r)] 38) := (hb2'.block ga (by omega)).trans (by rw [← hga]; exact heap_alloc_new w _)
  have hne : ga ≠ g2 := by omega
  have hn3 : w3.heap[ga]? = some (.cells #[.int .i64 (wd : Int), .map (some r)] 38) := (hg3.block ga (Array.getElem?_eq_some_iff.1 hn2).1 (fun e => hne (Option.some.inj e))).trans hn2
  have hB2 : Below w.heap.size w w2 := ((Below.refl _ w).alloc (Nat.le_refl _) _).trans (hb2'.mono (by omega))
  have hM3 : MapF F r w3 := (h.below hB2).kept hg3 (by omega)
  have hB3 : Below w.heap.size w w3 := hB2.trans (below_of_grown hg3 (by omega) hB2.size)
  have hlk := run_look key43 Tryz.underlying36 zeroV3 hM3 X hX
  unfold K32 at hlk
  have d0 := Lib.cell_of_heap hn3 0
  have d1 := Lib.cell_of_heap hn3 1
  clear hb2 hb2' hr2 hr2' hB2 hn2 hM3 h
  obtain ⟨fx, hfx⟩ : ∃ fx, F X = fx := ⟨_, rfl⟩
  rw [hfx] at hlk
  have HF : Hid (F X = fx) := hfx
  clear hfx
  rw [hcp]
  clear hcp
  go_wp2_with (first | (refine wpList_load_whole _ rfl 71 (.tmp 6) rfl (ga + 1) g2 32 32 (X.map B) 5 rfl hR3 Tryz.underlying71 size43 ?_))
  go_ret2
  rw [HF.out]
  exact ⟨rfl, hB3⟩
end Go.Proofs.YtliapnhckdimoacGreatDoor
namespace Go.Proofs.YtliapnhckdimoacGreatDoor
open Go.RowKit Go.Proofs.Sha

/-- A slice of texts. -/
structure SArg (a : Option Addr) (ss : List ByteArray) (w : World) : Prop where
  le : ss.length ≤ 1048576
  sz : ∀ j, (ss.getD j ⟨#[]⟩).size ≤ 1048576
  at_ : 0 < ss.length → ∃ b off : Nat, a = some ⟨b, off, none⟩ ∧ b < w.heap.size ∧ ∀ j, j < ss.length → w.cell? ⟨b, off + j, none⟩ = some (.string (ss.getD j ⟨#[]⟩))
theorem SArg.below {a : Option Addr} {ss : List ByteArray} {w w' : World} (h : SArg a ss w) (hb : Below w.heap.size w w') : SArg a ss w' := by
  refine ⟨h.le, h.sz, fun hn => ?_⟩
  obtain ⟨b, off, ha, hlt, hc⟩ := h.at_ hn
  exact ⟨b, off, ha, Nat.lt_of_lt_of_le hlt hb.size, fun j hj => (hb.cell hlt).trans (hc j hj)⟩
/-- The hash of an encoding, cut to a width. -/
def keyW (wd : Nat) (s : ByteArray) : List UInt8 := cutW wd (sha (78 :: s.data.toList))
/-- The places of the first k encodings. -/
def placesF (wd : Nat) (ss : List ByteArray) : Nat → List UInt8 → Option Int
  | 0 => fun _ => none
  | k + 1 => addF (placesF wd ss k) (keyW wd (ss.getD k ⟨#[]⟩)) (k : Int)

end Go.Proofs.YtliapnhckdimoacGreatDoor
namespace Go.Proofs.YtliapnhckdimoacGreatDoor
open Go.RowKit Go.Proofs.Sha

/-- The first place at which p holds. -/
def firstI (p : Nat → Bool) : Nat → Option Nat
  | 0 => none
  | k + 1 => match firstI p k with
    | some i => some i
    | none => if p k then some k else none
theorem firstI_lt {p : Nat → Bool} {k i : Nat} (h : firstI p k = some i) : i < k := by
  induction k with
  | zero => cases h
  | succ k ih =>
    rw [firstI] at h
    cases hk : firstI p k with
    | some j => rw [hk] at h; simp only [Option.some.injEq] at h; subst h; have := ih hk; omega
    | none =>
      rw [hk] at h
      simp only at h
      split at h
      · simp only [Option.some.injEq] at h; omega
      · cases h
theorem placesF_first (wd : Nat) (ss : List ByteArray) (X : List UInt8) (k : Nat) : placesF wd ss k X = (firstI (fun i => decide (keyW wd (ss.getD i ⟨#[]⟩) = X)) k).map fun i => (i : Int) := by
  induction k with
  | zero => rfl
  | succ k ih =>
    rw [placesF, addF, firstI]
    obtain ⟨Y, hY⟩ : ∃ Y, keyW wd (ss.getD k ⟨#[]⟩) = Y := ⟨_, rfl⟩
    rw [hY]
    by_cases hn : placesF wd ss k Y = none
    · rw [if_pos hn]
      by_cases hXY : X = Y
      · subst hXY
        rw [if_pos rfl]
        rw [ih] at hn
        cases hf : firstI (fun i => decide (keyW wd (ss.getD i ⟨#[]⟩) = X)) k with
        | some j => rw [hf] at hn; cases hn
        | none => simp
      · rw [if_neg hXY, ih]
        cases hf : firstI (fun i => decide (keyW wd (ss.getD i ⟨#[]⟩) = X)) k with
        | some j => rfl
        | none => simp [Ne.symm hXY]
    · rw [if_neg hn, ih]
      cases hf : firstI (fun i => decide (keyW wd (ss.getD i ⟨#[]⟩) = X)) k with
      | some j => rfl
      | none =>
        simp only
        by_cases hXY : Y = X
        · subst hXY
          rw [ih, hf] at hn
          exact absurd rfl hn
        · simp [hXY]
def poolOk (n : Int) (m : Nat) : Bool := decide (1 ≤ n ∧ n ≤ 32 ∧ m ≤ 20000)
/-- What DecodeNode answers, at one width. -/
structure Dec where
  k : ByteArray → ByteArray
  v : ByteArray → ByteArray
  l : ByteArray → ByteArray
  r : ByteArray → ByteArray
  ok : ByteArray → Bool
def DecSaid (f : FuncId) (wd : Nat) (D : Dec) : Prop := ∀ (s : ByteArray) (w : World), s.size ≤ 1048576 → Calls Tryz.prog f #[.string s, .int .i64 (wd : Int)] w fun e w' => e = .returned (.tuple #[.agg #[.string (D.k s), .string (D.v s), .string (D.l s), .string (D.r s)], .bool (D.ok s)]) ∧ Below w.heap.size w w'
/-- What PoolFind answers. -/
def foundR (D : Dec) (ss : List ByteArray) : Option Nat → (ByteArray × ByteArray × ByteArray × ByteArray) × Int
  | none => ((⟨#[]⟩, ⟨#[]⟩, ⟨#[]⟩, ⟨#[]⟩), 2)
  | some i => if D.ok (ss.getD i ⟨#[]⟩) then ((D.k (ss.getD i ⟨#[]⟩), D.v (ss.getD i ⟨#[]⟩), D.l (ss.getD i ⟨#[]⟩), D.r (ss.getD i ⟨#[]⟩)), 0) else ((⟨#[]⟩, ⟨#[]⟩, ⟨#[]⟩, ⟨#[]⟩), 3)
def nodeT (x : (ByteArray × ByteArray × ByteArray × ByteArray) × Int) : Value := .tuple #[.agg #[.string x.1.1, .string x.1.2.1, .string x.1.2.2.1, .string x.1.2.2.2], .int .i64 x.2]
/-- The hashes in the pool that are this one. -/
def hitB (wd : Nat) (ss : List ByteArray) (hash : ByteArray) (i : Nat) : Bool := decide ((sha (78 :: (ss.getD i ⟨#[]⟩).data.toList)).take wd = hash.data.toList)
theorem key_hit (wd : Nat) (ss : List ByteArray) (hash : ByteArray) (_h1 : wd ≤ 32) (h2 : hash.size = wd) (i : Nat) : decide (keyW wd (ss.getD i ⟨#[]⟩) = cutW wd hash.data.toList) = hitB wd ss hash i := by
  unfold keyW cutW hitB
  have hl : hash.data.toList.length = wd := h2
  rw [List.take_of_length_le (l := hash.data.toList) (by omega)]
  congr 1
  rw [List.append_cancel_right_eq]
end Go.Proofs.YtliapnhckdimoacGreatDoor
namespace Go.Proofs.YtliapnhckdimoacGreatDoor
open Go.RowKit Go.Proofs.Sha

/-- A record, as it is read. -/
structure RecT where
  k : Int
  enc : ByteArray
  v : Int
  root : ByteArray
  nx : Nat
/-- What the records of a log have said so far. -/
structure SS where
  nodes : List ByteArray
  aside : List ByteArray
  roots : List ByteArray
  fin : Nat
  sec : Nat
def anyHit (wd : Nat) (es : List ByteArray) (root : ByteArray) : Bool := es.any fun e => decide ((sha (78 :: e.data.toList)).take wd = root.data.toList)
def goodC (wd : Nat) (st : SS) (r : RecT) : Bool := decide (r.v = (st.roots.length : Int) + 1) && (decide (r.root.size = 0) || anyHit wd (st.nodes ++ st.aside) r.root)
def stepS (R : Nat → RecT) (wd : Nat) (st : SS) : Option SS :=
  if (R st.sec).k = 1 then some ⟨st.nodes, st.aside ++ [(R st.sec).enc], st.roots, st.fin, (R st.sec).nx⟩
  else if (R st.sec).k = 2 ∧ goodC wd st (R st.sec) = true then some ⟨st.nodes ++ st.aside, [], st.roots ++ [(R st.sec).root], (R st.sec).nx * 64, (R st.sec).nx⟩
  else none
def st0 : SS := ⟨[], [], [], 0, 0⟩
inductive Reach (R : Nat → RecT) (wd : Nat) : SS → Prop where
  | zero : Reach R wd st0
  | step {a b : SS} : Reach R wd a → stepS R wd a = some b → Reach R wd b
def iterS (R : Nat → RecT) (wd : Nat) : Nat → SS
  | 0 => st0
  | n + 1 => match stepS R wd (iterS R wd n) with
    | some s => s
    | none => iterS R wd n
theorem Reach.iter {R : Nat → RecT} {wd : Nat} {a : SS} (h : Reach R wd a) : ∃ n, iterS R wd n = a := by
  induction h with
  | zero => exact ⟨0, rfl⟩
  | step _ hs ih =>
    obtain ⟨n, hn⟩ := ih
    refine ⟨n + 1, ?_⟩
    rw [iterS, hn, hs]
theorem iterS_stay {R : Nat → RecT} {wd n : Nat} (h : stepS R wd (iterS R wd n) = none) (k : Nat) : iterS R wd (n + k) = iterS R wd n := by
  induction k with
  | zero => rfl
  | succ k ih => rw [← Nat.add_assoc, iterS, ih, h]
/-- One end at most. -/
theorem Reach.one {R : Nat → RecT} {wd : Nat} {a b : SS} (ha : Reach R wd a) (hb : Reach R wd b) (ea : stepS R wd a = none) (eb : stepS R wd b = none) : a = b := by
  obtain ⟨m, rfl⟩ := ha.iter
  obtain ⟨n, rfl⟩ := hb.iter
  rcases Nat.le_total m n with h | h
  · obtain ⟨k, rfl⟩ := Nat.exists_eq_add_of_le h
    exact (iterS_stay ea k).symm
  · obtain ⟨k, rfl⟩ := Nat.exists_eq_add_of_le h
    exact iterS_stay eb k
def RecOk (size n : Nat) (r : RecT) : Prop := r.k = 0 ∨ (r.k = 1 ∧ r.enc.size ≤ 4000 ∧ n < r.nx ∧ 64 * r.nx ≤ size) ∨ (r.k = 2 ∧ r.root.size ≤ 32 ∧ n < r.nx ∧ 64 * r.nx ≤ size)
structure SInv (size : Nat) (st : SS) : Prop where
  len : st.nodes.length + st.aside.length + st.roots.length ≤ st.sec
  sec : 64 * st.sec ≤ size
  enc : ∀ e ∈ st.nodes ++ st.aside, e.size ≤ 4000
  root : ∀ e ∈ st.roots, e.size ≤ 32
  fin : st.fin ≤ size
theorem Reach.inv {R : Nat → RecT} {wd size : Nat} (hR : ∀ n, RecOk size n (R n)) {a : SS} (h : Reach R wd a) : SInv size a := by
  induction h with
  | zero => exact ⟨by simp [st0], by simp [st0], by simp [st0], by simp [st0], by simp [st0]⟩
  | @step a b _ hs ih =>
    unfold stepS at hs
    split at hs
    · rename_i hk
      obtain rfl := Option.some.inj hs
      rcases hR a.sec with h0 | ⟨_, h1, h2, h3⟩ | ⟨h0, _⟩
      · omega
      · refine ⟨?_, h3, ?_, ih.root, ih.fin⟩
        · have := ih.len; simp; omega
        · intro e he
          simp only [List.mem_append, List.mem_singleton] at he
          rcases he with he | he | rfl
          · exact ih.enc e (List.mem_append_left _ he)
          · exact ih.enc e (List.mem_append_right _ he)
          · exact h1
      · omega
    · split at hs
      · rename_i hk
        obtain rfl := Option.some.inj hs
        rcases hR a.sec with h0 | ⟨h0, _⟩ | ⟨_, h1, h2, h3⟩
        · omega
        · omega
        · refine ⟨?_, h3, ?_, ?_, ?_⟩
          · have := ih.len; simp; omega
          · intro e he; rw [List.append_nil] at he; exact ih.enc e he
          · intro e he
            simp only [List.mem_append, List.mem_singleton] at he
            rcases he with he | rfl
            · exact ih.root e he
            · exact h1
          · show _ * 64 ≤ size; omega
      · cases hs

theorem firstI_any (p : Nat → Bool) (k : Nat) : (firstI p k).isSome = (List.range k).any p := by
  induction k with
  | zero => rfl
  | succ k ih =>
    rw [firstI, List.range_succ, List.any_append, ← ih]
    cases hf : firstI p k with
    | some i => rfl
    | none =>
      simp only [Option.isSome_none, Bool.false_or, List.any_cons, List.any_nil, Bool.or_false]
      cases hp : p k <;> simp
theorem any_range (es : List ByteArray) (q : ByteArray → Bool) : (List.range es.length).any (fun i => q (es.getD i ⟨#[]⟩)) = es.any q := by
  rw [Bool.eq_iff_iff, List.any_eq_true, List.any_eq_true]
  constructor
  · rintro ⟨i, hi, hq⟩
    have hl := List.mem_range.1 hi
    rw [List.getD_eq_getElem?_getD, List.getElem?_eq_getElem hl] at hq
    exact ⟨es[i], List.getElem_mem hl, hq⟩
  · rintro ⟨e, he, hq⟩
    obtain ⟨i, hl, rfl⟩ := List.getElem_of_mem he
    refine ⟨i, List.mem_range.2 hl, ?_⟩
    rw [List.getD_eq_getElem?_getD, List.getElem?_eq_getElem hl]
    exact hq
/-- What the map finds. -/
theorem find_hit (wd : Nat) (es : List ByteArray) (root : ByteArray) (h1 : wd ≤ 32) (h2 : root.size = wd) : (placesF wd es es.length (cutW wd root.data.toList)).isSome = anyHit wd es root := by
  have e : (fun i => decide (keyW wd (es.getD i ⟨#[]⟩) = cutW wd root.data.toList)) = hitB wd es root := funext fun i => key_hit wd es root h1 h2 i
  have hA : anyHit wd es root = (firstI (hitB wd es root) es.length).isSome := by
    rw [firstI_any]
    exact (any_range es fun x => decide ((sha (78 :: x.data.toList)).take wd = root.data.toList)).symm
  rw [placesF_first, e, hA]
  cases firstI (hitB wd es root) es.length <;> rfl
theorem no_hit (wd : Nat) (es : List ByteArray) (root : ByteArray) (h1 : wd ≤ 32) (h2 : root.size ≠ wd) : anyHit wd es root = false := by
  unfold anyHit
  rw [List.any_eq_false]
  intro e _ hq
  have := congrArg List.length (of_decide_eq_true hq)
  have hs : (sha (78 :: e.data.toList)).length = 32 := by unfold sha; rw [outTo_length]
  rw [List.length_take, hs] at this
  have hr : root.data.toList.length = root.size := rfl
  omega
theorem placesF_app (wd : Nat) (es : List ByteArray) (e : ByteArray) (k : Nat) (hk : k ≤ es.length) : placesF wd (es ++ [e]) k = placesF wd es k := by
  induction k with
  | zero => rfl
  | succ k ih =>
    rw [placesF, placesF, ih (by omega)]
    congr 2
    rw [List.getD_eq_getElem?_getD, List.getD_eq_getElem?_getD, List.getElem?_append_left (by omega)]
theorem placesF_snoc (wd : Nat) (es : List ByteArray) (e : ByteArray) : placesF wd (es ++ [e]) (es ++ [e]).length = addF (placesF wd es es.length) (cutW wd (sha (78 :: e.data.toList))) (es.length : Int) := by
  rw [List.length_append, List.length_singleton, placesF, placesF_app wd es e es.length (Nat.le_refl _)]
  congr 1
  rw [List.getD_eq_getElem?_getD, List.getElem?_append_right (Nat.le_refl _), Nat.sub_self]
  rfl
/-- What is good of a commit, by its parts. -/
theorem goodC_eq (wd : Nat) (st : SS) (r : RecT) (h1 : wd ≤ 32) (es : List ByteArray) (he : st.nodes ++ st.aside = es) : goodC wd st r = (decide (r.v = (st.roots.length : Int) + 1) && (decide (r.root.size = 0) || (decide (r.root.size = wd) && (placesF wd es es.length (cutW wd r.root.data.toList)).isSome))) := by
  unfold goodC
  rw [he]
  by_cases h2 : r.root.size = wd
  · rw [find_hit wd es r.root h1 h2, decide_eq_true h2, Bool.true_and]
  · rw [no_hit wd es r.root h1 h2, decide_eq_false h2, Bool.false_and]
end Go.Proofs.YtliapnhckdimoacGreatDoor
