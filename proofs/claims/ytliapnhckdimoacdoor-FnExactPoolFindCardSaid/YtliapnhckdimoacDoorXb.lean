import Derived.Test.YtliapnhckdimoacDoorProg
import Derived.Test.YtliapnhckdimoacDoorXa
import Derived.WalkSpells
import Derived.WalkLawsBesides
import Derived.StillTactics
import Derived.Laws.Pointers
import Derived.Deep.RegionHeld3
import Derived.Carry
import Derived.Deep.Cut
import Derived.Lib.BufferWrite
namespace Go.Proofs.YtliapnhckdimoacDoor
open Go.RowKit Go.Proofs.Sha

theorem key43 : Key32 Tryd.prog 82 5 :=
  ⟨Tryd.underlying82, Tryd.underlying5, by kernel_rfl, by kernel_rfl, by kernel_rfl, deep_law_gate (by kernel_rfl) (by decide +kernel) (by decide +kernel) (by kernel_rfl) (by rw [Tryd.underlying82]), ⟨Tryd.prog.types.size - 1, by kernel_rfl⟩⟩
def zeros32b : List UInt8 := List.replicate 32 0
theorem alloc43 (w : World) : (Instr.alloc 82 true (.tuple #[])).run Tryd.prog w = .ok (.pointer (some ⟨w.heap.size, 0, none⟩)) (w.alloc (.cells (zeros32b.map B).toArray 82)) := by kernel_rfl
theorem size43 : (Tryd.prog.info? 82).map (·.size) = some 32 := by kernel_rfl
/-- A hash cut to a width by zeros. -/
def cutW (k : Nat) (X : List UInt8) : List UInt8 := X.take k ++ List.replicate (32 - k) 0
theorem cutW_len (k : Nat) (X : List UInt8) (hX : X.length = 32) (hk : k ≤ 32) : (cutW k X).length = 32 := by unfold cutW; rw [List.length_append, List.length_take, List.length_replicate]; omega
/-- The first place counts. -/
def addF (F : List UInt8 → Option Int) (X : List UInt8) (v : Int) : List UInt8 → Option Int := if F X = none then fun Y => if Y = X then some v else F Y else F
/-- What encodingHash's contract says, by itself. -/
def HashSaid (K : World → Prop) : Prop := ∀ (s : ByteArray) (w : World), s.size ≤ 1048576 → K w → Calls Tryd.prog 61 #[.string s] w fun e w' => e = .returned (.agg ((sha (78 :: s.data.toList)).map B).toArray) ∧ Below w.heap.size w w'

theorem Row.setTail {w : World} {base g n cap : Nat} {xs : List Value} (h : Row w base g n cap xs) (o : Nat) (ys : List Value) (ho : o + ys.length = n) : Row (w.setCells g o ys) base g n cap (xs.take o ++ ys) := by
  have hin : ∀ j (hj : j < ys.length), (w.setCells g o ys).cell? ⟨g, o + j, none⟩ = some ys[j] := World.cell?_setCells_in g ys o w (fun j hj => h.room (o + j) (by have := h.le; omega))
  have hout : ∀ j, j < o ∨ o + ys.length ≤ j → (w.setCells g o ys).cell? ⟨g, j, none⟩ = w.cell? ⟨g, j, none⟩ := fun j hj => World.cell?_setCells_out g ys o w ⟨g, j, none⟩ (fun _ _ => hj)
  have hgr := grownBy_setCells g ys o w
  have hl := h.len
  refine ⟨h.ge, Nat.lt_of_lt_of_le h.lt hgr.size, by rw [List.length_append, List.length_take]; omega, h.le, ?_, ?_, ?_⟩
  · intro j hj
    rcases Nat.lt_or_ge j o with h1 | h1
    · rw [hout j (.inl h1), h.cell j (by omega), List.getElem?_append_left (by rw [List.length_take]; omega), List.getElem?_take, if_pos h1]
    · obtain ⟨q, rfl⟩ := Nat.exists_eq_add_of_le h1
      rw [hin q (by omega), List.getElem?_append_right (by rw [List.length_take]; omega), List.length_take, show o + q - min o xs.length = q by omega, List.getElem?_eq_getElem (by omega)]
  · intro j hj
    rcases Nat.lt_or_ge j o with h1 | h1
    · rw [hout j (.inl h1)]; exact h.room j hj
    · rcases Nat.lt_or_ge j (o + ys.length) with h2 | h2
      · obtain ⟨q, rfl⟩ := Nat.exists_eq_add_of_le h1
        rw [hin q (by omega)]; rfl
      · rw [hout j (.inr h2)]; exact h.room j hj
  · intro j hj
    rw [World.frozen?_setCells]; exact h.free j hj
theorem zeroV3 (w : World) : (zeroValue 3).run Tryd.prog w = .ok (.int .i64 0) w := by kernel_rfl
theorem zeroV5 (w : World) : (zeroValue 5).run Tryd.prog w = .ok (.int .u8 0) w := by kernel_rfl
theorem zeroCells_b (q : Nat) : (Builtin.zeroCells (Value.int .u8 0).cells q).toList = List.replicate q (B 0) := by
  show (Builtin.zeroCells #[Value.int .u8 0] q).toList = _
  rw [Builtin.zeroCells]
  apply List.ext_getElem
  · simp
  · intro j h1 h2
    simp [B, Nat.mod_one]
theorem run_clear_tail {w : World} {base g : Nat} {X : List UInt8} (h : Row w base g 32 32 (X.map B)) (_hX : X.length = 32) (k : Nat) (hk : k < 32) :
    ∃ w', (Builtin.clear_ #[94] 0 #[.slice (some ⟨g, k, none⟩) (32 - k) (32 - k)]).run Tryd.prog w = .ok (.tuple #[]) w' ∧ Row w' base g 32 32 ((cutW k X).map B) ∧ w.grownBy w' (some g) := by
  obtain ⟨q, hq⟩ : ∃ q, 32 - k = q + 1 := ⟨31 - k, by omega⟩
  have hst := run_storeCells_cells (P := Tryd.prog) g k (List.replicate (32 - k) (B 0)) 0 w (fun j hj => by rw [List.length_replicate] at hj; have := h.room (k + j) (by omega); simpa using this) (fun j hj => by rw [List.length_replicate] at hj; have := h.free (k + j) (by omega); simpa using this) (fun v hv => by rw [List.eq_of_mem_replicate hv]; rfl)
  simp only [Nat.add_zero] at hst
  refine ⟨w.setCells g k (List.replicate (32 - k) (B 0)), ?_, ?_, grownBy_setCells _ _ _ _⟩
  · unfold Builtin.clear_
    rw [hq] at hst ⊢
    simp only [Sem.run_bind, run_underlying Tryd.underlying94, Result.andThen_ok, zeroV5, zeroCells_b, List.getElem?_toArray, List.getElem?_cons_zero]
    rw [hst]
    rfl
  · have := Row.setTail h k (List.replicate (32 - k) (B 0)) (by rw [List.length_replicate]; omega)
    unfold cutW
    rw [List.map_append, List.map_take, List.map_replicate]
    exact this

set_option maxRecDepth 100000 in
set_option maxHeartbeats 1000000 in
theorem newP_any (wd : Int) (w : World) : Calls Tryd.prog 86 #[.int .i64 wd] w fun e w' => ∃ r, e = .returned (.agg #[.int .i64 wd, .map (some r)]) ∧ w.heap.size ≤ r ∧ MapF (fun _ => none) r w' ∧ Below w.heap.size w w' := by
  have hmm := @run_makeMap Tryd.prog
  have hM : MapF (fun _ => none) (w.heap.size + 1) ((w.alloc (.cells #[.int .i64 wd, .map (some (w.heap.size + 1))] 103)).alloc (.map #[] 0)) := by
    refine ⟨#[], 0, ?_, fun x hx => by simp at hx, fun X v hv => by cases hv⟩
    have := heap_alloc_new (w.alloc (.cells #[.int .i64 wd, .map (some (w.heap.size + 1))] 103)) (.map #[] 0)
    rwa [World.size_alloc] at this
  go_enter Tryd.func86, Tryd.ntmps86
  go_wp2_with fail
  refine bodyPost_ret (v := .agg #[.int .i64 wd, .map (some (w.heap.size + 1))]) ?_ rfl ⟨w.heap.size + 1, rfl, by omega, hM, ((Below.refl _ w).alloc (Nat.le_refl _) _).alloc (by simp) _⟩
  clear hM
  simp [results, Tryd.results86, go_sem, asAddr]

set_option maxRecDepth 100000 in
set_option maxHeartbeats 1000000 in
theorem add_any {K : World → Prop} (HH : Hid (HashSaid K)) (wd : Nat) (r : Nat) (F : List UInt8 → Option Int) (enc : ByteArray) (pl : Int) (w : World) (h : MapF F r w) (hK : K w) (keep : Hid (∀ w1 w2, K w1 → Below w1.heap.size w1 w2 → K w2)) (hs : enc.size ≤ 1048576) (h1 : wd ≤ 32) :
    Calls Tryd.prog 87 #[.agg #[.int .i64 (wd : Int), .map (some r)], .string enc, .int .i64 pl] w fun e w' => e = .returned (.tuple #[]) ∧ MapF (addF F (cutW wd (sha (78 :: enc.data.toList))) pl) r w' ∧ w.grownBy w' (some r) := by
  obtain ⟨L, hL⟩ : ∃ L, sha (78 :: enc.data.toList) = L := ⟨_, rfl⟩
  have hLl : L.length = 32 := by rw [← hL]; unfold sha; rw [outTo_length]
  have HC : Hid (∀ w', K w' → Calls Tryd.prog 61 #[.string enc] w' fun e w'' => e = .returned (.agg (L.map B).toArray) ∧ Below w'.heap.size w' w'') := fun w' hw => by rw [← hL]; exact HH.out enc w' hs hw
  go_enter Tryd.func87, Tryd.ntmps87
  go_wp2_with fail
  refine (HC.out _ (keep.out _ _ hK ((Below.refl _ w).alloc (Nat.le_refl _) _))).mono ?_
  rintro e w1 ⟨rfl, hb1⟩
  have hn1 : w1.heap[w.heap.size]? = some (.cells #[.int .i64 (wd : Int), .map (some r)] 103) := (hb1.block _ (by simp)).trans (heap_alloc_new w _)
  have hB1 : Below w.heap.size w w1 := ((Below.refl _ w).alloc (Nat.le_refl _) _).trans (hb1.mono (by simp))
  have hrl : r < w.heap.size := by
    obtain ⟨es, cl, hg, _, _⟩ := h.is
    exact (Array.getElem?_eq_some_iff.1 hg).1
  obtain ⟨ga, hga⟩ : ∃ ga, w.heap.size = ga := ⟨_, rfl⟩
  have hLm : (L.map B).length = 32 := by rw [List.length_map, hLl]
  have h1c : ∀ v ∈ L.map B, v.oneCell' = true := by
    intro v hv
    obtain ⟨x, _, rfl⟩ := List.mem_map.1 hv
    rfl
  have hs1 := hB1.size
  go_upto_region 2 with (first | (refine wpList_alloc_row _ rfl (some 6) rfl 82 82 rfl (zeros32b.map B) alloc43 ?_; intro g2 w2 hr2 hb2) | (refine wpList_store_whole _ rfl rfl 82 (.tmp 6) (.tmp 10) rfl w1.heap.size g2 32 (zeros32b.map B) (L.map B) rfl rfl hr2 hLm size43 h1c ?_; intro w3 hR3 hg3))
  have hge := hR3.ge
  have hgl := hR3.lt
  have hB3' : Below w1.heap.size w1 w3 := hb2.trans (below_of_grown hg3 hge hb2.size)
  have hn3 : w3.heap[ga]? = some (.cells #[.int .i64 (wd : Int), .map (some r)] 103) := by
    rw [← hga]
    exact (hB3'.block _ (Array.getElem?_eq_some_iff.1 hn1).1).trans hn1
  have hM3 : MapF F r w3 := (h.below hB1).below hB3'
  have hB3 : Below w.heap.size w w3 := hB1.trans (hB3'.mono hB1.size)
  have hne : ga ≠ g2 := by have := (Array.getElem?_eq_some_iff.1 hn1).1; omega
  clear hb2 hr2 hg3 hB3' hn1 hb1 hB1
  have c0 := Lib.cell_of_heap hn3 0
  have c1 := Lib.cell_of_heap hn3 1
  have q1 : (wd : Int) ≤ 32 := by omega
  have q2 : (0 : Int) ≤ (wd : Int) := by omega
  by_cases hw : wd < 32
  · obtain ⟨w4, hcl, hR4, hg4⟩ := run_clear_tail hR3 hLl wd hw
    have hM4 := hM3.kept hg4 (by omega)
    have hn4 : w4.heap[ga]? = some (.cells #[.int .i64 (wd : Int), .map (some r)] 103) := (hg4.block ga (Array.getElem?_eq_some_iff.1 hn3).1 (fun e => hne (Option.some.inj e))).trans hn3
    have hB4 : w.grownBy w4 (some r) := by
      have : Below w.heap.size w w4 := hB3.trans (below_of_grown hg4 (by omega) hB3.size)
      exact grownBy_of_below this _
    go_upto_region 3 with fail
    clear hcl hR3 hg4 hM3 hn3 hB3 c0 c1
    have hX := cutW_len wd L hLl h1
    have HX : Hid (cutW wd (sha (78 :: enc.data.toList)) = cutW wd L) := by show _ = _; rw [hL]
    obtain ⟨X, hXX⟩ : ∃ X, cutW wd L = X := ⟨_, rfl⟩
    rw [hXX] at hR4 hX HX
    have hlk := run_look key43 Tryd.underlying101 zeroV3 hM4 X hX
    unfold K32 at hlk
    have d0 := Lib.cell_of_heap hn4 0
    have d1 := Lib.cell_of_heap hn4 1
    cases hF : F X with
    | some u =>
      rw [hF] at hlk
      have hend : MapF (addF F (cutW wd (sha (78 :: enc.data.toList))) pl) r w4 := by
        rw [HX.out]
        unfold addF
        rw [if_neg (by rw [hF]; intro hh; cases hh)]
        exact hM4
      clear HX hM4 hF
      go_wp2_with (first | (refine wpList_load_whole _ rfl 82 (.tmp 6) rfl w1.heap.size g2 32 32 (X.map B) 5 rfl hR4 Tryd.underlying82 size43 ?_))
      go_end0
      exact ⟨rfl, hend, hB4⟩
    | none =>
      rw [hF] at hlk
      obtain ⟨w5, hup, hM5, hg5⟩ := run_put key43 Tryd.underlying101 hM4 X hX hF pl
      unfold K32 at hup
      have hend : MapF (addF F (cutW wd (sha (78 :: enc.data.toList))) pl) r w5 := by
        rw [HX.out]
        unfold addF
        rw [if_pos hF]
        exact hM5
      have hB5 := grownBy_trans hB4 hg5
      clear HX hM4 hF hM5
      go_wp2_with (first | (refine wpList_load_whole _ rfl 82 (.tmp 6) rfl w1.heap.size g2 32 32 (X.map B) 5 rfl hR4 Tryd.underlying82 size43 ?_))
      go_end0
      exact ⟨rfl, hend, hB5⟩
  · obtain rfl : wd = 32 := by omega
    have hcl : (Builtin.clear_ #[94] 0 #[.slice (some ⟨g2, 0, none⟩) 0 0]).run Tryd.prog w3 = .ok (.tuple #[]) w3 := by
      unfold Builtin.clear_
      simp only [Sem.run_bind, run_underlying Tryd.underlying94, Result.andThen_ok, List.getElem?_toArray, List.getElem?_cons_zero]
      rfl
    have hc32 : cutW 32 L = L := by unfold cutW; rw [List.take_of_length_le (by omega)]; simp
    have hR4 : Row w3 w1.heap.size g2 32 32 ((cutW 32 L).map B) := by rw [hc32]; exact hR3
    have hM4 := hM3
    have hn4 := hn3
    have hB4 : w.grownBy w3 (some r) := grownBy_of_below hB3 _
    go_upto_region 3 with fail
    clear hcl hR3 hM3 hn3 hB3 c0 c1 hc32
    have hX := cutW_len 32 L hLl h1
    have HX : Hid (cutW 32 (sha (78 :: enc.data.toList)) = cutW 32 L) := by show _ = _; rw [hL]
    obtain ⟨X, hXX⟩ : ∃ X, cutW 32 L = X := ⟨_, rfl⟩
    rw [hXX] at hR4 hX HX
    have hlk := run_look key43 Tryd.underlying101 zeroV3 hM4 X hX
    unfold K32 at hlk
    have d0 := Lib.cell_of_heap hn4 0
    have d1 := Lib.cell_of_heap hn4 1
    cases hF : F X with
    | some u =>
      rw [hF] at hlk
      have hend : MapF (addF F (cutW 32 (sha (78 :: enc.data.toList))) pl) r w3 := by
        rw [HX.out]
        unfold addF
        rw [if_neg (by rw [hF]; intro hh; cases hh)]
        exact hM4
      clear HX hM4 hF
      go_wp2_with (first | (refine wpList_load_whole _ rfl 82 (.tmp 6) rfl w1.heap.size g2 32 32 (X.map B) 5 rfl hR4 Tryd.underlying82 size43 ?_))
      go_end0
      exact ⟨rfl, hend, hB4⟩
    | none =>
      rw [hF] at hlk
      obtain ⟨w5, hup, hM5, hg5⟩ := run_put key43 Tryd.underlying101 hM4 X hX hF pl
      unfold K32 at hup
      have hend : MapF (addF F (cutW 32 (sha (78 :: enc.data.toList))) pl) r w5 := by
        rw [HX.out]
        unfold addF
        rw [if_pos hF]
        exact hM5
      have hB5 := grownBy_trans hB4 hg5
      clear HX hM4 hF hM5
      go_wp2_with (first | (refine wpList_load_whole _ rfl 82 (.tmp 6) rfl w1.heap.size g2 32 32 (X.map B) 5 rfl hR4 Tryd.underlying82 size43 ?_))
      go_end0
      exact ⟨rfl, hend, hB5⟩
end Go.Proofs.YtliapnhckdimoacDoor
namespace Go.Proofs.YtliapnhckdimoacDoor
open Go.RowKit Go.Proofs.Sha

theorem Row.setHead {w : World} {base g n cap : Nat} {xs : List Value} (h : Row w base g n cap xs) (ys : List Value) (ho : ys.length ≤ n) : Row (w.setCells g 0 ys) base g n cap (ys ++ xs.drop ys.length) := by
  have hin : ∀ j (hj : j < ys.length), (w.setCells g 0 ys).cell? ⟨g, 0 + j, none⟩ = some ys[j] := World.cell?_setCells_in g ys 0 w (fun j hj => h.room (0 + j) (by have := h.le; omega))
  have hout : ∀ j, j < 0 ∨ 0 + ys.length ≤ j → (w.setCells g 0 ys).cell? ⟨g, j, none⟩ = w.cell? ⟨g, j, none⟩ := fun j hj => World.cell?_setCells_out g ys 0 w ⟨g, j, none⟩ (fun _ _ => hj)
  have hgr := grownBy_setCells g ys 0 w
  have hl := h.len
  refine ⟨h.ge, Nat.lt_of_lt_of_le h.lt hgr.size, by rw [List.length_append, List.length_drop]; omega, h.le, ?_, ?_, ?_⟩
  · intro j hj
    rcases Nat.lt_or_ge j ys.length with h1 | h1
    · have := hin j h1
      rw [Nat.zero_add] at this
      rw [this, List.getElem?_append_left h1, List.getElem?_eq_getElem h1]
    · rw [hout j (.inr (by omega)), h.cell j hj, List.getElem?_append_right h1, List.getElem?_drop, show ys.length + (j - ys.length) = j by omega]
  · intro j hj
    rcases Nat.lt_or_ge j ys.length with h1 | h1
    · have := hin j h1
      rw [Nat.zero_add] at this
      rw [this]; rfl
    · rw [hout j (.inr (by omega))]; exact h.room j hj
  · intro j hj
    rw [World.frozen?_setCells]; exact h.free j hj
theorem info5m : (Tryd.prog.info? 5).map (·.size) = some 1 := by kernel_rfl
theorem run_copy_text {w : World} {base g n cap : Nat} {xs : List Value} (h : Row w base g n cap xs) (s : ByteArray) (hs : s.size ≤ n) :
    (Builtin.copy_ #[94, 9] 3 #[.slice (some ⟨g, 0, none⟩) n n, .string s]).run Tryd.prog w = .ok (goInt s.size) (w.setCells g 0 (s.data.toList.map B)) := by
  have hlen : (s.data.toList.map B).length = s.size := by rw [List.length_map]; rfl
  have hst := run_storeCells_cells (P := Tryd.prog) g 0 (s.data.toList.map B) 0 w (fun j hj => by have := h.room j (by have := h.le; omega); simpa using this) (fun j hj => by have := h.free j (by have := h.le; omega); simpa using this) (fun v hv => by obtain ⟨x, _, rfl⟩ := List.mem_map.1 hv; rfl)
  simp only [Nat.add_zero] at hst
  have hmin : Nat.min s.size n = s.size := Nat.min_eq_left hs
  have htk : List.take s.size (List.map (fun b : UInt8 => Value.int IntKind.u8 (b.toNat : Int)) s.data.toList) = s.data.toList.map B := by
    rw [List.take_of_length_le (by rw [List.length_map]; exact Nat.le_refl _)]; rfl
  obtain ⟨i, hi, hsz⟩ : ∃ i, Tryd.prog.info? 5 = some i ∧ i.size = 1 := by
    have := info5m
    cases hh : Tryd.prog.info? 5 with
    | none => rw [hh] at this; cases this
    | some i => rw [hh] at this; exact ⟨i, rfl, Option.some.inj this⟩
  simp [Builtin.copy_, run_underlying Tryd.underlying94, sizeOf, typeInfo, hi, Builtin.lenOf, hmin, Builtin.firstCells, htk, hst]

set_option maxRecDepth 100000 in
set_option maxHeartbeats 1000000 in
theorem find_any (wd : Nat) (r : Nat) (F : List UInt8 → Option Int) (hash : ByteArray) (w : World) (h : MapF F r w) (h1 : wd ≤ 32) (h2 : hash.size = wd) :
    Calls Tryd.prog 88 #[.agg #[.int .i64 (wd : Int), .map (some r)], .string hash] w fun e w' => e = .returned (.tuple #[.int .i64 ((F (cutW wd hash.data.toList)).getD 0), .bool (F (cutW wd hash.data.toList)).isSome]) ∧ Below w.heap.size w w' := by
  have z1 : ((hash.size : Int) != (wd : Int)) = false := by rw [h2]; simp
  have hsz : hash.size ≤ 32 := by omega
  have hhl : hash.data.toList.length = hash.size := rfl
  have hcut : hash.data.toList.map B ++ (zeros32b.map B).drop (hash.data.toList.map B).length = (cutW wd hash.data.toList).map B := by
    unfold cutW zeros32b
    rw [List.map_append, List.take_of_length_le (by omega), List.length_map, hhl, h2, List.map_replicate, List.map_replicate, List.drop_replicate]
  have hX : (cutW wd hash.data.toList).length = 32 := by unfold cutW; rw [List.length_append, List.length_take, List.length_replicate]; omega
  obtain ⟨X, hXX⟩ : ∃ X, cutW wd hash.data.toList = X := ⟨_, rfl⟩
  rw [hXX] at hcut hX ⊢
  clear h2 hXX
  have hrl : r < w.heap.size := by
    obtain ⟨es, cl, hg, _, _⟩ := h.is
    exact (Array.getElem?_eq_some_iff.1 hg).1
  go_enter Tryd.func88, Tryd.ntmps88
  obtain ⟨ga, hga⟩ : ∃ ga, w.heap.size = ga := ⟨_, rfl⟩
  go_wp2_with (first | (refine wpList_alloc_row _ rfl (some 6) rfl 82 82 rfl (zeros32b.map B) alloc43 ?_; intro g2 w2 hr2 hb2))
  have hr2' : Row w2 (ga + 1) g2 32 32 (zeros32b.map B) := by
    have := hr2
    rw [World.size_alloc, hga] at this
    exact this
  have hcp := run_copy_text hr2' hash hsz
  have hR3 := Row.setHead hr2' (hash.data.toList.map B) (by rw [List.length_map]; omega)
  rw [hcut] at hR3
  have hg3 := grownBy_setCells g2 (hash.data.toList.map B) 0 w2
  obtain ⟨w3, hw3⟩ : ∃ w3, w2.setCells g2 0 (hash.data.toList.map B) = w3 := ⟨_, rfl⟩
  rw [hw3] at hcp hR3 hg3
  clear hw3
  have hge := hr2'.ge
  have hb2' : Below (ga + 1) (w.alloc (.cells #[.int .i64 (wd : Int), .map (some r)] 103)) w2 := by
    have := hb2
    rw [World.size_alloc, hga] at this
    exact this
  have hn2 : w2.heap[ga]? = some (.cells #[.int .i64 (wd : Int), .map (some r)] 103) := (hb2'.block ga (by omega)).trans (by rw [← hga]; exact heap_alloc_new w _)
  have hne : ga ≠ g2 := by omega
  have hn3 : w3.heap[ga]? = some (.cells #[.int .i64 (wd : Int), .map (some r)] 103) := (hg3.block ga (Array.getElem?_eq_some_iff.1 hn2).1 (fun e => hne (Option.some.inj e))).trans hn2
  have hB2 : Below w.heap.size w w2 := ((Below.refl _ w).alloc (Nat.le_refl _) _).trans (hb2'.mono (by omega))
  have hM3 : MapF F r w3 := (h.below hB2).kept hg3 (by omega)
  have hB3 : Below w.heap.size w w3 := hB2.trans (below_of_grown hg3 (by omega) hB2.size)
  have hlk := run_look key43 Tryd.underlying101 zeroV3 hM3 X hX
  unfold K32 at hlk
  have d0 := Lib.cell_of_heap hn3 0
  have d1 := Lib.cell_of_heap hn3 1
  clear hb2 hb2' hr2 hr2' hB2 hn2 hM3 h
  obtain ⟨fx, hfx⟩ : ∃ fx, F X = fx := ⟨_, rfl⟩
  rw [hfx] at hlk
  have HF : Hid (F X = fx) := hfx
  clear hfx
  rw [hcp]
  clear hcp
  go_wp2_with (first | (refine wpList_load_whole _ rfl 82 (.tmp 6) rfl (ga + 1) g2 32 32 (X.map B) 5 rfl hR3 Tryd.underlying82 size43 ?_))
  go_ret2
  rw [HF.out]
  exact ⟨rfl, hB3⟩
end Go.Proofs.YtliapnhckdimoacDoor
namespace Go.Proofs.YtliapnhckdimoacDoor
open Go.RowKit Go.Proofs.Sha

/-- A slice of texts. -/
structure SArg (a : Option Addr) (ss : List ByteArray) (w : World) : Prop where
  le : ss.length ≤ 1048576
  sz : ∀ j, (ss.getD j ⟨#[]⟩).size ≤ 1048576
  at_ : 0 < ss.length → ∃ b off : Nat, a = some ⟨b, off, none⟩ ∧ b < w.heap.size ∧ ∀ j, j < ss.length → w.cell? ⟨b, off + j, none⟩ = some (.string (ss.getD j ⟨#[]⟩))
theorem SArg.below {a : Option Addr} {ss : List ByteArray} {w w' : World} (h : SArg a ss w) (hb : Below w.heap.size w w') : SArg a ss w' := by
  refine ⟨h.le, h.sz, fun hn => ?_⟩
  obtain ⟨b, off, ha, hlt, hc⟩ := h.at_ hn
  exact ⟨b, off, ha, Nat.lt_of_lt_of_le hlt hb.size, fun j hj => (hb.cell hlt).trans (hc j hj)⟩
/-- The hash of an encoding, cut to a width. -/
def keyW (wd : Nat) (s : ByteArray) : List UInt8 := cutW wd (sha (78 :: s.data.toList))
/-- The places of the first k encodings. -/
def placesF (wd : Nat) (ss : List ByteArray) : Nat → List UInt8 → Option Int
  | 0 => fun _ => none
  | k + 1 => addF (placesF wd ss k) (keyW wd (ss.getD k ⟨#[]⟩)) (k : Int)

end Go.Proofs.YtliapnhckdimoacDoor
namespace Go.Proofs.YtliapnhckdimoacDoor
open Go.RowKit Go.Proofs.Sha

/-- The first place at which p holds. -/
def firstI (p : Nat → Bool) : Nat → Option Nat
  | 0 => none
  | k + 1 => match firstI p k with
    | some i => some i
    | none => if p k then some k else none
theorem firstI_lt {p : Nat → Bool} {k i : Nat} (h : firstI p k = some i) : i < k := by
  induction k with
  | zero => cases h
  | succ k ih =>
    rw [firstI] at h
    cases hk : firstI p k with
    | some j => rw [hk] at h; simp only [Option.some.injEq] at h; subst h; have := ih hk; omega
    | none =>
      rw [hk] at h
      simp only at h
      split at h
      · simp only [Option.some.injEq] at h; omega
      · cases h
theorem placesF_first (wd : Nat) (ss : List ByteArray) (X : List UInt8) (k : Nat) : placesF wd ss k X = (firstI (fun i => decide (keyW wd (ss.getD i ⟨#[]⟩) = X)) k).map fun i => (i : Int) := by
  induction k with
  | zero => rfl
  | succ k ih =>
    rw [placesF, addF, firstI]
    obtain ⟨Y, hY⟩ : ∃ Y, keyW wd (ss.getD k ⟨#[]⟩) = Y := ⟨_, rfl⟩
    rw [hY]
    by_cases hn : placesF wd ss k Y = none
    · rw [if_pos hn]
      by_cases hXY : X = Y
      · subst hXY
        rw [if_pos rfl]
        rw [ih] at hn
        cases hf : firstI (fun i => decide (keyW wd (ss.getD i ⟨#[]⟩) = X)) k with
        | some j => rw [hf] at hn; cases hn
        | none => simp
      · rw [if_neg hXY, ih]
        cases hf : firstI (fun i => decide (keyW wd (ss.getD i ⟨#[]⟩) = X)) k with
        | some j => rfl
        | none => simp [Ne.symm hXY]
    · rw [if_neg hn, ih]
      cases hf : firstI (fun i => decide (keyW wd (ss.getD i ⟨#[]⟩) = X)) k with
      | some j => rfl
      | none =>
        simp only
        by_cases hXY : Y = X
        · subst hXY
          rw [ih, hf] at hn
          exact absurd rfl hn
        · simp [hXY]
def poolOk (n : Int) (m : Nat) : Bool := decide (1 ≤ n ∧ n ≤ 32 ∧ m ≤ 20000)
set_option maxRecDepth 100000 in
theorem validPool_any (n : Int) (a : Option Addr) (m c : Nat) (w : World) (_hm : m ≤ 1048576) :
    Calls Tryd.prog 34 #[.agg #[.int .i64 n, .slice a m c]] w fun e w' => e = .returned (.bool (poolOk n m)) ∧ Below w.heap.size w w' := by
  have hfin : Below w.heap.size w (w.alloc (.cells #[.int .i64 n, .slice a m c] 35)) := (Below.refl _ _).alloc (Nat.le_refl _) _
  by_cases c1 : 1 ≤ n
  · by_cases c2 : n ≤ 32
    · have hr : poolOk n m = decide ((m : Int) ≤ 20000) := by
        unfold poolOk
        by_cases c3 : m ≤ 20000
        · rw [decide_eq_true (by omega), decide_eq_true (by omega)]
        · rw [decide_eq_false (by omega), decide_eq_false (by omega)]
      rw [hr]
      clear hr
      go_enter Tryd.func34, Tryd.ntmps34
      go_wp2_with (first | go_in)
      go_ret
      exact ⟨rfl, hfin⟩
    · have hr : poolOk n m = false := by unfold poolOk; rw [decide_eq_false (by omega)]
      rw [hr]
      clear hr
      go_enter Tryd.func34, Tryd.ntmps34
      go_wp2_with (first | go_in)
      go_ret
      exact ⟨rfl, hfin⟩
  · have hr : poolOk n m = false := by unfold poolOk; rw [decide_eq_false (by omega)]
    rw [hr]
    clear hr
    go_enter Tryd.func34, Tryd.ntmps34
    go_wp2_with (first | go_in)
    go_ret
    exact ⟨rfl, hfin⟩
set_option maxRecDepth 100000 in
theorem poolOk_any (n : Int) (a : Option Addr) (m c : Nat) (w : World) (_hm : m ≤ 1048576) :
    Calls Tryd.prog 30 #[.agg #[.int .i64 n, .slice a m c]] w fun e w' => e = .returned (.bool (poolOk n m)) ∧ Below w.heap.size w w' := by
  have hfin : Below w.heap.size w (w.alloc (.cells #[.int .i64 n, .slice a m c] 35)) := (Below.refl _ _).alloc (Nat.le_refl _) _
  by_cases c1 : 1 ≤ n
  · by_cases c2 : n ≤ 32
    · have hr : poolOk n m = decide ((m : Int) ≤ 20000) := by
        unfold poolOk
        by_cases c3 : m ≤ 20000
        · rw [decide_eq_true (by omega), decide_eq_true (by omega)]
        · rw [decide_eq_false (by omega), decide_eq_false (by omega)]
      rw [hr]
      clear hr
      go_enter Tryd.func30, Tryd.ntmps30
      go_wp2_with (first | go_in)
      go_ret
      exact ⟨rfl, hfin⟩
    · have hr : poolOk n m = false := by unfold poolOk; rw [decide_eq_false (by omega)]
      rw [hr]
      clear hr
      go_enter Tryd.func30, Tryd.ntmps30
      go_wp2_with (first | go_in)
      go_ret
      exact ⟨rfl, hfin⟩
  · have hr : poolOk n m = false := by unfold poolOk; rw [decide_eq_false (by omega)]
    rw [hr]
    clear hr
    go_enter Tryd.func30, Tryd.ntmps30
    go_wp2_with (first | go_in)
    go_ret
    exact ⟨rfl, hfin⟩

/-- What DecodeNode answers, at one width. -/
structure Dec where
  k : ByteArray → ByteArray
  v : ByteArray → ByteArray
  l : ByteArray → ByteArray
  r : ByteArray → ByteArray
  ok : ByteArray → Bool
def DecSaid (f : FuncId) (wd : Nat) (D : Dec) : Prop := ∀ (s : ByteArray) (w : World), s.size ≤ 1048576 → Calls Tryd.prog f #[.string s, .int .i64 (wd : Int)] w fun e w' => e = .returned (.tuple #[.agg #[.string (D.k s), .string (D.v s), .string (D.l s), .string (D.r s)], .bool (D.ok s)]) ∧ Below w.heap.size w w'
/-- What PoolFind answers. -/
def foundR (D : Dec) (ss : List ByteArray) : Option Nat → (ByteArray × ByteArray × ByteArray × ByteArray) × Int
  | none => ((⟨#[]⟩, ⟨#[]⟩, ⟨#[]⟩, ⟨#[]⟩), 2)
  | some i => if D.ok (ss.getD i ⟨#[]⟩) then ((D.k (ss.getD i ⟨#[]⟩), D.v (ss.getD i ⟨#[]⟩), D.l (ss.getD i ⟨#[]⟩), D.r (ss.getD i ⟨#[]⟩)), 0) else ((⟨#[]⟩, ⟨#[]⟩, ⟨#[]⟩, ⟨#[]⟩), 3)
def nodeT (x : (ByteArray × ByteArray × ByteArray × ByteArray) × Int) : Value := .tuple #[.agg #[.string x.1.1, .string x.1.2.1, .string x.1.2.2.1, .string x.1.2.2.2], .int .i64 x.2]
/-- The hashes in the pool that are this one. -/
def hitB (wd : Nat) (ss : List ByteArray) (hash : ByteArray) (i : Nat) : Bool := decide ((sha (78 :: (ss.getD i ⟨#[]⟩).data.toList)).take wd = hash.data.toList)
theorem key_hit (wd : Nat) (ss : List ByteArray) (hash : ByteArray) (_h1 : wd ≤ 32) (h2 : hash.size = wd) (i : Nat) : decide (keyW wd (ss.getD i ⟨#[]⟩) = cutW wd hash.data.toList) = hitB wd ss hash i := by
  unfold keyW cutW hitB
  have hl : hash.data.toList.length = wd := h2
  rw [List.take_of_length_le (l := hash.data.toList) (by omega)]
  congr 1
  rw [List.append_cancel_right_eq]
end Go.Proofs.YtliapnhckdimoacDoor
namespace Go.Proofs.YtliapnhckdimoacDoor
open Go.RowKit Go.Proofs.Sha

def pfR (D : Dec) (n : Int) (ss : List ByteArray) (hash : ByteArray) : (ByteArray × ByteArray × ByteArray × ByteArray) × Int :=
  if poolOk n ss.length = true ∧ (hash.size : Int) = n then foundR D ss (firstI (hitB n.toNat ss hash) ss.length) else ((⟨#[]⟩, ⟨#[]⟩, ⟨#[]⟩, ⟨#[]⟩), 1)

/-- A node's block. -/
def NBk (g : Nat) (k v l r : ByteArray) (w : World) : Prop := w.heap[g]? = some (.cells #[.string k, .string v, .string l, .string r] 26)
theorem NBk.below {g : Nat} {k v l r : ByteArray} {w w' : World} (h : NBk g k v l r w) (hb : Below w.heap.size w w') : NBk g k v l r w' := (hb.block g (Array.getElem?_eq_some_iff.1 h).1).trans h
theorem NBk.all {g : Nat} {k v l r : ByteArray} {w : World} (h : NBk g k v l r w) (x y z u : ByteArray) : NBk g x y z u ((((w.setCell ⟨g, 0, none⟩ (.string x)).setCell ⟨g, 1, none⟩ (.string y)).setCell ⟨g, 2, none⟩ (.string z)).setCell ⟨g, 3, none⟩ (.string u)) :=
  heap_setCell_same _ g 3 _ 26 _ (heap_setCell_same _ g 2 _ 26 _ (heap_setCell_same _ g 1 _ 26 _ (heap_setCell_same _ g 0 _ 26 _ h)))
theorem NBk.fr {g j : Nat} {k v l r : ByteArray} {w : World} (h : NBk g k v l r w) : w.frozen? ⟨g, j, none⟩ = false := by rw [World.frozen?, show w.heap[g]? = _ from h]; rfl
structure NBc (g : Nat) (k v l r : ByteArray) (w : World) : Prop where
  c0 : w.cell? ⟨g, 0, none⟩ = some (.string k)
  c1 : w.cell? ⟨g, 1, none⟩ = some (.string v)
  c2 : w.cell? ⟨g, 2, none⟩ = some (.string l)
  c3 : w.cell? ⟨g, 3, none⟩ = some (.string r)
  f0 : w.frozen? ⟨g, 0, none⟩ = false
  f1 : w.frozen? ⟨g, 1, none⟩ = false
  f2 : w.frozen? ⟨g, 2, none⟩ = false
  f3 : w.frozen? ⟨g, 3, none⟩ = false
theorem NBk.at {g : Nat} {k v l r : ByteArray} {w : World} (h : NBk g k v l r w) : NBc g k v l r w :=
  ⟨Lib.cell_of_heap h 0, Lib.cell_of_heap h 1, Lib.cell_of_heap h 2, Lib.cell_of_heap h 3, h.fr, h.fr, h.fr, h.fr⟩
set_option maxRecDepth 100000 in
theorem retN {fn : Func} {R : Ending → World → Prop} {A : Act} {p q : Tmp} {gb : Nat} {k v l r : ByteArray} {c : Int} {W : World} (hres : fn.results = #[.cell p 26, .tmp q]) (hp : A.tmps.getD p undef = .pointer (some ⟨gb, 0, none⟩)) (hq : A.tmps.getD q undef = .int .i64 c) (hd : A.defers = []) (n : NBk gb k v l r W)
    (h : R (.returned (nodeT ((k, v, l, r), c))) W) : bodyPost Tryd.prog fn R Exit.ret A W := by
  obtain ⟨c0, c1, c2, c3, _, _, _, _⟩ := n.at
  have hp' : A.tmps[p]?.getD undef = .pointer (some ⟨gb, 0, none⟩) := by simpa using hp
  have hq' : A.tmps[q]?.getD undef = .int .i64 c := by simpa using hq
  refine bodyPost_ret (v := nodeT ((k, v, l, r), c)) ?_ hd h
  unfold nodeT
  simp [results, hres, go_sem, asAddr, hp', hq', c0, c1, c2, c3]
/-- A call whose argument is a pool and which answers a node. -/
structure P2 (w : World) (ga gb : Nat) (n : Int) (a : Option Addr) (m c : Nat) (W : World) : Prop where
  sz : w.heap.size = ga
  nx : gb = ga + 1
  bl : Below ga w W
  na : W.heap[ga]? = some (.cells #[.int .i64 n, .slice a m c] 35)
  nb : NBk gb ⟨#[]⟩ ⟨#[]⟩ ⟨#[]⟩ ⟨#[]⟩ W
section
variable {w : World} {ga gb : Nat} {n : Int} {a : Option Addr} {m c : Nat} {W W' : World}
theorem P2.mk0 (w : World) (n : Int) (a : Option Addr) (m c : Nat) : P2 w w.heap.size (w.heap.size + 1) n a m c ((w.alloc (.cells #[.int .i64 n, .slice a m c] 35)).alloc (.cells #[.string ⟨#[]⟩, .string ⟨#[]⟩, .string ⟨#[]⟩, .string ⟨#[]⟩] 26)) := by
  refine ⟨rfl, rfl, ((Below.refl _ w).alloc (Nat.le_refl _) _).alloc (by simp) _, ?_, ?_⟩
  · exact (((Below.refl _ (w.alloc (.cells #[.int .i64 n, .slice a m c] 35))).alloc (Nat.le_refl _) _).block _ (by simp)).trans (heap_alloc_new w _)
  · have := heap_alloc_new (w.alloc (.cells #[.int .i64 n, .slice a m c] 35)) (.cells #[.string ⟨#[]⟩, .string ⟨#[]⟩, .string ⟨#[]⟩, .string ⟨#[]⟩] 26)
    rw [World.size_alloc] at this
    exact this
theorem P2.below (h : P2 w ga gb n a m c W) (hb : Below W.heap.size W W') : P2 w ga gb n a m c W' :=
  ⟨h.sz, h.nx, h.bl.trans (hb.mono (by have := h.bl.size; have := h.sz; omega)), (hb.block ga (Array.getElem?_eq_some_iff.1 h.na).1).trans h.na, h.nb.below hb⟩
theorem P2.fin (h : P2 w ga gb n a m c W) (x y z u : ByteArray) : Below w.heap.size w ((((W.setCell ⟨gb, 0, none⟩ (.string x)).setCell ⟨gb, 1, none⟩ (.string y)).setCell ⟨gb, 2, none⟩ (.string z)).setCell ⟨gb, 3, none⟩ (.string u)) := by
  have hge : ga ≤ gb := by have := h.nx; omega
  rw [h.sz]
  exact (((h.bl.setCell hge _).setCell hge _).setCell hge _).setCell hge _
theorem P2.set4 (h : P2 w ga gb n a m c W) {g : Nat} (hg : gb < g) (x y z u : Value) : P2 w ga gb n a m c ((((W.setCell ⟨g, 0, none⟩ x).setCell ⟨g, 1, none⟩ y).setCell ⟨g, 2, none⟩ z).setCell ⟨g, 3, none⟩ u) := by
  have hge : gb + 1 ≤ g := hg
  have hb : Below (gb + 1) W ((((W.setCell ⟨g, 0, none⟩ x).setCell ⟨g, 1, none⟩ y).setCell ⟨g, 2, none⟩ z).setCell ⟨g, 3, none⟩ u) := ((((Below.refl _ W).setCell hge _).setCell hge _).setCell hge _).setCell hge _
  have hx := h.nx
  exact ⟨h.sz, h.nx, h.bl.trans (hb.mono (by omega)), (hb.block ga (by omega)).trans h.na, (hb.block gb (by omega)).trans h.nb⟩
theorem P2.bw (h : P2 w ga gb n a m c W) : Below w.heap.size w W := by rw [h.sz]; exact h.bl
end

end Go.Proofs.YtliapnhckdimoacDoor
namespace Go.Proofs.YtliapnhckdimoacDoor
open Go.RowKit Go.Proofs.Sha

/-- What the specification's Digest says, by itself. -/
def DigSaid : Prop := ∀ (t : ByteArray) (k : Nat) (w : World), t.size ≤ 1048576 → 1 ≤ k → k ≤ 32 → Calls Tryd.prog 25 #[.string t, .int .i64 (k : Int)] w fun e w' => e = .returned (.string ⟨((sha t.data.toList).take k).toArray⟩) ∧ Below w.heap.size w w'
/-- A node's hash, at a width. -/
def hashT (wd : Nat) (s : ByteArray) : ByteArray := ⟨((sha (78 :: s.data.toList)).take wd).toArray⟩
theorem info9 : (Tryd.prog.info? 9).map (fun i => (i.zero, i.size, i.bytes)) = some (some (.string ⟨#[]⟩), 1, 16) := by kernel_rfl
theorem ltext_any (e : ByteArray) (w : World) (he : e.size ≤ 1048575) :
    Calls Tryd.prog 26 #[.string e] w fun x w' => ∃ t : ByteArray, x = .returned (.string t) ∧ t.size ≤ 1048576 ∧ Hid (t.data.toList = 78 :: e.data.toList) ∧ w = w' := by
  have z : ¬ (9223372036854775807 < (⟨#[78]⟩ : ByteArray).size + e.size) := by show ¬ _ < 1 + e.size; omega
  have z' : ¬ (9223372036854775807 < 1 + e.size) := by omega
  go_enter Tryd.func26, Tryd.ntmps26
  go_wp2
  go_ret
  refine ⟨_, rfl, ?_, ?_, rfl⟩
  · rw [ByteArray.size_append]; show 1 + e.size ≤ _; omega
  · show (_ : List UInt8) = _
    rw [ByteArray.data_append]
    simp

/-- A call whose argument is a pool. -/
structure P1 (w : World) (ga : Nat) (n : Int) (a : Option Addr) (m c : Nat) (W : World) : Prop where
  sz : w.heap.size = ga
  bl : Below ga w W
  na : W.heap[ga]? = some (.cells #[.int .i64 n, .slice a m c] 35)
section
variable {w : World} {ga : Nat} {n : Int} {a : Option Addr} {m c : Nat} {W W' : World}
theorem P1.mk0 (w : World) (n : Int) (a : Option Addr) (m c : Nat) : P1 w w.heap.size n a m c (w.alloc (.cells #[.int .i64 n, .slice a m c] 35)) :=
  ⟨rfl, (Below.refl _ w).alloc (Nat.le_refl _) _, heap_alloc_new w _⟩
theorem P1.belowAt (h : P1 w ga n a m c W) {k : Nat} (hk : ga < k) (hb : Below k W W') : P1 w ga n a m c W' :=
  ⟨h.sz, h.bl.trans (hb.mono (by omega)), (hb.block ga hk).trans h.na⟩
theorem P1.lt (h : P1 w ga n a m c W) : ga < W.heap.size := (Array.getElem?_eq_some_iff.1 h.na).1
theorem P1.below (h : P1 w ga n a m c W) (hb : Below W.heap.size W W') : P1 w ga n a m c W' := h.belowAt h.lt hb
theorem P1.grown (h : P1 w ga n a m c W) {g : Nat} (hg : W.grownBy W' (some g)) (hl : ga < g) : P1 w ga n a m c W' := h.belowAt (Nat.lt_succ_self ga) (below_of_grown hg hl h.lt)
theorem P1.bw (h : P1 w ga n a m c W) : Below w.heap.size w W := by rw [h.sz]; exact h.bl
end

set_option maxRecDepth 100000 in
set_option maxHeartbeats 2000000 in
theorem hashes_any (HD : Hid DigSaid) (wd : Nat) (a : Option Addr) (ss : List ByteArray) (c : Nat) (w : World) (h : SArg a ss w) (hq : Hid (∀ j, (ss.getD j ⟨#[]⟩).size ≤ 1048575)) (h1 : 1 ≤ wd) (h2 : wd ≤ 32) :
    Calls Tryd.prog 32 #[.agg #[.int .i64 (wd : Int), .slice a ss.length c]] w fun e w' => ∃ g c', e = .returned (.slice (some ⟨g, 0, none⟩) ss.length c') ∧ Row w' (w.heap.size + 1) g ss.length c' ((ss.map (hashT wd)).map Value.string) ∧ Below w.heap.size w w' := by
  have hn := h.le
  obtain ⟨i0, hi0, hz0, hz1, hz2⟩ := info_parts info9
  obtain ⟨N, hN⟩ : ∃ N, ss.length = N := ⟨_, rfl⟩
  rw [hN] at hn
  rw [hN]
  have hrow0 : Row ((w.alloc (.cells #[.int .i64 (wd : Int), .slice a N c] 35)).alloc (.cells #[] 9)) (w.heap.size + 1) (w.heap.size + 1) 0 0 [] := by
    have := Row.of_block (base := w.heap.size + 1) (g := w.heap.size + 1) (Nat.le_refl _) (by have := heap_alloc_new (w.alloc (.cells #[.int .i64 (wd : Int), .slice a N c] 35)) (.cells #[] 9); rw [World.size_alloc] at this; exact this) 0 (Nat.zero_le _) (.inl rfl)
    simpa using this
  have hS0 := (P1.mk0 w (wd : Int) a N c).below ((Below.refl _ _).alloc (Nat.le_refl _) (.cells #[] 9))
  go_enter Tryd.func32, Tryd.ntmps32
  go_wp2_with fail
  obtain ⟨ga, hga⟩ : ∃ ga, w.heap.size = ga := ⟨_, rfl⟩
  generalize (w.alloc (.cells #[.int .i64 (wd : Int), .slice a N c] 35)).alloc (.cells #[] 9) = W0 at hrow0 hS0 ⊢
  rw [hga] at hrow0 hS0 ⊢
  go_loopw [3, 4] (fun t3 t4 wr => ∃ k g c' : Nat, k ≤ N ∧ t4 = .int .i64 (k : Int) ∧ t3 = .slice (some ⟨g, 0, none⟩) k c' ∧ Row wr (ga + 1) g k c' (((ss.take k).map (hashT wd)).map Value.string) ∧ P1 w ga (wd : Int) a N c wr) (fun _ t4 _ => N - (intOf t4).toNat)
  case atStart => exact ⟨0, ga + 1, 0, Nat.zero_le _, rfl, rfl, hrow0, hS0⟩
  case round =>
    clear hrow0 hS0
    obtain ⟨k, g, c', hk, rfl, rfl, hrow, hS⟩ := hrel
    have d0 := Lib.cell_of_heap hS.na 0
    have d1 := Lib.cell_of_heap hS.na 1
    by_cases hlt : k < N
    · have z1 : decide ((k : Int) < (N : Int)) = true := by simp; omega
      obtain ⟨b, off, rfl, hbl, hcs⟩ := h.at_ (by omega)
      obtain ⟨s, hs⟩ : ∃ s, ss.getD k ⟨#[]⟩ = s := ⟨_, rfl⟩
      have hsz : s.size ≤ 1048575 := by rw [← hs]; exact hq.out k
      have hc0 := hcs k (by omega)
      rw [hs] at hc0
      have hC : Hid (∀ W, P1 w ga (wd : Int) (some ⟨b, off, none⟩) N c W → W.cell? ⟨ga, 1, none⟩ = some (.slice (some ⟨b, off, none⟩) N c) ∧ W.cell? ⟨b, off + k, none⟩ = some (.string s) ∧ W.cell? ⟨ga, 0, none⟩ = some (.int .i64 (wd : Int))) := fun W hW => ⟨Lib.cell_of_heap hW.na 1, (hW.bw.cell hbl).trans hc0, Lib.cell_of_heap hW.na 0⟩
      have hcx := (hS.bw.cell hbl).trans hc0
      obtain ⟨X, hX⟩ : ∃ X, hashT wd s = X := ⟨_, rfl⟩
      have HX : Hid (∀ (t : ByteArray) w', t.size ≤ 1048576 → Hid (t.data.toList = 78 :: s.data.toList) → Calls Tryd.prog 25 #[.string t, .int .i64 (wd : Int)] w' fun e w'' => e = .returned (.string X) ∧ Below w'.heap.size w' w'') := fun t w' ht HT => by
        have := HD.out t wd w' ht h1 h2
        rw [HT.out] at this
        rw [← hX]
        exact this
      have hstep : Hid (((ss.take (k + 1)).map (hashT wd)).map Value.string = ((ss.take k).map (hashT wd)).map Value.string ++ [.string X]) := by
        have hkl : k < ss.length := by omega
        have hge : ss[k] = s := by rw [← hs, List.getD_eq_getElem?_getD, List.getElem?_eq_getElem hkl]; rfl
        show _ = _
        rw [List.take_succ_eq_append_getElem hkl, List.map_append, List.map_append, hge, ← hX]
        rfl
      have hgl := hrow.ge
      have hsl := hS.lt
      have hx0 : (0 : Int) ≤ (k : Int) := Int.natCast_nonneg _
      have hx1 : (k : Int) < (N : Int) := by omega
      clear hcs hs hc0 hX
      generalize ((ss.take k).map (hashT wd)).map Value.string = L at hrow hstep
      go_wp2_with fail
      go_region_held3 (fun w' => w'.cell? ⟨ga, 1, none⟩ = some (.slice (some ⟨b, off, none⟩) N c) ∧ w'.cell? ⟨b, off + k, none⟩ = some (.string s) ∧ w'.cell? ⟨ga, 0, none⟩ = some (.int .i64 (wd : Int))) (first | exact ⟨d1, hcx, d0⟩ | exact hC.out _ hS4 | exact hC.out _ hS3 | exact hC.out _ hS2) (first | (go_at_call 26; refine (ltext_any s _ hsz).mono ?_; rintro e w1 ⟨t, rfl, ht, HT, rfl⟩) | (go_at_call 25; refine (HX.out t _ ht HT).mono ?_; rintro e w2 ⟨rfl, hb2⟩; have hbx : Below wr.heap.size wr w2 := (Below.refl wr.heap.size wr).drew.trans hb2; have hS2 := hS.below hbx; have hrow2 := hrow.below hbx; have hS3 := hS2.below ((Below.refl _ w2).alloc (Nat.le_refl _) (.cells #[.string X] 9)); have hsz2 := hbx.size; clear hb2) | (refine step_append_row _ (by rfl) (.tmp 13) (.tmp 23) 29 (by rfl) 9 i0 (.string ⟨#[]⟩) 16 Tryd.underlying29 hi0 hz0 hz1 hz2 (by rfl) (ga + 1) g k c' _ (by rfl) (hrow2.alloc _) ⟨w2.heap.size, 0, none⟩ 1 1 [.string X] (by rfl) rfl (World.news_of_block (heap_alloc_new w2 _)) (by simp [Value.oneCell']) (by unfold maxLen; omega) (by omega) (by simp; omega) (w2.heap.size + 1) (by simp) ?_; intro g4 c4 w4 hrow4 hgrow4 hg4 hkeep4; have hS4 := hS3.grown hgrow4 hgl))
      go_wp2_with fail
      go_roundw
      case rel => exact ⟨k + 1, g4, c4, hlt, by go_num, rfl, by rw [hstep.out]; exact hrow4, hS4⟩
      case measure => simp [intOf]; omega
    · obtain rfl : k = N := by omega
      have z1 : decide ((k : Int) < (k : Int)) = false := by simp
      have htk : ss.take k = ss := List.take_of_length_le (by omega)
      rw [htk] at hrow
      go_wp2_with fail
      go_ret
      exact ⟨g, c', rfl, by rw [hga]; exact hrow, hS.bw⟩
end Go.Proofs.YtliapnhckdimoacDoor
namespace Go.Proofs.YtliapnhckdimoacDoor
open Go.RowKit Go.Proofs.Sha

theorem strNe {t s : ByteArray} (h : ¬ t = s) : (t.toList == s.toList) = false := by
  rw [beq_eq_false_iff_ne]
  intro he
  rw [ByteArray.toList_eq, ByteArray.toList_eq] at he
  exact h (ByteArray.ext (Array.toList_inj.1 he))
theorem firstI_step_no {p : Nat → Bool} {k : Nat} (h : firstI p k = none) (h1 : p k = false) : firstI p (k + 1) = none := by
  rw [firstI, h, h1]; rfl
theorem firstI_step_yes {p : Nat → Bool} {k : Nat} (h : firstI p k = none) (h1 : p k = true) : firstI p (k + 1) = some k := by
  rw [firstI, h, h1]; rfl
theorem firstI_up {p : Nat → Bool} {k i : Nat} (h : firstI p k = some i) (m : Nat) : firstI p (k + m) = some i := by
  induction m with
  | zero => exact h
  | succ m ih => rw [← Nat.add_assoc, firstI, ih]
theorem firstI_congr {p q : Nat → Bool} {k : Nat} (h : ∀ j, j < k → p j = q j) : firstI p k = firstI q k := by
  induction k with
  | zero => rfl
  | succ k ih => rw [firstI, firstI, ih (fun j hj => h j (by omega)), h k (Nat.lt_succ_self k)]

set_option maxRecDepth 100000 in
set_option maxHeartbeats 2000000 in
theorem lfind_any (D : Dec) (wd : Nat) (HDd : Hid (DecSaid 62 wd D)) (a : Option Addr) (ss : List ByteArray) (c : Nat) (g c' : Nat) (hs : List ByteArray) (hash : ByteArray) (w : World) (h : SArg a ss w) (_hl : hs.length = ss.length) (hg : g < w.heap.size) (hh : ∀ j, j < ss.length → w.cell? ⟨g, j, none⟩ = some (.string (hs.getD j ⟨#[]⟩))) :
    Calls Tryd.prog 31 #[.agg #[.int .i64 (wd : Int), .slice a ss.length c], .slice (some ⟨g, 0, none⟩) ss.length c', .string hash] w fun e w' => e = .returned (nodeT (foundR D ss (firstI (fun i => decide (hs.getD i ⟨#[]⟩ = hash)) ss.length))) ∧ Below w.heap.size w w' := by
  have hn := h.le
  obtain ⟨p, hp⟩ : ∃ p : Nat → Bool, (fun i => decide (hs.getD i ⟨#[]⟩ = hash)) = p := ⟨_, rfl⟩
  obtain ⟨fx, hfx⟩ : ∃ fx, firstI p ss.length = fx := ⟨_, rfl⟩
  obtain ⟨N, hN⟩ : ∃ N, ss.length = N := ⟨_, rfl⟩
  rw [hp, hfx]
  rw [hN] at hn hfx hh
  rw [hN]
  obtain ⟨R, hR⟩ : ∃ R, foundR D ss fx = R := ⟨_, rfl⟩
  rw [hR]
  have hS0 := P2.mk0 w (wd : Int) a N c
  go_enter Tryd.func31, Tryd.ntmps31
  go_wp2_with fail
  obtain ⟨ga, hga⟩ : ∃ ga, w.heap.size = ga := ⟨_, rfl⟩
  obtain ⟨gb, hgb⟩ : ∃ gb, w.heap.size + 1 = gb := ⟨_, rfl⟩
  generalize (w.alloc (.cells #[.int .i64 (wd : Int), .slice a N c] 35)).alloc (.cells #[.string ⟨#[]⟩, .string ⟨#[]⟩, .string ⟨#[]⟩, .string ⟨#[]⟩] 26) = W0 at hS0 ⊢
  rw [hgb, hga] at hS0 ⊢
  clear hgb
  replace hga : Hid _ := hga
  go_loopw [8] (fun t8 wr => ∃ k : Nat, k ≤ N ∧ t8 = .int .i64 (k : Int) ∧ firstI p k = none ∧ P2 w ga gb (wd : Int) a N c wr) (fun t8 _ => N - (intOf t8).toNat)
  case atStart => exact ⟨0, Nat.zero_le _, rfl, rfl, hS0⟩
  case round =>
    clear hS0
    obtain ⟨k, hk, rfl, hf, hS⟩ := hrel
    by_cases hlt : k < N
    · have z1 : decide ((k : Int) < (N : Int)) = true := by simp; omega
      have hx0 : (0 : Int) ≤ (k : Int) := Int.natCast_nonneg _
      have hx1 : (k : Int) < (N : Int) := by omega
      obtain ⟨x, hx⟩ : ∃ x, hs.getD k ⟨#[]⟩ = x := ⟨_, rfl⟩
      have hcy := (hS.bw.cell hg).trans (hh k hlt)
      rw [hx] at hcy
      have hpk : p k = decide (x = hash) := by rw [← hp, ← hx]
      by_cases he : x = hash
      · have z2 : (x.toList == hash.toList) = true := by rw [he]; simp
        have hfk : fx = some k := by
          have h1 := firstI_up (firstI_step_yes hf (hpk.trans (decide_eq_true he))) (N - (k + 1))
          rw [show k + 1 + (N - (k + 1)) = N by omega, hfx] at h1
          exact h1
        obtain ⟨b, off, rfl, hbl, hcs⟩ := h.at_ (by omega)
        obtain ⟨s, hs'⟩ : ∃ s, ss.getD k ⟨#[]⟩ = s := ⟨_, rfl⟩
        have hsz : s.size ≤ 1048576 := by rw [← hs']; exact h.sz k
        have hR1 : R = if D.ok s then ((D.k s, D.v s, D.l s, D.r s), 0) else ((⟨#[]⟩, ⟨#[]⟩, ⟨#[]⟩, ⟨#[]⟩), 3) := by rw [← hR, hfk, foundR, hs']
        have hc0 := hcs k (by omega)
        rw [hs'] at hc0
        have hC : Hid (∀ W, P2 w ga gb (wd : Int) (some ⟨b, off, none⟩) N c W → W.cell? ⟨ga, 1, none⟩ = some (.slice (some ⟨b, off, none⟩) N c) ∧ W.cell? ⟨b, off + k, none⟩ = some (.string s) ∧ W.cell? ⟨ga, 0, none⟩ = some (.int .i64 (wd : Int))) := fun W hW => ⟨Lib.cell_of_heap hW.na 1, (hW.bw.cell hbl).trans hc0, Lib.cell_of_heap hW.na 0⟩
        have hcx := (hS.bw.cell hbl).trans hc0
        have hg3 : Hid (gb < wr.heap.size) := (Array.getElem?_eq_some_iff.1 hS.nb).1
        clear hcs hs' hc0 hpk hf hh hR hfk hfx hp hx _hl hN
        go_upto_region 5 with fail
        clear hcy z1 z2 he
        have d0 := Lib.cell_of_heap hS.na 0
        have d1 := Lib.cell_of_heap hS.na 1
        obtain ⟨xk, hxk⟩ : ∃ x, D.k s = x := ⟨_, rfl⟩
        obtain ⟨xv, hxv⟩ : ∃ x, D.v s = x := ⟨_, rfl⟩
        obtain ⟨xl, hxl⟩ : ∃ x, D.l s = x := ⟨_, rfl⟩
        obtain ⟨xr, hxr⟩ : ∃ x, D.r s = x := ⟨_, rfl⟩
        cases hok : D.ok s with
        | true =>
          have HD1 : Hid (∀ w', Calls Tryd.prog 62 #[.string s, .int .i64 (wd : Int)] w' fun e w'' => e = .returned (.tuple #[.agg #[.string xk, .string xv, .string xl, .string xr], .bool true]) ∧ Below w'.heap.size w' w'') := fun w' => by
            have := HDd.out s w' hsz
            rw [hok, hxk, hxv, hxl, hxr] at this
            exact this
          have HR : Hid (R = ((xk, xv, xl, xr), 0)) := by
            show R = _
            rw [hR1, hok, hxk, hxv, hxl, hxr]
            rfl
          clear hxk hxv hxl hxr hok hR1
          go_region_held3 (fun w' => w'.cell? ⟨ga, 1, none⟩ = some (.slice (some ⟨b, off, none⟩) N c) ∧ w'.cell? ⟨b, off + k, none⟩ = some (.string s) ∧ w'.cell? ⟨ga, 0, none⟩ = some (.int .i64 (wd : Int))) (first | exact ⟨d1, hcx, d0⟩ | exact hC.out _ (hS.below ((Below.refl _ wr).drew.alloc (Nat.le_refl _) _)) | exact hC.out _ hS4 | exact hC.out _ (hS4.set4 hg3.out _ _ _ _) | exact hC.out _ (hS4.below ((Below.refl _ _).alloc (Nat.le_refl _) _))) (first | (go_at_call 62; refine (HD1.out _).mono ?_; rintro e w4 ⟨rfl, hb4⟩; have n4 : NBk wr.heap.size ⟨#[]⟩ ⟨#[]⟩ ⟨#[]⟩ ⟨#[]⟩ w4 := NBk.below (show NBk wr.heap.size ⟨#[]⟩ ⟨#[]⟩ ⟨#[]⟩ ⟨#[]⟩ (wr.drew.alloc (.cells #[.string ⟨#[]⟩, .string ⟨#[]⟩, .string ⟨#[]⟩, .string ⟨#[]⟩] 26)) from heap_alloc_new wr.drew _) hb4; have hS4 := (hS.below ((Below.refl _ wr).drew.alloc (Nat.le_refl _) (.cells #[.string ⟨#[]⟩, .string ⟨#[]⟩, .string ⟨#[]⟩, .string ⟨#[]⟩] 26))).below hb4; clear hb4; obtain ⟨k0, k1, k2, k3, l0, l1, l2, l3⟩ := n4.at) | (go_at_call 62; refine (HD1.out _).mono ?_; rintro e w4 ⟨rfl, hb4⟩; have hS4 := hS.below ((Below.refl wr.heap.size wr).drew.trans hb4); clear hb4))
          all_goals (clear d0 d1 hcx)
          · have n5 : NBk w4.heap.size xk xv xl xr (w4.alloc (.cells #[.string xk, .string xv, .string xl, .string xr] 26)) := heap_alloc_new _ _
            have hS5 := hS4.below ((Below.refl _ w4).alloc (Nat.le_refl _) (.cells #[.string xk, .string xv, .string xl, .string xr] 26))
            generalize w4.alloc (.cells #[.string xk, .string xv, .string xl, .string xr] 26) = W5 at n5 hS5 ⊢
            generalize w4.heap.size = g5 at n5 ⊢
            clear hS4
            obtain ⟨k0, k1, k2, k3, l0, l1, l2, l3⟩ := n5.at
            obtain ⟨c0, c1, c2, c3, f0, f1, f2, f3⟩ := hS5.nb.at
            go_wp2_with fail
            exact retN Tryd.results31 rfl rfl rfl (hS5.nb.all _ _ _ _) ⟨by rw [HR.out], hS5.fin _ _ _ _⟩
          · have n5 := n4.all xk xv xl xr
            have hS5 := hS4.set4 hg3.out (.string xk) (.string xv) (.string xl) (.string xr)
            generalize (((w4.setCell ⟨wr.heap.size, 0, none⟩ (.string xk)).setCell ⟨wr.heap.size, 1, none⟩ (.string xv)).setCell ⟨wr.heap.size, 2, none⟩ (.string xl)).setCell ⟨wr.heap.size, 3, none⟩ (.string xr) = W5 at n5 hS5 ⊢
            generalize wr.heap.size = g5 at n5 ⊢
            clear k0 k1 k2 k3 l0 l1 l2 l3 n4 hS4
            obtain ⟨k0, k1, k2, k3, l0, l1, l2, l3⟩ := n5.at
            obtain ⟨c0, c1, c2, c3, f0, f1, f2, f3⟩ := hS5.nb.at
            go_wp2_with fail
            exact retN Tryd.results31 rfl rfl rfl (hS5.nb.all _ _ _ _) ⟨by rw [HR.out], hS5.fin _ _ _ _⟩
        | false =>
          have HD1 : Hid (∀ w', Calls Tryd.prog 62 #[.string s, .int .i64 (wd : Int)] w' fun e w'' => e = .returned (.tuple #[.agg #[.string xk, .string xv, .string xl, .string xr], .bool false]) ∧ Below w'.heap.size w' w'') := fun w' => by
            have := HDd.out s w' hsz
            rw [hok, hxk, hxv, hxl, hxr] at this
            exact this
          have HR : Hid (R = ((⟨#[]⟩, ⟨#[]⟩, ⟨#[]⟩, ⟨#[]⟩), 3)) := by
            show R = _
            rw [hR1, hok, hxk, hxv, hxl, hxr]
            rfl
          clear hxk hxv hxl hxr hok hR1
          go_region_held3 (fun w' => w'.cell? ⟨ga, 1, none⟩ = some (.slice (some ⟨b, off, none⟩) N c) ∧ w'.cell? ⟨b, off + k, none⟩ = some (.string s) ∧ w'.cell? ⟨ga, 0, none⟩ = some (.int .i64 (wd : Int))) (first | exact ⟨d1, hcx, d0⟩ | exact hC.out _ (hS.below ((Below.refl _ wr).drew.alloc (Nat.le_refl _) _)) | exact hC.out _ hS4 | exact hC.out _ (hS4.set4 hg3.out _ _ _ _) | exact hC.out _ (hS4.below ((Below.refl _ _).alloc (Nat.le_refl _) _))) (first | (go_at_call 62; refine (HD1.out _).mono ?_; rintro e w4 ⟨rfl, hb4⟩; have n4 : NBk wr.heap.size ⟨#[]⟩ ⟨#[]⟩ ⟨#[]⟩ ⟨#[]⟩ w4 := NBk.below (show NBk wr.heap.size ⟨#[]⟩ ⟨#[]⟩ ⟨#[]⟩ ⟨#[]⟩ (wr.drew.alloc (.cells #[.string ⟨#[]⟩, .string ⟨#[]⟩, .string ⟨#[]⟩, .string ⟨#[]⟩] 26)) from heap_alloc_new wr.drew _) hb4; have hS4 := (hS.below ((Below.refl _ wr).drew.alloc (Nat.le_refl _) (.cells #[.string ⟨#[]⟩, .string ⟨#[]⟩, .string ⟨#[]⟩, .string ⟨#[]⟩] 26))).below hb4; clear hb4; obtain ⟨k0, k1, k2, k3, l0, l1, l2, l3⟩ := n4.at) | (go_at_call 62; refine (HD1.out _).mono ?_; rintro e w4 ⟨rfl, hb4⟩; have hS4 := hS.below ((Below.refl wr.heap.size wr).drew.trans hb4); clear hb4))
          all_goals (clear d0 d1 hcx)
          · have n5 : NBk w4.heap.size xk xv xl xr (w4.alloc (.cells #[.string xk, .string xv, .string xl, .string xr] 26)) := heap_alloc_new _ _
            have hS5 := hS4.below ((Below.refl _ w4).alloc (Nat.le_refl _) (.cells #[.string xk, .string xv, .string xl, .string xr] 26))
            generalize w4.alloc (.cells #[.string xk, .string xv, .string xl, .string xr] 26) = W5 at n5 hS5 ⊢
            generalize w4.heap.size = g5 at n5 ⊢
            clear hS4
            obtain ⟨k0, k1, k2, k3, l0, l1, l2, l3⟩ := n5.at
            obtain ⟨c0, c1, c2, c3, f0, f1, f2, f3⟩ := hS5.nb.at
            go_wp2_with fail
            exact retN Tryd.results31 rfl rfl rfl (hS5.nb.all _ _ _ _) ⟨by rw [HR.out], hS5.fin _ _ _ _⟩
          · have n5 := n4.all xk xv xl xr
            have hS5 := hS4.set4 hg3.out (.string xk) (.string xv) (.string xl) (.string xr)
            generalize (((w4.setCell ⟨wr.heap.size, 0, none⟩ (.string xk)).setCell ⟨wr.heap.size, 1, none⟩ (.string xv)).setCell ⟨wr.heap.size, 2, none⟩ (.string xl)).setCell ⟨wr.heap.size, 3, none⟩ (.string xr) = W5 at n5 hS5 ⊢
            generalize wr.heap.size = g5 at n5 ⊢
            clear k0 k1 k2 k3 l0 l1 l2 l3 n4 hS4
            obtain ⟨k0, k1, k2, k3, l0, l1, l2, l3⟩ := n5.at
            obtain ⟨c0, c1, c2, c3, f0, f1, f2, f3⟩ := hS5.nb.at
            go_wp2_with fail
            exact retN Tryd.results31 rfl rfl rfl (hS5.nb.all _ _ _ _) ⟨by rw [HR.out], hS5.fin _ _ _ _⟩
      · have z2 : (x.toList == hash.toList) = false := strNe he
        have hf' := firstI_step_no hf (hpk.trans (decide_eq_false he))
        clear hpk hx
        go_wp2_with fail
        go_roundw
        case rel => exact ⟨k + 1, hlt, by go_num, hf', hS⟩
        case measure => simp [intOf]; omega
    · obtain rfl : k = N := by omega
      have z1 : decide ((k : Int) < (k : Int)) = false := by simp
      have HR : Hid (R = ((⟨#[]⟩, ⟨#[]⟩, ⟨#[]⟩, ⟨#[]⟩), 2)) := by
        show R = _
        rw [← hR, ← hfx, hf]
        rfl
      clear hh hR hfx hf hp
      obtain ⟨c0, c1, c2, c3, f0, f1, f2, f3⟩ := hS.nb.at
      go_wp2_with fail
      exact retN Tryd.results31 rfl rfl rfl (hS.nb.all _ _ _ _) ⟨by rw [HR.out], hS.fin _ _ _ _⟩
end Go.Proofs.YtliapnhckdimoacDoor
