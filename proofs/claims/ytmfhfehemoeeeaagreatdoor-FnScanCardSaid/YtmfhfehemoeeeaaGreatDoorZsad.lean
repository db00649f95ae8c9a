import Derived.Test.YtmfhfehemoeeeaaGreatDoorProg
import Derived.Test.YtmfhfehemoeeeaaGreatDoorZsaa
import Derived.Test.YtmfhfehemoeeeaaGreatDoorZsac
import Derived.WalkSpells
import Derived.WalkLawsBesides
import Derived.StillTactics
import Derived.Laws.Pointers
import Derived.Deep.RegionHeld3
import Derived.Carry
import Derived.Deep.Cut
import Derived.Lib.BufferWrite
set_option maxRecDepth 100000
set_option maxHeartbeats 1000000
namespace Go.Proofs.YtmfhfehemoeeeaaGreatDoor
open Go.RowKit Go.Proofs.Sha

theorem key43 : Key32 Tryz.prog 123 5 :=
  ⟨Tryz.underlying123, Tryz.underlying5, by kernel_rfl, by kernel_rfl, by kernel_rfl, deep_law_gate (by kernel_rfl) (by decide +kernel) (by decide +kernel) (by kernel_rfl) (by rw [Tryz.underlying123]), ⟨Tryz.prog.types.size - 1, by kernel_rfl⟩⟩
def zeros32b : List UInt8 := List.replicate 32 0
theorem alloc43 (w : World) : (Instr.alloc 123 true (.tuple #[])).run Tryz.prog w = .ok (.pointer (some ⟨w.heap.size, 0, none⟩)) (w.alloc (.cells (zeros32b.map B).toArray 123)) := by kernel_rfl
theorem size43 : (Tryz.prog.info? 123).map (·.size) = some 32 := by kernel_rfl
/-- A hash cut to a width by zeros. -/
def cutW (k : Nat) (X : List UInt8) : List UInt8 := X.take k ++ List.replicate (32 - k) 0
theorem cutW_len (k : Nat) (X : List UInt8) (hX : X.length = 32) (hk : k ≤ 32) : (cutW k X).length = 32 := by unfold cutW; rw [List.length_append, List.length_take, List.length_replicate]; omega
/-- The first place counts. -/
def addF (F : List UInt8 → Option Int) (X : List UInt8) (v : Int) : List UInt8 → Option Int := if F X = none then fun Y => if Y = X then some v else F Y else F
/-- What encodingHash's contract says, by itself. -/
def HashSaid (K : World → Prop) : Prop := ∀ (s : ByteArray) (w : World), s.size ≤ 1048576 → K w → Calls Tryz.prog 82 #[.string s] w fun e w' => e = .returned (.agg ((sha (78 :: s.data.toList)).map B).toArray) ∧ Below w.heap.size w w'

theorem Row.setTail {w : World} {base g n cap : Nat} {xs : List Value} (h : Row w base g n cap xs) (o : Nat) (ys : List Value) (ho : o + ys.length = n) : Row (w.setCells g o ys) base g n cap (xs.take o ++ ys) := by
  have hin : ∀ j (hj : j < ys.length), (w.setCells g o ys).cell? ⟨g, o + j, none⟩ = some ys[j] := World.cell?_setCells_in g ys o w (fun j hj => h.room (o + j) (by have := h.le; omega))
  have hout : ∀ j, j < o ∨ o + ys.length ≤ j → (w.setCells g o ys).cell? ⟨g, j, none⟩ = w.cell? ⟨g, j, none⟩ := fun j hj => World.cell?_setCells_out g ys o w ⟨g, j, none⟩ (fun _ _ => hj)
  have hgr := grownBy_setCells g ys o w
  have hl := h.len
  refine ⟨h.ge, Nat.lt_of_lt_of_le h.lt hgr.size, by rw [List.length_append, List.length_take]; omega, h.le, ?_, ?_, ?_⟩
  · intro j hj
    rcases Nat.lt_or_ge j o with h1 | h1
    · rw [hout j (.inl h1), h.cell j (by omega), List.getElem?_append_left (by rw [List.length_take]; omega), List.getElem?_take, if_pos h1]
    · obtain ⟨q, rfl⟩ := Nat.exists_eq_add_of_le h1
      rw [hin q (by omega), List.getElem?_append_right (by rw [List.length_take]; omega), List.length_take, show o + q - min o xs.length = q by omega, List.getElem?_eq_getElem (by omega)]
  · intro j hj
    rcases Nat.lt_or_ge j o with h1 | h1
    · rw [hout j (.inl h1)]; exact h.room j hj
    · rcases Nat.lt_or_ge j (o + ys.length) with h2 | h2
      · obtain ⟨q, rfl⟩ := Nat.exists_eq_add_of_le h1
        rw [hin q (by omega)]; rfl
      · rw [hout j (.inr h2)]; exact h.room j hj
  · intro j hj
    rw [World.frozen?_setCells]; exact h.free j hj
theorem zeroV3 (w : World) : (zeroValue 3).run Tryz.prog w = .ok (.int .i64 0) w := by kernel_rfl
theorem zeroV5 (w : World) : (zeroValue 5).run Tryz.prog w = .ok (.int .u8 0) w := by kernel_rfl
theorem zeroCells_b (q : Nat) : (Builtin.zeroCells (Value.int .u8 0).cells q).toList = List.replicate q (B 0) := by
  show (Builtin.zeroCells #[Value.int .u8 0] q).toList = _
  rw [Builtin.zeroCells]
  apply List.ext_getElem
  · simp
  · intro j h1 h2
    simp [B, Nat.mod_one]
theorem run_clear_tail {w : World} {base g : Nat} {X : List UInt8} (h : Row w base g 32 32 (X.map B)) (_hX : X.length = 32) (k : Nat) (hk : k < 32) :
    ∃ w', (Builtin.clear_ #[22] 0 #[.slice (some ⟨g, k, none⟩) (32 - k) (32 - k)]).run Tryz.prog w = .ok (.tuple #[]) w' ∧ Row w' base g 32 32 ((cutW k X).map B) ∧ w.grownBy w' (some g) := by
  obtain ⟨q, hq⟩ : ∃ q, 32 - k = q + 1 := ⟨31 - k, by omega⟩
  have hst := run_storeCells_cells (P := Tryz.prog) g k (List.replicate (32 - k) (B 0)) 0 w (fun j hj => by rw [List.length_replicate] at hj; have := h.room (k + j) (by omega); simpa using this) (fun j hj => by rw [List.length_replicate] at hj; have := h.free (k + j) (by omega); simpa using this) (fun v hv => by rw [List.eq_of_mem_replicate hv]; rfl)
  simp only [Nat.add_zero] at hst
  refine ⟨w.setCells g k (List.replicate (32 - k) (B 0)), ?_, ?_, grownBy_setCells _ _ _ _⟩
  · unfold Builtin.clear_
    rw [hq] at hst ⊢
    simp only [Sem.run_bind, run_underlying Tryz.underlying22, Result.andThen_ok, zeroV5, zeroCells_b, List.getElem?_toArray, List.getElem?_cons_zero]
    rw [hst]
    rfl
  · have := Row.setTail h k (List.replicate (32 - k) (B 0)) (by rw [List.length_replicate]; omega)
    unfold cutW
    rw [List.map_append, List.map_take, List.map_replicate]
    exact this

theorem newP_any (wd : Int) (w : World) : Calls Tryz.prog 33 #[.int .i64 wd] w fun e w' => ∃ r, e = .returned (.agg #[.int .i64 wd, .map (some r)]) ∧ w.heap.size ≤ r ∧ MapF (fun _ => none) r w' ∧ Below w.heap.size w w' := by
  have hmm := @run_makeMap Tryz.prog
  have hM : MapF (fun _ => none) (w.heap.size + 1) ((w.alloc (.cells #[.int .i64 wd, .map (some (w.heap.size + 1))] 73)).alloc (.map #[] 0)) := by
    refine ⟨#[], 0, ?_, fun x hx => by simp at hx, fun X v hv => by cases hv⟩
    have := heap_alloc_new (w.alloc (.cells #[.int .i64 wd, .map (some (w.heap.size + 1))] 73)) (.map #[] 0)
    rwa [World.size_alloc] at this
  go_enter Tryz.func33, Tryz.ntmps33
  go_wp2_with fail
  refine bodyPost_ret (v := .agg #[.int .i64 wd, .map (some (w.heap.size + 1))]) ?_ rfl ⟨w.heap.size + 1, rfl, by omega, hM, ((Below.refl _ w).alloc (Nat.le_refl _) _).alloc (by simp) _⟩
  clear hM
  simp [results, Tryz.results33, go_sem, asAddr]

theorem add_any {K : World → Prop} (HH : Hid (HashSaid K)) (wd : Nat) (r : Nat) (F : List UInt8 → Option Int) (enc : ByteArray) (pl : Int) (w : World) (h : MapF F r w) (hK : K w) (keep : Hid (∀ w1 w2, K w1 → Below w1.heap.size w1 w2 → K w2)) (hs : enc.size ≤ 1048576) (h1 : wd ≤ 32) :
    Calls Tryz.prog 61 #[.agg #[.int .i64 (wd : Int), .map (some r)], .string enc, .int .i64 pl] w fun e w' => e = .returned (.tuple #[]) ∧ MapF (addF F (cutW wd (sha (78 :: enc.data.toList))) pl) r w' ∧ w.grownBy w' (some r) := by
  obtain ⟨L, hL⟩ : ∃ L, sha (78 :: enc.data.toList) = L := ⟨_, rfl⟩
  have hLl : L.length = 32 := by rw [← hL]; unfold sha; rw [outTo_length]
  have HC : Hid (∀ w', K w' → Calls Tryz.prog 82 #[.string enc] w' fun e w'' => e = .returned (.agg (L.map B).toArray) ∧ Below w'.heap.size w' w'') := fun w' hw => by rw [← hL]; exact HH.out enc w' hs hw
  go_enter Tryz.func61, Tryz.ntmps61
  go_wp2_with fail
  refine (HC.out _ (keep.out _ _ hK ((Below.refl _ w).alloc (Nat.le_refl _) _))).mono ?_
  rintro e w1 ⟨rfl, hb1⟩
  have hn1 : w1.heap[w.heap.size]? = some (.cells #[.int .i64 (wd : Int), .map (some r)] 73) := (hb1.block _ (by simp)).trans (heap_alloc_new w _)
  have hB1 : Below w.heap.size w w1 := ((Below.refl _ w).alloc (Nat.le_refl _) _).trans (hb1.mono (by simp))
  have hrl : r < w.heap.size := by
    obtain ⟨es, cl, hg, _, _⟩ := h.is
    exact (Array.getElem?_eq_some_iff.1 hg).1
  obtain ⟨ga, hga⟩ : ∃ ga, w.heap.size = ga := ⟨_, rfl⟩
  have hLm : (L.map B).length = 32 := by rw [List.length_map, hLl]
  have h1c : ∀ v ∈ L.map B, v.oneCell' = true := by
    intro v hv
    obtain ⟨x, _, rfl⟩ := List.mem_map.1 hv
    rfl
  have hs1 := hB1.size
  go_upto_region 2 with (first | (refine wpList_alloc_row _ rfl (some 6) rfl 123 123 rfl (zeros32b.map B) alloc43 ?_; intro g2 w2 hr2 hb2) | (refine wpList_store_whole _ rfl rfl 123 (.tmp 6) (.tmp 10) rfl w1.heap.size g2 32 (zeros32b.map B) (L.map B) rfl rfl hr2 hLm size43 h1c ?_; intro w3 hR3 hg3))
  have hge := hR3.ge
  have hgl := hR3.lt
  have hB3' : Below w1.heap.size w1 w3 := hb2.trans (below_of_grown hg3 hge hb2.size)
  have hn3 : w3.heap[ga]? = some (.cells #[.int .i64 (wd : Int), .map (some r)] 73) := by
    rw [← hga]
    exact (hB3'.block _ (Array.getElem?_eq_some_iff.1 hn1).1).trans hn1
  have hM3 : MapF F r w3 := (h.below hB1).below hB3'
  have hB3 : Below w.heap.size w w3 := hB1.trans (hB3'.mono hB1.size)
  have hne : ga ≠ g2 := by have := (Array.getElem?_eq_some_iff.1 hn1).1; omega
  clear hb2 hr2 hg3 hB3' hn1 hb1 hB1
  have c0 := Lib.cell_of_heap hn3 0
  have c1 := Lib.cell_of_heap hn3 1
  have q1 : (wd : Int) ≤ 32 := by omega
  have q2 : (0 : Int) ≤ (wd : Int) := by omega
  by_cases hw : wd < 32
  · obtain ⟨w4, hcl, hR4, hg4⟩ := run_clear_tail hR3 hLl wd hw
    have hM4 := hM3.kept hg4 (by omega)
    have hn4 : w4.heap[ga]? = some (.cells #[.int .i64 (wd : Int), .map (some r)] 73) := (hg4.block ga (Array.getElem?_eq_some_iff.1 hn3).1 (fun e => hne (Option.some.inj e))).trans hn3
    have hB4 : w.grownBy w4 (some r) := by
      have : Below w.heap.size w w4 := hB3.trans (below_of_grown hg4 (by omega) hB3.size)
      exact grownBy_of_below this _
    go_upto_region 3 with fail
    clear hcl hR3 hg4 hM3 hn3 hB3 c0 c1
    have hX := cutW_len wd L hLl h1
    have HX : Hid (cutW wd (sha (78 :: enc.data.toList)) = cutW wd L) := by show _ = _; rw [hL]
    obtain ⟨X, hXX⟩ : ∃ X, cutW wd L = X := ⟨_, rfl⟩
    rw [hXX] at hR4 hX HX
    have hlk := run_look key43 Tryz.underlying71 zeroV3 hM4 X hX
    unfold K32 at hlk
    have d0 := Lib.cell_of_heap hn4 0
    have d1 := Lib.cell_of_heap hn4 1
    cases hF : F X with
    | some u =>
      rw [hF] at hlk
      have hend : MapF (addF F (cutW wd (sha (78 :: enc.data.toList))) pl) r w4 := by
        rw [HX.out]
        unfold addF
        rw [if_neg (by rw [hF]; intro hh; cases hh)]
        exact hM4
      clear HX hM4 hF
      go_wp2_with (first | (refine wpList_load_whole _ rfl 123 (.tmp 6) rfl w1.heap.size g2 32 32 (X.map B) 5 rfl hR4 Tryz.underlying123 size43 ?_))
      go_end0
      exact ⟨rfl, hend, hB4⟩
    | none =>
      rw [hF] at hlk
      obtain ⟨w5, hup, hM5, hg5⟩ := run_put key43 Tryz.underlying71 hM4 X hX hF pl
      unfold K32 at hup
      have hend : MapF (addF F (cutW wd (sha (78 :: enc.data.toList))) pl) r w5 := by
        rw [HX.out]
        unfold addF
        rw [if_pos hF]
        exact hM5
      have hB5 := grownBy_trans hB4 hg5
      clear HX hM4 hF hM5
      go_wp2_with (first | (refine wpList_load_whole _ rfl 123 (.tmp 6) rfl w1.heap.size g2 32 32 (X.map B) 5 rfl hR4 Tryz.underlying123 size43 ?_))
      go_end0
      exact ⟨rfl, hend, hB5⟩
  · obtain rfl : wd = 32 := by omega
    have hcl : (Builtin.clear_ #[22] 0 #[.slice (some ⟨g2, 0, none⟩) 0 0]).run Tryz.prog w3 = .ok (.tuple #[]) w3 := by
      unfold Builtin.clear_
      simp only [Sem.run_bind, run_underlying Tryz.underlying22, Result.andThen_ok, List.getElem?_toArray, List.getElem?_cons_zero]
      rfl
    have hc32 : cutW 32 L = L := by unfold cutW; rw [List.take_of_length_le (by omega)]; simp
    have hR4 : Row w3 w1.heap.size g2 32 32 ((cutW 32 L).map B) := by rw [hc32]; exact hR3
    have hM4 := hM3
    have hn4 := hn3
    have hB4 : w.grownBy w3 (some r) := grownBy_of_below hB3 _
    go_upto_region 3 with fail
    clear hcl hR3 hM3 hn3 hB3 c0 c1 hc32
    have hX := cutW_len 32 L hLl h1
    have HX : Hid (cutW 32 (sha (78 :: enc.data.toList)) = cutW 32 L) := by show _ = _; rw [hL]
    obtain ⟨X, hXX⟩ : ∃ X, cutW 32 L = X := ⟨_, rfl⟩
    rw [hXX] at hR4 hX HX
    have hlk := run_look key43 Tryz.underlying71 zeroV3 hM4 X hX
    unfold K32 at hlk
    have d0 := Lib.cell_of_heap hn4 0
    have d1 := Lib.cell_of_heap hn4 1
    cases hF : F X with
    | some u =>
      rw [hF] at hlk
      have hend : MapF (addF F (cutW 32 (sha (78 :: enc.data.toList))) pl) r w3 := by
        rw [HX.out]
        unfold addF
        rw [if_neg (by rw [hF]; intro hh; cases hh)]
        exact hM4
      clear HX hM4 hF
      go_wp2_with (first | (refine wpList_load_whole _ rfl 123 (.tmp 6) rfl w1.heap.size g2 32 32 (X.map B) 5 rfl hR4 Tryz.underlying123 size43 ?_))
      go_end0
      exact ⟨rfl, hend, hB4⟩
    | none =>
      rw [hF] at hlk
      obtain ⟨w5, hup, hM5, hg5⟩ := run_put key43 Tryz.underlying71 hM4 X hX hF pl
      unfold K32 at hup
      have hend : MapF (addF F (cutW 32 (sha (78 :: enc.data.toList))) pl) r w5 := by
        rw [HX.out]
        unfold addF
        rw [if_pos hF]
        exact hM5
      have hB5 := grownBy_trans hB4 hg5
      clear HX hM4 hF hM5
      go_wp2_with (first | (refine wpList_load_whole _ rfl 123 (.tmp 6) rfl w1.heap.size g2 32 32 (X.map B) 5 rfl hR4 Tryz.underlying123 size43 ?_))
      go_end0
      exact ⟨rfl, hend, hB5⟩
theorem Row.setHead {w : World} {base g n cap : Nat} {xs : List Value} (h : Row w base g n cap xs) (ys : List Value) (ho : ys.length ≤ n) : Row (w.setCells g 0 ys) base g n cap (ys ++ xs.drop ys.length) := by
  have hin : ∀ j (hj : j < ys.length), (w.setCells g 0 ys).cell? ⟨g, 0 + j, none⟩ = some ys[j] := World.cell?_setCells_in g ys 0 w (fun j hj => h.room (0 + j) (by have := h.le; omega))
  have hout : ∀ j, j < 0 ∨ 0 + ys.length ≤ j → (w.setCells g 0 ys).cell? ⟨g, j, none⟩ = w.cell? ⟨g, j, none⟩ := fun j hj => World.cell?_setCells_out g ys 0 w ⟨g, j, none⟩ (fun _ _ => hj)
  have hgr := grownBy_setCells g ys 0 w
  have hl := h.len
  refine ⟨h.ge, Nat.lt_of_lt_of_le h.lt hgr.size, by rw [List.length_append, List.length_drop]; omega, h.le, ?_, ?_, ?_⟩
  · intro j hj
    rcases Nat.lt_or_ge j ys.length with h1 | h1
    · have := hin j h1
      rw [Nat.zero_add] at this
      rw [this, List.getElem?_append_left h1, List.getElem?_eq_getElem h1]
    · rw [hout j (.inr (by omega)), h.cell j hj, List.getElem?_append_right h1, List.getElem?_drop, show ys.length + (j - ys.length) = j by omega]
  · intro j hj
    rcases Nat.lt_or_ge j ys.length with h1 | h1
    · have := hin j h1
      rw [Nat.zero_add] at this
      rw [this]; rfl
    · rw [hout j (.inr (by omega))]; exact h.room j hj
  · intro j hj
    rw [World.frozen?_setCells]; exact h.free j hj
theorem info5m : (Tryz.prog.info? 5).map (·.size) = some 1 := by kernel_rfl
theorem run_copy_text {w : World} {base g n cap : Nat} {xs : List Value} (h : Row w base g n cap xs) (s : ByteArray) (hs : s.size ≤ n) :
    (Builtin.copy_ #[22, 9] 3 #[.slice (some ⟨g, 0, none⟩) n n, .string s]).run Tryz.prog w = .ok (goInt s.size) (w.setCells g 0 (s.data.toList.map B)) := by
  have hlen : (s.data.toList.map B).length = s.size := by rw [List.length_map]; rfl
  have hst := run_storeCells_cells (P := Tryz.prog) g 0 (s.data.toList.map B) 0 w (fun j hj => by have := h.room j (by have := h.le; omega); simpa using this) (fun j hj => by have := h.free j (by have := h.le; omega); simpa using this) (fun v hv => by obtain ⟨x, _, rfl⟩ := List.mem_map.1 hv; rfl)
  simp only [Nat.add_zero] at hst
  have hmin : Nat.min s.size n = s.size := Nat.min_eq_left hs
  have htk : List.take s.size (List.map (fun b : UInt8 => Value.int IntKind.u8 (b.toNat : Int)) s.data.toList) = s.data.toList.map B := by
    rw [List.take_of_length_le (by rw [List.length_map]; exact Nat.le_refl _)]; rfl
  obtain ⟨i, hi, hsz⟩ : ∃ i, Tryz.prog.info? 5 = some i ∧ i.size = 1 := by
    have := info5m
    cases hh : Tryz.prog.info? 5 with
    | none => rw [hh] at this; cases this
    | some i => rw [hh] at this; exact ⟨i, rfl, Option.some.inj this⟩
  simp [Builtin.copy_, run_underlying Tryz.underlying22, sizeOf, typeInfo, hi, Builtin.lenOf, hmin, Builtin.firstCells, htk, hst]

theorem find_any (wd : Nat) (r : Nat) (F : List UInt8 → Option Int) (hash : ByteArray) (w : World) (h : MapF F r w) (h1 : wd ≤ 32) (h2 : hash.size = wd) :
    Calls Tryz.prog 62 #[.agg #[.int .i64 (wd : Int), .map (some r)], .string hash] w fun e w' => e = .returned (.tuple #[.int .i64 ((F (cutW wd hash.data.toList)).getD 0), .bool (F (cutW wd hash.data.toList)).isSome]) ∧ Below w.heap.size w w' := by
  have z1 : ((hash.size : Int) != (wd : Int)) = false := by rw [h2]; simp
  have hsz : hash.size ≤ 32 := by omega
  have hhl : hash.data.toList.length = hash.size := rfl
  have hcut : hash.data.toList.map B ++ (zeros32b.map B).drop (hash.data.toList.map B).length = (cutW wd hash.data.toList).map B := by
    unfold cutW zeros32b
    rw [List.map_append, List.take_of_length_le (by omega), List.length_map, hhl, h2, List.map_replicate, List.map_replicate, List.drop_replicate]
  have hX : (cutW wd hash.data.toList).length = 32 := by unfold cutW; rw [List.length_append, List.length_take, List.length_replicate]; omega
  obtain ⟨X, hXX⟩ : ∃ X, cutW wd hash.data.toList = X := ⟨_, rfl⟩
  rw [hXX] at hcut hX ⊢
  clear h2 hXX
  have hrl : r < w.heap.size := by
    obtain ⟨es, cl, hg, _, _⟩ := h.is
    exact (Array.getElem?_eq_some_iff.1 hg).1
  go_enter Tryz.func62, Tryz.ntmps62
  obtain ⟨ga, hga⟩ : ∃ ga, w.heap.size = ga := ⟨_, rfl⟩
  go_wp2_with (first | (refine wpList_alloc_row _ rfl (some 6) rfl 123 123 rfl (zeros32b.map B) alloc43 ?_; intro g2 w2 hr2 hb2))
  have hr2' : Row w2 (ga + 1) g2 32 32 (zeros32b.map B) := by
    have := hr2
    rw [World.size_alloc, hga] at this
    exact this
  have hcp := run_copy_text hr2' hash hsz
  have hR3 := Row.setHead hr2' (hash.data.toList.map B) (by rw [List.length_map]; omega)
  rw [hcut] at hR3
  have hg3 := grownBy_setCells g2 (hash.data.toList.map B) 0 w2
  obtain ⟨w3, hw3⟩ : ∃ w3, w2.setCells g2 0 (hash.data.toList.map B) = w3 := ⟨_, rfl⟩
  rw [hw3] at hcp hR3 hg3
  clear hw3
  have hge := hr2'.ge
  have hb2' : Below (ga + 1) (w.alloc (.cells #[.int .i64 (wd : Int), .map (some r)] 73)) w2 := by
    have := hb2
    rw [World.size_alloc, hga] at this
    exact this
  have hn2 : w2.heap[ga]? = some (.cells #[.int .i64 (wd : Int), .map (some r)] 73) := (hb2'.block ga (by omega)).trans (by rw [← hga]; exact heap_alloc_new w _)
  have hne : ga ≠ g2 := by omega
  have hn3 : w3.heap[ga]? = some (.cells #[.int .i64 (wd : Int), .map (some r)] 73) := (hg3.block ga (Array.getElem?_eq_some_iff.1 hn2).1 (fun e => hne (Option.some.inj e))).trans hn2
  have hB2 : Below w.heap.size w w2 := ((Below.refl _ w).alloc (Nat.le_refl _) _).trans (hb2'.mono (by omega))
  have hM3 : MapF F r w3 := (h.below hB2).kept hg3 (by omega)
  have hB3 : Below w.heap.size w w3 := hB2.trans (below_of_grown hg3 (by omega) hB2.size)
  have hlk := run_look key43 Tryz.underlying71 zeroV3 hM3 X hX
  unfold K32 at hlk
  have d0 := Lib.cell_of_heap hn3 0
  have d1 := Lib.cell_of_heap hn3 1
  clear hb2 hb2' hr2 hr2' hB2 hn2 hM3 h
  obtain ⟨fx, hfx⟩ : ∃ fx, F X = fx := ⟨_, rfl⟩
  rw [hfx] at hlk
  have HF : Hid (F X = fx) := hfx
  clear hfx
  rw [hcp]
  clear hcp
  go_wp2_with (first | (refine wpList_load_whole _ rfl 123 (.tmp 6) rfl (ga + 1) g2 32 32 (X.map B) 5 rfl hR3 Tryz.underlying123 size43 ?_))
  go_ret2
  rw [HF.out]
  exact ⟨rfl, hB3⟩
/-- A slice of texts. -/
structure SArg (a : Option Addr) (ss : List ByteArray) (w : World) : Prop where
  le : ss.length ≤ 1048576
  sz : ∀ j, (ss.getD j ⟨#[]⟩).size ≤ 1048576
  at_ : 0 < ss.length → ∃ b off : Nat, a = some ⟨b, off, none⟩ ∧ b < w.heap.size ∧ ∀ j, j < ss.length → w.cell? ⟨b, off + j, none⟩ = some (.string (ss.getD j ⟨#[]⟩))
theorem SArg.below {a : Option Addr} {ss : List ByteArray} {w w' : World} (h : SArg a ss w) (hb : Below w.heap.size w w') : SArg a ss w' := by
  refine ⟨h.le, h.sz, fun hn => ?_⟩
  obtain ⟨b, off, ha, hlt, hc⟩ := h.at_ hn
  exact ⟨b, off, ha, Nat.lt_of_lt_of_le hlt hb.size, fun j hj => (hb.cell hlt).trans (hc j hj)⟩
/-- The hash of an encoding, cut to a width. -/
def keyW (wd : Nat) (s : ByteArray) : List UInt8 := cutW wd (sha (78 :: s.data.toList))
/-- The places of the first k encodings. -/
def placesF (wd : Nat) (ss : List ByteArray) : Nat → List UInt8 → Option Int
  | 0 => fun _ => none
  | k + 1 => addF (placesF wd ss k) (keyW wd (ss.getD k ⟨#[]⟩)) (k : Int)

/-- The first place at which p holds. -/
def firstI (p : Nat → Bool) : Nat → Option Nat
  | 0 => none
  | k + 1 => match firstI p k with
    | some i => some i
    | none => if p k then some k else none
theorem firstI_lt {p : Nat → Bool} {k i : Nat} (h : firstI p k = some i) : i < k := by
  induction k with
  | zero => cases h
  | succ k ih =>
    rw [firstI] at h
    cases hk : firstI p k with
    | some j => rw [hk] at h; simp only [Option.some.injEq] at h; subst h; have := ih hk; omega
    | none =>
      rw [hk] at h
      simp only at h
      split at h
      · simp only [Option.some.injEq] at h; omega
      · cases h
theorem placesF_first (wd : Nat) (ss : List ByteArray) (X : List UInt8) (k : Nat) : placesF wd ss k X = (firstI (fun i => decide (keyW wd (ss.getD i ⟨#[]⟩) = X)) k).map fun i => (i : Int) := by
  induction k with
  | zero => rfl
  | succ k ih =>
    rw [placesF, addF, firstI]
    obtain ⟨Y, hY⟩ : ∃ Y, keyW wd (ss.getD k ⟨#[]⟩) = Y := ⟨_, rfl⟩
    rw [hY]
    by_cases hn : placesF wd ss k Y = none
    · rw [if_pos hn]
      by_cases hXY : X = Y
      · subst hXY
        rw [if_pos rfl]
        rw [ih] at hn
        cases hf : firstI (fun i => decide (keyW wd (ss.getD i ⟨#[]⟩) = X)) k with
        | some j => rw [hf] at hn; cases hn
        | none => simp
      · rw [if_neg hXY, ih]
        cases hf : firstI (fun i => decide (keyW wd (ss.getD i ⟨#[]⟩) = X)) k with
        | some j => rfl
        | none => simp [Ne.symm hXY]
    · rw [if_neg hn, ih]
      cases hf : firstI (fun i => decide (keyW wd (ss.getD i ⟨#[]⟩) = X)) k with
      | some j => rfl
      | none =>
        simp only
        by_cases hXY : Y = X
        · subst hXY
          rw [ih, hf] at hn
          exact absurd rfl hn
        · simp [hXY]
def poolOk (n : Int) (m : Nat) : Bool := decide (1 ≤ n ∧ n ≤ 32 ∧ m ≤ 20000)
theorem validPool_any (n : Int) (a : Option Addr) (m c : Nat) (w : World) (_hm : m ≤ 1048576) :
    Calls Tryz.prog 23 #[.agg #[.int .i64 n, .slice a m c]] w fun e w' => e = .returned (.bool (poolOk n m)) ∧ Below w.heap.size w w' := by
  have hfin : Below w.heap.size w (w.alloc (.cells #[.int .i64 n, .slice a m c] 29)) := (Below.refl _ _).alloc (Nat.le_refl _) _
  by_cases c1 : 1 ≤ n
  · by_cases c2 : n ≤ 32
    · have hr : poolOk n m = decide ((m : Int) ≤ 20000) := by
        unfold poolOk
        by_cases c3 : m ≤ 20000
        · rw [decide_eq_true (by omega), decide_eq_true (by omega)]
        · rw [decide_eq_false (by omega), decide_eq_false (by omega)]
      rw [hr]
      clear hr
      go_enter Tryz.func23, Tryz.ntmps23
      go_wp2_with (first | go_in)
      go_ret
      exact ⟨rfl, hfin⟩
    · have hr : poolOk n m = false := by unfold poolOk; rw [decide_eq_false (by omega)]
      rw [hr]
      clear hr
      go_enter Tryz.func23, Tryz.ntmps23
      go_wp2_with (first | go_in)
      go_ret
      exact ⟨rfl, hfin⟩
  · have hr : poolOk n m = false := by unfold poolOk; rw [decide_eq_false (by omega)]
    rw [hr]
    clear hr
    go_enter Tryz.func23, Tryz.ntmps23
    go_wp2_with (first | go_in)
    go_ret
    exact ⟨rfl, hfin⟩
/-- What DecodeNode answers, at one width. -/
structure Dec where
  k : ByteArray → ByteArray
  v : ByteArray → ByteArray
  l : ByteArray → ByteArray
  r : ByteArray → ByteArray
  ok : ByteArray → Bool
/-- The hashes in the pool that are this one. -/
def hitB (wd : Nat) (ss : List ByteArray) (hash : ByteArray) (i : Nat) : Bool := decide ((sha (78 :: (ss.getD i ⟨#[]⟩).data.toList)).take wd = hash.data.toList)
theorem key_hit (wd : Nat) (ss : List ByteArray) (hash : ByteArray) (_h1 : wd ≤ 32) (h2 : hash.size = wd) (i : Nat) : decide (keyW wd (ss.getD i ⟨#[]⟩) = cutW wd hash.data.toList) = hitB wd ss hash i := by
  unfold keyW cutW hitB
  have hl : hash.data.toList.length = wd := h2
  rw [List.take_of_length_le (l := hash.data.toList) (by omega)]
  congr 1
  rw [List.append_cancel_right_eq]
section
variable {w : World} {ga gb : Nat} {n : Int} {a : Option Addr} {m c : Nat} {W W' : World}
end

/-- A node's hash, at a width. -/
def hashT (wd : Nat) (s : ByteArray) : ByteArray := ⟨((sha (78 :: s.data.toList)).take wd).toArray⟩
theorem info9 : (Tryz.prog.info? 9).map (fun i => (i.zero, i.size, i.bytes)) = some (some (.string ⟨#[]⟩), 1, 16) := by kernel_rfl
section
variable {w : World} {ga : Nat} {n : Int} {a : Option Addr} {m c : Nat} {W W' : World}
end

end Go.Proofs.YtmfhfehemoeeeaaGreatDoor
