import Derived.Test.YtngnbflkiiehmaaGreatDoorZf
import Derived.Test.YtngnbflkiiehmaaGreatDoorZi
import Derived.WalkSpells
import Derived.WalkLawsBesides
import Derived.Deep.RegionHeld3
import Derived.Test.YtngnbflkiiehmaaGreatDoorZa
namespace Go.Proofs.YtngnbflkiiehmaaGreatDoor
open Go.RowKit Go.Proofs.Sha

/-- What NodeHash answers. -/
def hashS (k v l r : ByteArray) (n : Int) : ByteArray := if (encS k v l r n).size = 0 then ⟨#[]⟩ else ⟨((sha (78 :: (encS k v l r n).data.toList)).take n.toNat).toArray⟩

theorem encS_size (k v l r : ByteArray) (n : Int) : (encS k v l r n).size ≤ 10000 ∧ (¬ (encS k v l r n).size = 0 → 1 ≤ n ∧ n ≤ 32) := by
  unfold encS
  split
  · rename_i h
    have ho := nodeOk_out h
    rw [T_size]
    unfold encL
    simp only [List.length_append, sized_length, List.length_cons, List.length_nil]
    have e1 : k.data.toList.length = k.size := rfl
    have e2 : v.data.toList.length = v.size := rfl
    have e3 : l.data.toList.length = l.size := rfl
    have e4 : r.data.toList.length = r.size := rfl
    omega
  · exact ⟨Nat.zero_le _, fun h => absurd rfl h⟩

end Go.Proofs.YtngnbflkiiehmaaGreatDoor
namespace Go.Proofs.YtngnbflkiiehmaaGreatDoor
open Go.RowKit Go.Proofs.Sha

theorem fed_new (w : World) : Fed (w.alloc (.cells newCells.toArray 102)) w.heap.size [] (List.replicate 64 0) 0 := ⟨hsh_new w, rfl⟩
theorem row_take {w : World} {base g n cap : Nat} {xs : List Value} (h : Row w base g n cap xs) (k : Nat) (hk : k ≤ n) : Row w base g k cap (xs.take k) :=
  ⟨h.ge, h.lt, by rw [List.length_take, h.len]; exact Nat.min_eq_left hk, Nat.le_trans hk h.le, fun j hj => by rw [h.cell j (by omega), List.getElem?_take, if_pos hj], h.room, h.free⟩

set_option maxRecDepth 100000 in
set_option maxHeartbeats 800000 in
theorem ehash_any (s : ByteArray) (w : World) (hs : s.size ≤ 1048576)
    (hK : ∀ j, j < 64 → w.cell? ⟨0, j, none⟩ = some (.int .u32 ((kTab.getD j 0).toNat : Int))) :
    Calls Tryz.prog 45 #[.string s] w fun e w' => e = .returned (.agg ((sha (78 :: s.data.toList)).map B).toArray) ∧ Below w.heap.size w w' := by
  have hl0 : 0 < w.heap.size := World.block_lt_of_cell? w _ (hK 0 (by omega))
  have HK : Hid (∀ w' : World, Below w.heap.size w w' → ∀ j, j < 64 → w'.cell? ⟨0, j, none⟩ = some (.int .u32 ((kTab.getD j 0).toNat : Int))) := fun w' hb j hj => (hb.cell (by exact hl0)).trans (hK j hj)
  clear hK
  have hsl : (78 :: s.data.toList).length = 1 + s.size := by rw [List.length_cons]; show s.size + 1 = _; omega
  go_enter Tryz.func45, Tryz.ntmps45
  go_wp2_with (refine wpList_alloc_row _ rfl (some 2) rfl 74 74 rfl (zeros8.map B) alloc32 ?_; intro g2 w2 hr2 hb2)
  have hr2' : Row w2 w.heap.size g2 32 32 (zeros8.map B) := hr2
  have hge := hr2.ge
  have hlt := hr2.lt
  have hs2 := hb2.size
  clear hr2
  refine (new_any w2).mono ?_
  rintro e w3 ⟨rfl, hw3⟩
  have F3 : Fed w3 w2.heap.size [] (List.replicate 64 0) 0 := by rw [hw3]; exact fed_new w2
  have hb3 : Below w2.heap.size w2 w3 := by rw [hw3]; exact (Below.refl _ _).alloc (Nat.le_refl _) _
  clear hw3
  obtain ⟨b, hb⟩ : ∃ b, w2.heap.size = b := ⟨_, rfl⟩
  rw [hb] at F3
  rw [hb]
  have hs3 := hb3.size
  have hbw3 : Below w.heap.size w w3 := hb2.trans (hb3.mono hs2)
  have hR3 : Row w3 w.heap.size g2 32 32 (zeros8.map B) := hr2'.below hb3
  have hb0 : b ≠ 0 := by omega
  have hgb : g2 < b := by omega
  have hwb : w.heap.size ≤ b := by omega
  clear hr2' hb3 hb2
  go_wp2_with fail
  refine (feed_any b [] (List.replicate 64 0) ⟨#[78]⟩ w3 F3 (by simp; show 1 ≤ _; omega) hb0 (HK.out w3 hbw3)).mono ?_
  rintro e w3' ⟨rfl, ⟨k3, F3'⟩, hg3⟩
  have hs3' := hg3.size
  have hbw3' : Below w.heap.size w w3' := hbw3.trans (below_of_grown hg3 hwb (by omega))
  have hR3' : Row w3' w.heap.size g2 32 32 (zeros8.map B) := hR3.kept hg3 (by simp; omega)
  have F3n : Fed w3' b [78] k3 [78].length := F3'
  clear F3 F3' hg3 hR3 hbw3
  go_wp2_with fail
  refine (feed_any b [78] k3 s w3' F3n (by simp; omega) hb0 (HK.out w3' hbw3')).mono ?_
  rintro e w4 ⟨rfl, ⟨k4, F4⟩, hg4⟩
  have hs4 := hg4.size
  have hbw4 : Below w.heap.size w w4 := hbw3'.trans (below_of_grown hg4 hwb (by omega))
  have hR4 : Row w4 w.heap.size g2 32 32 (zeros8.map B) := hR3'.kept hg4 (by simp; omega)
  have F4n : Fed w4 b (78 :: s.data.toList) k4 (1 + s.size) := F4
  clear F3n F4 hg4 hR3' hbw3'
  have hfs := fin_sha (78 :: s.data.toList) k4 F4n.H.kl F4n.tk
  have H4 := F4n.H
  rw [hsl] at H4 hfs
  clear F4n
  go_wp2_with fail
  refine (finish_any b _ k4 _ (1 + s.size) w4 H4 (by omega) (by omega) hb0 (HK.out w4 hbw4)).mono ?_
  rintro e w5 ⟨rfl, hg5⟩
  rw [hfs]
  clear hfs H4
  have hbw5 : Below w.heap.size w w5 := hbw4.trans (below_of_grown hg5 hwb (by omega))
  have hR5 : Row w5 w.heap.size g2 32 32 (zeros8.map B) := hR4.kept hg5 (by simp; omega)
  have hln : ((sha (78 :: s.data.toList)).map B).length = 32 := by rw [List.length_map]; unfold sha; rw [outTo_length]
  have h1c : ∀ v ∈ (sha (78 :: s.data.toList)).map B, v.oneCell' = true := by
    intro v hv
    obtain ⟨x, _, rfl⟩ := List.mem_map.1 hv
    rfl
  obtain ⟨L, hL⟩ : ∃ L, (sha (78 :: s.data.toList)).map B = L := ⟨_, rfl⟩
  rw [hL] at hln h1c
  rw [hL]
  have HL : Hid ((sha (78 :: s.data.toList)).map B = L) := hL
  clear hL
  go_wp2_with (refine wpList_store_whole _ rfl rfl 74 (.tmp 2) (.tmp 11) rfl w.heap.size g2 32 (zeros8.map B) L rfl rfl hR5 hln size32 h1c ?_; intro w8 hR8 hg8)
  refine ret_row _ (p := 2) (ty := 74) rfl w.heap.size g2 32 32 L 5 rfl hR8 Tryz.underlying74 size32 rfl ?_
  refine ⟨?_, ?_⟩
  · rw [HL.out]
  · exact hbw5.trans (below_of_grown hg8 hge (by have := hbw5.size; omega))
end Go.Proofs.YtngnbflkiiehmaaGreatDoor
namespace Go.Proofs.YtngnbflkiiehmaaGreatDoor
open Go.RowKit Go.Proofs.Sha

set_option maxRecDepth 100000 in
set_option maxHeartbeats 1000000 in
/-- encodingDigest: what is hashed, cut to a width. -/
theorem edig_any (q : ByteArray) (m : Nat) (w : World) (hq : q.size ≤ 1048576) (h1 : 1 ≤ m) (h2 : m ≤ 32) (hK : ∀ j, j < 64 → w.cell? ⟨0, j, none⟩ = some (.int .u32 ((kTab.getD j 0).toNat : Int))) :
    Calls Tryz.prog 26 #[.string q, .int .i64 (m : Int)] w fun e w' => e = .returned (.string ⟨((sha (78 :: q.data.toList)).take m).toArray⟩) ∧ Below w.heap.size w w' := by
  have HE : Hid (Calls Tryz.prog 45 #[.string q] w fun e w'' => e = .returned (.agg ((sha (78 :: q.data.toList)).map B).toArray) ∧ Below w.heap.size w w'') := ehash_any q w hq hK
  have hln : (sha (78 :: q.data.toList)).length = 32 := sha_len _
  obtain ⟨M, hM⟩ : ∃ M, sha (78 :: q.data.toList) = M := ⟨_, rfl⟩
  rw [hM] at HE hln
  rw [hM]
  clear hM hK
  have hln2 : (M.map B).length = 32 := by rw [List.length_map, hln]
  have h1c : ∀ v ∈ M.map B, v.oneCell' = true := by
    intro v hv
    obtain ⟨x, _, rfl⟩ := List.mem_map.1 hv
    rfl
  obtain ⟨L, hL⟩ : ∃ L, M.map B = L := ⟨_, rfl⟩
  have HL : Hid (M.map B = L) := hL
  rw [hL] at HE hln2 h1c
  clear hL
  have q1 : (1 : Int) ≤ (m : Int) := by omega
  have q2 : (m : Int) ≤ 32 := by omega
  have q3 : (0 : Int) ≤ (m : Int) := by omega
  go_enter Tryz.func26, Tryz.ntmps26
  go_wp2_with fail
  refine HE.out.mono ?_
  rintro e w2 ⟨rfl, hb2⟩
  go_wp2_with (first | (refine wpList_alloc_row _ rfl (some 5) rfl 74 74 rfl (zeros8.map B) alloc32 ?_; intro g2 w3 hr3 hb3) | (refine wpList_store_whole _ rfl rfl 74 (.tmp 5) (.tmp 7) rfl w2.heap.size g2 32 (zeros8.map B) L rfl rfl hr3 hln2 size32 h1c ?_; intro w4 hr4 hg4) | (refine wpList_string_row _ rfl (.tmp 9) 22 9 5 rfl w2.heap.size g2 m 32 (M.take m) rfl (by rw [List.map_take, HL.out]; exact row_take hr4 m h2) Tryz.underlying22 Tryz.underlying5 Tryz.underlying9 ?_))
  go_ret
  have hw3 : Below w.heap.size w w3 := hb2.trans (hb3.mono hb2.size)
  exact ⟨rfl, hw3.trans (below_of_grown hg4 (by have := hr3.ge; have := hb2.size; omega) (by have := hw3.size; omega))⟩

set_option maxRecDepth 100000 in
set_option maxHeartbeats 1000000 in
theorem ihash_any (k v l r : ByteArray) (n : Int) (w : World) (hk : k.size ≤ 1048576) (hv : v.size ≤ 1048576) (hl : l.size ≤ 1048576) (hr : r.size ≤ 1048576)
    (hK : ∀ j, j < 64 → w.cell? ⟨0, j, none⟩ = some (.int .u32 ((kTab.getD j 0).toNat : Int))) :
    Calls Tryz.prog 8 #[.agg #[.string k, .string v, .string l, .string r], .int .i64 n] w fun e w' => ∃ t, e = .returned (.string t) ∧ Hid (t = hashS k v l r n) ∧ Below w.heap.size w w' := by
  have hl0 : 0 < w.heap.size := World.block_lt_of_cell? w _ (hK 0 (by omega))
  have HK : Hid (∀ w' : World, Below w.heap.size w w' → ∀ j, j < 64 → w'.cell? ⟨0, j, none⟩ = some (.int .u32 ((kTab.getD j 0).toNat : Int))) := fun w' hb j hj => (hb.cell (by exact hl0)).trans (hK j hj)
  have hsz := encS_size k v l r n
  obtain ⟨q, hq⟩ : ∃ q, encS k v l r n = q := ⟨_, rfl⟩
  have HA : Hid (∀ w', Calls Tryz.prog 6 #[.agg #[.string k, .string v, .string l, .string r], .int .i64 n] w' fun e w'' => e = .returned (.string q) ∧ Below w'.heap.size w' w'') := fun w' => (enc_impl k v l r n w' hk hv hl hr).mono (by rintro e w'' ⟨t, rfl, HX, hb⟩; exact ⟨by rw [HX.out, hq], hb⟩)
  have HR : Hid (hashS k v l r n = if q.size = 0 then ⟨#[]⟩ else ⟨((sha (78 :: q.data.toList)).take n.toNat).toArray⟩) := by show _ = _; unfold hashS; rw [hq]
  rw [hq] at hsz
  clear hq hk hv hl hr hK
  by_cases h0 : q.size = 0
  · have z : q.toList.isEmpty = true := by rw [empty_iff, h0]; rfl
    go_enter Tryz.func8, Tryz.ntmps8
    go_wp2_with (first | (go_at_call 6; refine (HA.out _).mono ?_; rintro e w1 ⟨rfl, hb1⟩))
    go_ret
    refine ⟨_, rfl, ?_, ((Below.refl _ w).alloc (Nat.le_refl _) _).trans (hb1.mono (by simp))⟩
    show _ = _
    rw [HR.out, if_pos h0]
  · have z : q.toList.isEmpty = false := by rw [empty_iff]; simp [h0]
    obtain ⟨m, rfl⟩ := Int.eq_ofNat_of_zero_le (show 0 ≤ n by have := hsz.2 h0; omega)
    have hm := hsz.2 h0
    have HE : Hid (∀ w', Below w.heap.size w w' → Calls Tryz.prog 26 #[.string q, .int .i64 (m : Int)] w' fun e w'' => e = .returned (.string ⟨((sha (78 :: q.data.toList)).take m).toArray⟩) ∧ Below w'.heap.size w' w'') := fun w' hb => edig_any q m w' (by omega) (by omega) (by omega) (HK.out w' hb)
    obtain ⟨M, hM⟩ : ∃ M, (⟨((sha (78 :: q.data.toList)).take m).toArray⟩ : ByteArray) = M := ⟨_, rfl⟩
    have HM : Hid ((⟨((sha (78 :: q.data.toList)).take m).toArray⟩ : ByteArray) = M) := hM
    rw [hM] at HE
    clear hM
    go_enter Tryz.func8, Tryz.ntmps8
    go_wp2_with fail
    refine (HA.out _).mono ?_
    rintro e w1 ⟨rfl, hb1⟩
    have hw1 : Below w.heap.size w w1 := ((Below.refl _ w).alloc (Nat.le_refl _) _).trans (hb1.mono (by simp))
    go_wp2_with fail
    refine (HE.out _ hw1).mono ?_
    rintro e w2 ⟨rfl, hb2⟩
    go_wp2_with fail
    go_ret
    refine ⟨_, rfl, ?_, hw1.trans (hb2.mono hw1.size)⟩
    show _ = _
    rw [HR.out, if_neg h0, Int.toNat_natCast, HM.out]


end Go.Proofs.YtngnbflkiiehmaaGreatDoor
namespace Go.Proofs.YtngnbflkiiehmaaGreatDoor
open Go.RowKit Go.Proofs.Sha

/-- The reader in block r. -/
def Rd (r : Nat) (s : ByteArray) (a : Nat) (f : Bool) (w : World) : Prop := w.heap[r]? = some (.cells #[.string s, .int .i64 (a : Int), .bool f] 61)
/-- Of what was there only block r may have turned. -/
structure Mv (r : Nat) (w w' : World) : Prop where
  os : w'.os = w.os
  tape : w'.tape = w.tape
  output : w'.output = w.output
  size : w.heap.size ≤ w'.heap.size
  block : ∀ k, k < w.heap.size → k ≠ r → w'.heap[k]? = w.heap[k]?
theorem Mv.refl (r : Nat) (w : World) : Mv r w w := ⟨rfl, rfl, rfl, Nat.le_refl _, fun _ _ _ => rfl⟩
theorem Mv.trans {r : Nat} {a b c : World} (h : Mv r a b) (k : Mv r b c) : Mv r a c :=
  ⟨k.os.trans h.os, k.tape.trans h.tape, k.output.trans h.output, Nat.le_trans h.size k.size, fun i hi hr => (k.block i (Nat.lt_of_lt_of_le hi h.size) hr).trans (h.block i hi hr)⟩
theorem Mv.of_below {w w' : World} (r : Nat) (h : Below w.heap.size w w') : Mv r w w' := ⟨h.os, h.tape, h.output, h.size, fun k hk _ => h.block k hk⟩
theorem Mv.to_below {r B : Nat} {w w' : World} (h : Mv r w w') (hB : B ≤ w.heap.size) (hr : B ≤ r) : Below B w w' := ⟨h.os, h.tape, h.output, h.size, fun k hk => h.block k (Nat.lt_of_lt_of_le hk hB) (by omega)⟩
theorem Mv.alloc {r : Nat} {a w : World} (h : Mv r a w) (o : Obj) : Mv r a (w.alloc o) := h.trans (Mv.of_below r ((Below.refl _ _).alloc (Nat.le_refl _) _))
theorem Mv.drew {r : Nat} {a w : World} (h : Mv r a w) : Mv r a w.drew := ⟨h.os, h.tape, h.output, h.size, h.block⟩
theorem Mv.setCell {r : Nat} {a w : World} (h : Mv r a w) (i : Nat) (v : Value) : Mv r a (w.setCell ⟨r, i, none⟩ v) :=
  ⟨h.os, h.tape, h.output, by rw [show (w.setCell ⟨r, i, none⟩ v).heap.size = w.heap.size by simp [World.setCell]]; exact h.size, fun k hk hr => (heap_setCell_other w ⟨r, i, none⟩ k v hr).trans (h.block k hk hr)⟩
theorem Mv.cells {r k : Nat} {w w' : World} {o : Obj} (h : Mv r w w') (hk : w.heap[k]? = some o) (hr : k ≠ r) : w'.heap[k]? = some o :=
  (h.block k (Array.getElem?_eq_some_iff.1 hk).1 hr).trans hk
theorem Rd.lt {r : Nat} {s : ByteArray} {a : Nat} {f : Bool} {w : World} (h : Rd r s a f w) : r < w.heap.size := (Array.getElem?_eq_some_iff.1 h).1
theorem Rd.below {r : Nat} {s : ByteArray} {a : Nat} {f : Bool} {w w' : World} (h : Rd r s a f w) (hb : Below w.heap.size w w') : Rd r s a f w' := below_cells hb h
theorem Rd.alloc {r : Nat} {s : ByteArray} {a : Nat} {f : Bool} {w : World} (h : Rd r s a f w) (o : Obj) : Rd r s a f (w.alloc o) := h.below ((Below.refl _ _).alloc (Nat.le_refl _) _)
theorem Rd.drew {r : Nat} {s : ByteArray} {a : Nat} {f : Bool} {w : World} (h : Rd r s a f w) : Rd r s a f w.drew := h
theorem Rd.setF {r : Nat} {s : ByteArray} {a : Nat} {f : Bool} {w : World} (h : Rd r s a f w) (g : Bool) : Rd r s a g (w.setCell ⟨r, 2, none⟩ (.bool g)) := heap_setCell_same w r 2 _ 61 _ h
theorem Rd.setA {r : Nat} {s : ByteArray} {a : Nat} {f : Bool} {w : World} (h : Rd r s a f w) (b : Nat) : Rd r s b f (w.setCell ⟨r, 1, none⟩ (.int .i64 (b : Int))) := heap_setCell_same w r 1 _ 61 _ h
theorem frozen_of_heap {w : World} {k j : Nat} {cs : Array Value} {t : TypeId} (h : w.heap[k]? = some (.cells cs t)) : w.frozen? ⟨k, j, none⟩ = false := by rw [World.frozen?, h]; rfl

theorem fail_any (r : Nat) (s : ByteArray) (a : Nat) (f : Bool) (w : World) (h : Rd r s a f w) :
    Calls Tryz.prog 52 #[.pointer (some ⟨r, 0, none⟩)] w fun e w' => e = .returned (.tuple #[]) ∧ Rd r s a true w' ∧ Mv r w w' := by
  have c2 : w.cell? ⟨r, 2, none⟩ = some (.bool f) := Lib.cell_of_heap h 2
  have f2 : w.frozen? ⟨r, 2, none⟩ = false := frozen_of_heap h
  go_enter Tryz.func52, Tryz.ntmps52
  go_wp2
  go_end0
  exact ⟨rfl, h.setF true, (Mv.refl r w).setCell 2 _⟩

/-- What 'next' answers and leaves. -/
def NX (s : ByteArray) (a : Nat) (f : Bool) (n : Nat) (t : ByteArray) (a' : Nat) (f' : Bool) : Prop :=
  (f = false ∧ a + n ≤ s.size ∧ t = s.extract a (a + n) ∧ a' = a + n ∧ f' = false) ∨ ((f = true ∨ ¬ a + n ≤ s.size) ∧ t = ⟨#[]⟩ ∧ a' = a ∧ f' = true)

end Go.Proofs.YtngnbflkiiehmaaGreatDoor
namespace Go.Proofs.YtngnbflkiiehmaaGreatDoor
open Go.RowKit Go.Proofs.Sha
set_option maxRecDepth 100000 in
theorem next_any (r : Nat) (s : ByteArray) (a : Nat) (f : Bool) (n : Nat) (w : World) (h : Rd r s a f w) (ha : a ≤ s.size) (hs : s.size ≤ 1048576) (hn : n ≤ 4294967296) :
    Calls Tryz.prog 108 #[.pointer (some ⟨r, 0, none⟩), .int .i64 (n : Int)] w fun e w' => ∃ t a' f', e = .returned (.string t) ∧ Hid (NX s a f n t a' f') ∧ a' ≤ s.size ∧ t.size ≤ s.size ∧ Rd r s a' f' w' ∧ Mv r w w' := by
  have c0 : w.cell? ⟨r, 0, none⟩ = some (.string s) := Lib.cell_of_heap h 0
  have c1 : w.cell? ⟨r, 1, none⟩ = some (.int .i64 (a : Int)) := Lib.cell_of_heap h 1
  have c2 : w.cell? ⟨r, 2, none⟩ = some (.bool f) := Lib.cell_of_heap h 2
  have f1 : w.frozen? ⟨r, 1, none⟩ = false := frozen_of_heap h
  cases f
  · by_cases h1 : a + n ≤ s.size
    · have z1 : decide ((s.size : Int) - (a : Int) < (n : Int)) = false := by simp; omega
      have z2 : IntKind.i64.wrap ((s.size : Int) - (a : Int)) = (s.size : Int) - (a : Int) := wrap_i64_in _ (by omega) (by omega)
      go_enter Tryz.func108, Tryz.ntmps108
      go_wp2_with fail
      go_region_held3 (fun W => W.cell? ⟨r, 0, none⟩ = some (.string s) ∧ W.cell? ⟨r, 1, none⟩ = some (.int .i64 (a : Int)) ∧ W.cell? ⟨r, 2, none⟩ = some (.bool false)) (exact ⟨c0, c1, c2⟩) (fail)
      go_wp2_with fail
      have z3 : IntKind.i64.wrap ((a : Int) + (n : Int)) = (a : Int) + (n : Int) := wrap_i64_in _ (by omega) (by omega)
      have y1 : (0 : Int) ≤ (a : Int) := by omega
      have y2 : (a : Int) ≤ (a : Int) + (n : Int) := by omega
      have y3 : (a : Int) + (n : Int) ≤ (s.size : Int) := by omega
      go_region_held3 (fun W => W.cell? ⟨r, 0, none⟩ = some (.string s) ∧ W.cell? ⟨r, 1, none⟩ = some (.int .i64 (a : Int))) (exact ⟨c0, c1⟩) (fail)
      go_wp2
      go_ret
      have e1 : ((a : Int) + (n : Int)).toNat = a + n := by omega
      have e2 : ((a : Int) + (n : Int)) = ((a + n : Nat) : Int) := by omega
      rw [e1, e2]
      refine ⟨_, a + n, false, rfl, .inl ⟨rfl, h1, rfl, rfl, rfl⟩, h1, ?_, h.setA (a + n), ((Mv.refl r w).setCell 1 _).drew.drew⟩
      rw [ByteArray.size_extract]; omega
    · have z1 : decide ((s.size : Int) - (a : Int) < (n : Int)) = true := by simp; omega
      have z2 : IntKind.i64.wrap ((s.size : Int) - (a : Int)) = (s.size : Int) - (a : Int) := wrap_i64_in _ (by omega) (by omega)
      go_enter Tryz.func108, Tryz.ntmps108
      go_wp2_with fail
      go_region_held3 (fun W => W.cell? ⟨r, 0, none⟩ = some (.string s) ∧ W.cell? ⟨r, 1, none⟩ = some (.int .i64 (a : Int)) ∧ W.cell? ⟨r, 2, none⟩ = some (.bool false)) (exact ⟨c0, c1, c2⟩) (fail)
      go_wp2_with (first | (go_at_call 52; refine (fail_any r s a false _ h.drew).mono ?_; rintro e w2 ⟨rfl, hr2, hm2⟩))
      go_ret
      exact ⟨_, _, _, rfl, .inr ⟨.inr h1, rfl, rfl, rfl⟩, ha, Nat.zero_le _, hr2, (Mv.refl r w).drew.trans hm2⟩
  · go_enter Tryz.func108, Tryz.ntmps108
    go_wp2_with fail
    go_region
    go_wp2_with (first | (go_at_call 52; refine (fail_any r s a true _ h.drew).mono ?_; rintro e w2 ⟨rfl, hr2, hm2⟩))
    go_ret
    exact ⟨_, _, _, rfl, .inr ⟨.inl rfl, rfl, rfl, rfl⟩, ha, Nat.zero_le _, hr2, (Mv.refl r w).drew.trans hm2⟩
end Go.Proofs.YtngnbflkiiehmaaGreatDoor
namespace Go.Proofs.YtngnbflkiiehmaaGreatDoor
open Go.RowKit Go.Proofs.Sha

theorem i64_or_nat (a b : Nat) (ha : a < 4294967296) (hb : b < 4294967296) : bits .or .i64 (a : Int) (b : Int) = ((a ||| b : Nat) : Int) := by
  have hx : a ||| b < 2 ^ 32 := Nat.or_lt_two_pow (by omega) (by omega)
  show IntKind.i64.wrap ((BitVec.ofInt 64 (a : Int) ||| BitVec.ofInt 64 (b : Int)).toNat : Int) = _
  rw [BitVec.toNat_or, ofInt_u64 a (by omega), ofInt_u64 b (by omega)]
  exact wrap_i64_in _ (by omega) (by omega)
theorem i64_and_nat (a b : Nat) (ha : a < 4294967296) (hb : b < 4294967296) : bits .and .i64 (a : Int) (b : Int) = ((a &&& b : Nat) : Int) := by
  have hx : a &&& b < 2 ^ 32 := Nat.and_lt_two_pow _ (by omega)
  show IntKind.i64.wrap ((BitVec.ofInt 64 (a : Int) &&& BitVec.ofInt 64 (b : Int)).toNat : Int) = _
  rw [BitVec.toNat_and, ofInt_u64 a (by omega), ofInt_u64 b (by omega)]
  exact wrap_i64_in _ (by omega) (by omega)

/-- The number of the first i bytes of a text. -/
def valTo (z : Nat) (low : Bool) (b : Nat → Nat) : Nat → Nat
  | 0 => 0
  | i + 1 => valTo z low b i ||| b i * 2 ^ (8 * (if low then i else z - 1 - i))
theorem piece_lt (m k : Nat) (hm : m < 256) (hk : k ≤ 24) : m * 2 ^ k < 4294967296 := by
  have h1 : 2 ^ k ≤ 2 ^ 24 := Nat.pow_le_pow_right (by omega) hk
  have h2 : m * 2 ^ k ≤ 255 * 2 ^ 24 := Nat.mul_le_mul (by omega) h1
  have h3 : 255 * 2 ^ 24 < 4294967296 := by decide
  omega
theorem valTo_lt (z : Nat) (low : Bool) (b : Nat → Nat) (hb : ∀ i, b i < 256) (hz : z ≤ 4) : ∀ i, i ≤ z → valTo z low b i < 4294967296
  | 0, _ => by rw [valTo]; omega
  | i + 1, hi => by
    rw [valTo]
    have h1 := valTo_lt z low b hb hz i (by omega)
    have h2 := piece_lt (b i) (8 * (if low then i else z - 1 - i)) (hb i) (by split <;> omega)
    have := Nat.or_lt_two_pow (n := 32) (x := valTo z low b i) (y := b i * 2 ^ (8 * (if low then i else z - 1 - i))) (by omega) (by omega)
    omega
/-- The bytes of a text, zeros behind it. -/
def byteAt (t : ByteArray) (i : Nat) : Nat := (t.data.toList.getD i 0).toNat
theorem byteAt_lt (t : ByteArray) (i : Nat) : byteAt t i < 256 := UInt8.toNat_lt _

set_option maxRecDepth 100000 in
set_option maxHeartbeats 1000000 in
theorem ntake (z : Nat) (low : Bool) (r : Nat) (s : ByteArray) (a : Nat) (f : Bool) (w : World) (h : Rd r s a f w) (ha : a ≤ s.size) (hs : s.size ≤ 1048576) (hz : 0 < z) (hz4 : z ≤ 4) :
    Calls Tryz.prog 106 #[.agg #[.int .i64 (z : Int), .bool low], .pointer (some ⟨r, 0, none⟩)] w fun e w' => ∃ (v : Nat) (t : ByteArray) (a' : Nat) (f' : Bool), e = .returned (.int .i64 (v : Int)) ∧ Hid (NX s a f z t a' f') ∧ Hid (v = valTo z low (byteAt t) t.size) ∧ a' ≤ s.size ∧ v < 4294967296 ∧ Rd r s a' f' w' ∧ Mv r w w' := by
  have hlt := h.lt
  have HN : Hid (∀ w', Rd r s a f w' → Calls Tryz.prog 108 #[.pointer (some ⟨r, 0, none⟩), .int .i64 (z : Int)] w' fun e w'' => ∃ t a' f', e = .returned (.string t) ∧ Hid (NX s a f z t a' f') ∧ a' ≤ s.size ∧ t.size ≤ s.size ∧ Rd r s a' f' w'' ∧ Mv r w' w'') := fun w' h' => next_any r s a f z w' h' ha hs (by omega)
  go_enter Tryz.func106, Tryz.ntmps106
  go_wp2_with (first | (go_at_call 108; refine (HN.out _ (h.alloc _)).mono ?_; rintro e w1 ⟨t, a', f', rfl, HX, ha', ht, hr1, hm1⟩) | (refine wpList_bytes_row _ rfl (.tmp 11) 9 22 5 rfl t rfl Tryz.underlying9 Tryz.underlying22 Tryz.underlying5 ?_; intro g cap w2 hrow hb2))
  have hn1 := hm1.cells (heap_alloc_new w (.cells #[.int .i64 (z : Int), .bool low] 123)) (by omega)
  have hn2 := below_cells hb2 hn1
  have hr2 := hr1.below hb2
  have hm2 : Mv r w w2 := (((Mv.refl r w).alloc _).trans hm1).trans (Mv.of_below r hb2)
  have htz : t.size ≤ z := by
    rcases HX.out with ⟨_, h2, h3, _⟩ | ⟨_, h3, _⟩
    · rw [h3, ByteArray.size_extract]; omega
    · rw [h3]; exact Nat.zero_le _
  have HB := byteAt_lt t
  have HVL : Hid (∀ i, i ≤ z → valTo z low (byteAt t) i < 4294967296) := fun i hi => valTo_lt z low (byteAt t) HB hz4 i hi
  have HRow : Hid (∀ W, Below w2.heap.size w2 W → ∀ i, i < t.size → W.cell? ⟨g, i, none⟩ = some (.int .u8 (byteAt t i : Int))) := by
    intro W hW i hi
    rw [(hrow.below hW).cell i hi, List.getElem?_map, List.getElem?_eq_getElem (by exact hi)]
    unfold byteAt
    rw [List.getD_eq_getElem?_getD, List.getElem?_eq_getElem (by exact hi)]
    rfl
  clear hb2 hrow hn1 hm1 hr1 HN
  go_loopw [5, 14] (fun t5 t14 wr => ∃ i v : Nat, i ≤ t.size ∧ t5 = .int .i64 (v : Int) ∧ t14 = .int .i64 (i : Int) ∧ Hid (v = valTo z low (byteAt t) i) ∧ Below w2.heap.size w2 wr) (fun _ t14 _ => t.size - (intOf t14).toNat)
  case atStart => exact ⟨0, 0, Nat.zero_le _, rfl, rfl, rfl, Below.refl _ _⟩
  case round =>
    obtain ⟨i, v, hi, rfl, rfl, HV, hb⟩ := hrel
    by_cases h1 : i < t.size
    · have z1 : decide ((i : Int) < (t.size : Int)) = true := by simp; omega
      have y1 : (0 : Int) ≤ (i : Int) := by omega
      have y2 : (i : Int) < (t.size : Int) := by omega
      have cb := HRow.out wr hb i h1
      have hn := below_cells hb hn2
      have c0 : wr.cell? ⟨w.heap.size, 0, none⟩ = some (.int .i64 (z : Int)) := Lib.cell_of_heap hn 0
      have c1 : wr.cell? ⟨w.heap.size, 1, none⟩ = some (.bool low) := Lib.cell_of_heap hn 1
      obtain ⟨k, hk, hk24, hkb⟩ : ∃ k : Nat, sh z low i = (k : Int) ∧ k ≤ 24 ∧ k = 8 * (if low then i else z - 1 - i) := by
        unfold sh
        cases low
        · exact ⟨8 * (z - 1 - i), by simp only [Bool.false_eq_true, if_false]; omega, by omega, rfl⟩
        · exact ⟨8 * i, by simp only [if_true]; omega, by omega, rfl⟩
      have HC : Hid (∀ w', Calls Tryz.prog 105 #[.agg #[.int .i64 (z : Int), .bool low], .int .i64 (i : Int)] w' fun e w'' => e = .returned (.int .i64 (k : Int)) ∧ Below w'.heap.size w' w'') := fun w' => by rw [← hk]; exact shift_any _ _ _ w' (by omega) (by omega) (by omega) (by omega)
      have k0 : (0 : Int) ≤ (k : Int) := by omega
      obtain ⟨m, hm⟩ : ∃ m, byteAt t i = m := ⟨_, rfl⟩
      have hm256 : m < 256 := by rw [← hm]; exact HB i
      obtain ⟨q, hq⟩ : ∃ q, m * 2 ^ k = q := ⟨_, rfl⟩
      have hq32 : q < 4294967296 := by rw [← hq]; exact piece_lt m k hm256 hk24
      have hv32 : v < 4294967296 := by rw [HV.out]; exact HVL.out i (by omega)
      have hw : IntKind.i64.wrap ((m : Int) * 2 ^ k) = (q : Int) := by
        rw [← hq, wrap_i64_in]
        · rw [Int.natCast_mul, Int.natCast_pow]; rfl
        · have : (0 : Int) ≤ (m : Int) * 2 ^ k := Int.mul_nonneg (by omega) (Int.pow_nonneg (by omega))
          omega
        · have e : (m : Int) * 2 ^ k = (q : Int) := by rw [← hq, Int.natCast_mul, Int.natCast_pow]; rfl
          omega
      obtain ⟨v', hv'⟩ : ∃ v', v ||| q = v' := ⟨_, rfl⟩
      have hor : bits .or .i64 (v : Int) (q : Int) = (v' : Int) := by rw [← hv']; exact i64_or_nat v q hv32 hq32
      have HV' : Hid (v' = valTo z low (byteAt t) (i + 1)) := by show _ = _; rw [valTo, ← HV.out, hm, ← hkb, hq, hv']
      rw [hm] at cb
      clear hv' hq hkb hk hm
      go_wp2_with (first | (go_at_call 105; refine (HC.out _).mono ?_; rintro e w3 ⟨rfl, hb3⟩))
      refine ⟨⟨i + 1, v', by omega, rfl, congrArg (Value.int .i64) (by omega), HV', hb.trans (hb3.mono hb.size)⟩, ?_⟩
      show t.size - ((i : Int) + 1).toNat < t.size - ((i : Int)).toNat
      omega
    · have e : i = t.size := by omega
      have z1 : decide ((i : Int) < (t.size : Int)) = false := by simp; omega
      go_wp2_with fail
      go_ret
      have hv32 : v < 4294967296 := by rw [HV.out]; exact HVL.out i (by omega)
      subst e
      exact ⟨v, t, a', f', rfl, HX, HV, ha', hv32, hr2.below hb, hm2.trans (Mv.of_below r hb)⟩
end Go.Proofs.YtngnbflkiiehmaaGreatDoor
