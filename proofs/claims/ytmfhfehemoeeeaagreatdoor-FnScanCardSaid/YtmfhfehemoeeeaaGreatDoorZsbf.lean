import Derived.Test.YtmfhfehemoeeeaaGreatDoorZsbe
import Derived.Test.YtmfhfehemoeeeaaGreatDoorZsbc
import Derived.Deep.RegionLaw
import Derived.Test.YtmfhfehemoeeeaaGreatDoorZsad
import Derived.Deep.MidRow
import Derived.Deep.AppendLies
import Derived.Test.YtmfhfehemoeeeaaGreatDoorZsao
import Derived.Test.YtmfhfehemoeeeaaGreatDoorZsae
import Derived.Test.YtmfhfehemoeeeaaGreatDoorZsaz
import Derived.Test.YtmfhfehemoeeeaaGreatDoorZsap
import Derived.Test.YtmfhfehemoeeeaaGreatDoorZsaf
import Derived.Test.YtmfhfehemoeeeaaGreatDoorZsbd
import Derived.Test.YtmfhfehemoeeeaaGreatDoorZsaa
import Derived.Test.YtmfhfehemoeeeaaGreatDoorProg
import Derived.Test.YtmfhfehemoeeeaaGreatDoorZsba
set_option maxRecDepth 100000
set_option maxHeartbeats 1000000
namespace Go.Proofs.YtmfhfehemoeeeaaGreatDoor
open Go.RowKit Go.Proofs.Sha

/-- A row of pairs. -/
def Is53 (k : Nat) (w : World) : Prop := ∃ cur t, w.heap[k]? = some (.cells cur 56 t)
/-- What may have turned: the blocks of 'N', rows of pairs from 'base' on, and what is new. -/
structure Fr (base : Nat) (N : Nat → Prop) (w w' : World) : Prop where
  os : w'.os = w.os
  tape : w'.tape = w.tape
  output : w'.output = w.output
  size : w.heap.size ≤ w'.heap.size
  block : ∀ k, k < w.heap.size → ¬ N k → ¬ (base ≤ k ∧ Is53 k w) → w'.heap[k]? = w.heap[k]?
section
variable {base : Nat} {N N' : Nat → Prop} {w w' w1 w2 : World}
theorem Fr.refl (base : Nat) (N : Nat → Prop) (w : World) : Fr base N w w := ⟨rfl, rfl, rfl, Nat.le_refl _, fun _ _ _ _ => rfl⟩
theorem Fr.trans (h : Fr base N w w1) (k : Fr base N' w1 w2) (hN : ∀ q, q < w.heap.size → N' q → N q) : Fr base N w w2 := by
  refine ⟨k.os.trans h.os, k.tape.trans h.tape, k.output.trans h.output, Nat.le_trans h.size k.size, fun q hq h1 h2 => ?_⟩
  have e := h.block q hq h1 h2
  refine (k.block q (Nat.lt_of_lt_of_le hq h.size) (fun x => h1 (hN q hq x)) (fun x => h2 ⟨x.1, ?_⟩)).trans e
  obtain ⟨cur, t, hx⟩ := x.2
  exact ⟨cur, t, e.symm.trans hx⟩
theorem Fr.of_below (h : Below w.heap.size w w1) : Fr base N w w1 := ⟨h.os, h.tape, h.output, h.size, fun q hq _ _ => h.block q hq⟩
theorem Fr.setCell (h : Fr base N w w1) (g o : Nat) (v : Value) (hg : N g ∨ w.heap.size ≤ g) : Fr base N w (w1.setCell ⟨g, o, none⟩ v) := by
  have hb : Below g w1 (w1.setCell ⟨g, o, none⟩ v) := Below.setCell (p := ⟨g, o, none⟩) (Below.refl g w1) (Nat.le_refl g) v
  refine ⟨hb.os.trans h.os, hb.tape.trans h.tape, hb.output.trans h.output, Nat.le_trans h.size hb.size, fun q hq h1 h2 => ?_⟩
  rw [Below.heap_setCell _ _ _ _ (by show q ≠ g; intro e; subst e; rcases hg with hg | hg; exact h1 hg; omega)]
  exact h.block q hq h1 h2
end
theorem Fr.base {base base' : Nat} {N : Nat → Prop} {w w' : World} (h : Fr base N w w') (hb : base' ≤ base) : Fr base' N w w' := ⟨h.os, h.tape, h.output, h.size, fun q hq h1 h2 => h.block q hq h1 (fun x => h2 ⟨Nat.le_trans hb x.1, x.2⟩)⟩
theorem Fr.set1 {b : Nat} (w : World) (o : Nat) (v : Value) : Fr w.heap.size (fun q => q = b) w (w.setCell ⟨b, o, none⟩ v) := (Fr.refl _ _ _).setCell b o v (.inl rfl)
theorem Fr.step {b : Nat} {w w1 w2 : World} (h : Fr w.heap.size (fun q => q = b) w w1) (k : Fr w1.heap.size (fun q => q = b) w1 w2) : Fr w.heap.size (fun q => q = b) w w2 := h.trans (k.base h.size) (fun _ _ q => q)
theorem ne_of_type {w : World} {g b : Nat} {cs ds : Array Value} {t u : TypeId} (h : w.heap[g]? = some (.cells cs t)) (k : w.heap[b]? = some (.cells ds u)) (ht : t ≠ u) : g ≠ b := by
  intro e
  subst e
  rw [h] at k
  simp only [Option.some.injEq, Obj.cells.injEq] at k
  exact ht k.2.1
section
variable {wg : World} {B0 base lb c gb xl xa : Nat} {lo hi : ByteArray} {w w' : World} {N : Nat → Prop}
end
section
variable {wg : World} {B0 base lb sb c gb xl xa : Nat} {lo hi : ByteArray} {b : Nat} {w0 w w' : World} {cnt : Nat} {ps : List PairT} {hash over under : ByteArray} {par : Option Addr} {k v l r : ByteArray} {pl pr : Option Addr} {gl gr : Nat}
end
theorem stockOf_any {K : World → Prop} (HH : Hid (HashSaid K)) (keep : Hid (∀ w1 w2, K w1 → Below w1.heap.size w1 w2 → K w2)) (wd : Nat) (a : Option Addr) (ss : List ByteArray) (c : Nat) (w : World) (h : SArg a ss w) (hK : K w) (h1 : wd ≤ 32) :
    Calls Tryz.prog 26 #[.agg #[.int .i64 (wd : Int), .slice a ss.length c]] w fun e w' => ∃ sb r a' c', e = .returned (.pointer (some ⟨sb, 0, none⟩)) ∧ StockAt sb r (sb + 1) wd ss a' c' w' ∧ Below w.heap.size w w' := by
  have hn := h.le
  have hbA : Below w.heap.size w (w.alloc (.cells #[.int .i64 (wd : Int), .slice a ss.length c] 29)) := (Below.refl _ _).alloc (Nat.le_refl _) _
  have nA := heap_alloc_new w (.cells #[.int .i64 (wd : Int), .slice a ss.length c] 29)
  obtain ⟨ga, hga⟩ : ∃ ga, w.heap.size = ga := ⟨_, rfl⟩
  rw [hga] at nA
  have hsA : (w.alloc (.cells #[.int .i64 (wd : Int), .slice a ss.length c] 29)).heap.size = ga + 1 := by simp; omega
  go_enter Tryz.func26, Tryz.ntmps26
  go_upto_region 1 with fail
  try rw [hga]
  generalize w.alloc (.cells #[.int .i64 (wd : Int), .slice a ss.length c] 29) = wa at hbA nA hsA ⊢
  have c0 := Lib.cell_of_heap nA 0
  go_upto_region 2 with (first | (go_at_call 52; refine (newStock_any wd _).mono ?_; rintro e w1 ⟨sb, r, rfl, hS, hb1, hr1, hr2⟩))
  have nA1 := (hb1.block ga (by omega)).trans nA
  have hbw := hbA.trans (hb1.mono hbA.size)
  have c1 := Lib.cell_of_heap nA1 1
  clear c0 hb1 nA
  go_wp2_with fail
  go_loopw [12] (fun t12 wr => ∃ (k : Nat) (a' : Option Addr) (c' : Nat), k ≤ ss.length ∧ t12 = .int .i64 (k : Int) ∧ StockAt sb r (sb + 1) wd (ss.take k) a' c' wr ∧ Below w.heap.size w wr) (fun t12 _ => ss.length - (intOf t12).toNat)
  case atStart => exact ⟨0, none, 0, Nat.zero_le _, rfl, hS, hbw⟩
  case round =>
    clear c1 nA1 hS hbw
    obtain ⟨k, a', c', hk, rfl, hSk, hbk⟩ := hrel
    by_cases hlt : k < ss.length
    · have z1 : decide ((k : Int) < (ss.length : Int)) = true := by simp; omega
      obtain ⟨b, off, rfl, hbl, hc⟩ := (h.below hbk).at_ (by omega)
      have hcx := hc k hlt
      have htk : ss.take (k + 1) = ss.take k ++ [ss.getD k ⟨#[]⟩] := by
        rw [List.take_add_one, List.getD_eq_getElem?_getD, List.getElem?_eq_getElem hlt]; rfl
      obtain ⟨s, hs⟩ : ∃ s, ss.getD k ⟨#[]⟩ = s := ⟨_, rfl⟩
      have hsz : s.size ≤ 1048576 := by rw [← hs]; exact h.sz k
      rw [hs] at hcx htk
      have HAdd : Hid (Calls Tryz.prog 53 #[.pointer (some ⟨sb, 0, none⟩), .string s] wr fun e w' => ∃ a'' c'', e = .returned (.tuple #[]) ∧ StockAt sb r (sb + 1) wd (ss.take k ++ [s]) a'' c'' w' ∧ ∀ n, n ≤ sb → n ≤ r → Below n wr w') := stockAdd_any HH keep sb r (sb + 1) wd (ss.take k) a' c' s wr hSk (keep.out _ _ hK hbk) hsz h1 (by rw [List.length_take]; omega)
      rw [← htk] at HAdd
      clear hc hs htk hSk
      have hx0 : (0 : Int) ≤ (k : Int) := Int.natCast_nonneg _
      have hx1 : (k : Int) < (ss.length : Int) := by omega
      go_wp2_with (first | (go_at_call 53; refine HAdd.out.mono ?_; rintro e w5 ⟨a5, c5, rfl, hS5, hb5⟩))
      have hb6 := hbk.trans (hb5 w.heap.size (by omega) (by omega))
      go_roundw
      case rel => exact ⟨k + 1, a5, c5, hlt, by go_num, hS5, hb6⟩
      case measure => simp [intOf]; omega
    · obtain rfl : k = ss.length := by omega
      have z1 : decide ((ss.length : Int) < (ss.length : Int)) = false := by simp
      rw [List.take_length] at hSk
      go_wp2_with fail
      go_ret
      exact ⟨sb, r, a', c', rfl, hSk, hbk⟩

/-- The encoding at a place that is found. -/
def encAt (es : List ByteArray) : Option Nat → ByteArray
  | none => ⟨#[]⟩
  | some i => es.getD i ⟨#[]⟩
theorem stockFirst_any (sb r base wd : Nat) (es : List ByteArray) (a : Option Addr) (c : Nat) (hash : ByteArray) (w : World) (h : StockAt sb r base wd es a c w) (hs : ∀ j, (es.getD j ⟨#[]⟩).size ≤ 1048576) (hl : es.length ≤ 1048576) (h1 : wd ≤ 32) (h2 : hash.size = wd) (fx : Option Nat) (hfx : firstI (hitB wd es hash) es.length = fx) :
    Calls Tryz.prog 105 #[.pointer (some ⟨sb, 0, none⟩), .string hash] w fun e w' => e = .returned (.tuple #[.string (encAt es fx), .bool fx.isSome]) ∧ Below w.heap.size w w' := by
  have hpl : placesF wd es es.length (cutW wd hash.data.toList) = fx.map fun i => (i : Int) := by
    rw [placesF_first, ← hfx, show (fun i => decide (keyW wd (es.getD i ⟨#[]⟩) = cutW wd hash.data.toList)) = hitB wd es hash from funext fun i => key_hit wd es hash h1 h2 i]
  have hlt : ∀ i, fx = some i → i < es.length := fun i hi => firstI_lt (hfx.trans hi)
  have hblk := h.blk
  have hM := h.map
  have hsa := own_sarg h.own hl hs
  have hbl := (Array.getElem?_eq_some_iff.1 hblk).1
  have HF := find_any wd r _ hash w hM h1 h2
  rw [hpl] at HF
  have c1 := Lib.cell_of_heap hblk 1
  have c2 := Lib.cell_of_heap hblk 2
  cases fx with
  | none =>
    have HF' : Hid (Calls Tryz.prog 62 #[.agg #[.int .i64 (wd : Int), .map (some r)], .string hash] w fun e w' => e = .returned (.tuple #[.int .i64 0, .bool false]) ∧ Below w.heap.size w w') := HF
    clear HF hpl hfx h hM hsa
    go_enter Tryz.func105, Tryz.ntmps105
    go_wp2_with (first | (go_at_call 62; refine HF'.out.mono ?_; rintro e w1 ⟨rfl, hb1⟩))
    go_ret2
    exact ⟨rfl, hb1⟩
  | some i =>
    have HF' : Hid (Calls Tryz.prog 62 #[.agg #[.int .i64 (wd : Int), .map (some r)], .string hash] w fun e w' => e = .returned (.tuple #[.int .i64 (i : Int), .bool true]) ∧ Below w.heap.size w w') := HF
    have hil := hlt i rfl
    obtain ⟨b, off, rfl, hbb, hcs⟩ := hsa.at_ (by omega)
    have hcx := hcs i hil
    have HE : Hid (encAt es (some i) = es.getD i ⟨#[]⟩) := rfl
    obtain ⟨x, hx⟩ : ∃ x, es.getD i ⟨#[]⟩ = x := ⟨_, rfl⟩
    rw [hx] at hcx HE
    obtain ⟨m, hm⟩ : ∃ m, es.length = m := ⟨_, rfl⟩
    rw [hm] at hblk
    have hx0 : (0 : Int) ≤ (i : Int) := Int.natCast_nonneg _
    have hx1 : (i : Int) < (m : Int) := by omega
    obtain ⟨y, hy⟩ : ∃ y, encAt es (some i) = y := ⟨_, rfl⟩
    have hyx : Hid (y = x) := by show y = x; rw [← hy]; exact HE.out
    rw [hy]
    clear HF hpl hfx h hM hcs hx hy HE
    go_enter Tryz.func105, Tryz.ntmps105
    go_wp2_with (first | (go_at_call 62; refine HF'.out.mono ?_; rintro e w1 ⟨rfl, hb1⟩; have hbk1 := (hb1.block sb hbl).trans hblk; have d0 := Lib.cell_of_heap hbk1 0; have d1 := (hb1.cell (p := ⟨b, off + i, none⟩) hbb).trans hcx))
    go_ret2
    exact ⟨by rw [hyx.out]; rfl, hb1⟩
/-- The hash's table. -/
abbrev KT (w : World) : Prop := ∀ j, j < 64 → w.cell? ⟨0, j, none⟩ = some (.int .u32 ((kTab.getD j 0).toNat : Int))
theorem KT.below {w w' : World} (h : KT w) (hb : Below w.heap.size w w') : KT w' := fun j hj => by
  have hl0 : 0 < w.heap.size := World.block_lt_of_cell? w _ (h 0 (by omega))
  exact (hb.cell (by exact hl0)).trans (h j hj)
theorem sized_length (K : List UInt8) : (sized K).length = K.length + 2 := rfl
/-- What NodeHash answers. -/
def hashS (k v l r : ByteArray) (n : Int) : ByteArray := if (encS k v l r n).size = 0 then ⟨#[]⟩ else ⟨((sha (78 :: (encS k v l r n).data.toList)).take n.toNat).toArray⟩

theorem encS_size (k v l r : ByteArray) (n : Int) : (encS k v l r n).size ≤ 10000 ∧ (¬ (encS k v l r n).size = 0 → 1 ≤ n ∧ n ≤ 32) := by
  unfold encS
  split
  · rename_i h
    have ho := nodeOk_out h
    rw [T_size]
    unfold encL
    simp only [List.length_append, sized_length, List.length_cons, List.length_nil]
    have e1 : k.data.toList.length = k.size := rfl
    have e2 : v.data.toList.length = v.size := rfl
    have e3 : l.data.toList.length = l.size := rfl
    have e4 : r.data.toList.length = r.size := rfl
    omega
  · exact ⟨Nat.zero_le _, fun h => absurd rfl h⟩

theorem text_any (e : ByteArray) (w : World) (he : e.size ≤ 10000) :
    Calls Tryz.prog 68 #[.string e] w fun x w' => ∃ t : ByteArray, x = .returned (.string t) ∧ t.size ≤ 10001 ∧ Hid (t.data.toList = 78 :: e.data.toList) ∧ w = w' := by
  have z : ¬ (9223372036854775807 < (⟨#[78]⟩ : ByteArray).size + e.size) := by show ¬ _ < 1 + e.size; omega
  have z' : ¬ (9223372036854775807 < 1 + e.size) := by omega
  go_enter Tryz.func68, Tryz.ntmps68
  go_wp2
  go_ret
  refine ⟨_, rfl, ?_, ?_, rfl⟩
  · rw [ByteArray.size_append]; show 1 + e.size ≤ _; omega
  · show (_ : List UInt8) = _
    rw [ByteArray.data_append]
    simp

theorem row_take {w : World} {base g n cap : Nat} {xs : List Value} (h : Row w base g n cap xs) (k : Nat) (hk : k ≤ n) : Row w base g k cap (xs.take k) :=
  ⟨h.ge, h.lt, by rw [List.length_take, h.len]; exact Nat.min_eq_left hk, Nat.le_trans hk h.le, fun j hj => by rw [h.cell j (by omega), List.getElem?_take, if_pos hj], h.room, h.free⟩

theorem ehash_any (s : ByteArray) (w : World) (hs : s.size ≤ 1048576)
    (hK : ∀ j, j < 64 → w.cell? ⟨0, j, none⟩ = some (.int .u32 ((kTab.getD j 0).toNat : Int))) :
    Calls Tryz.prog 82 #[.string s] w fun e w' => e = .returned (.agg ((sha (78 :: s.data.toList)).map B).toArray) ∧ Below w.heap.size w w' := by
  have hl0 : 0 < w.heap.size := World.block_lt_of_cell? w _ (hK 0 (by omega))
  have HK : Hid (∀ w' : World, Below w.heap.size w w' → ∀ j, j < 64 → w'.cell? ⟨0, j, none⟩ = some (.int .u32 ((kTab.getD j 0).toNat : Int))) := fun w' hb j hj => (hb.cell (by exact hl0)).trans (hK j hj)
  clear hK
  have hsl : (78 :: s.data.toList).length = 1 + s.size := by rw [List.length_cons]; show s.size + 1 = _; omega
  go_enter Tryz.func82, Tryz.ntmps82
  go_wp2_with (refine wpList_alloc_row _ rfl (some 2) rfl 123 123 rfl (zeros8.map B) alloc32 ?_; intro g2 w2 hr2 hb2)
  have hr2' : Row w2 w.heap.size g2 32 32 (zeros8.map B) := hr2
  have hge := hr2.ge
  have hlt := hr2.lt
  have hs2 := hb2.size
  clear hr2
  refine (new_any w2).mono ?_
  rintro e w3 ⟨rfl, hw3⟩
  have F3 : Fed w3 w2.heap.size [] (List.replicate 64 0) 0 := by rw [hw3]; exact fed_new w2
  have hb3 : Below w2.heap.size w2 w3 := by rw [hw3]; exact (Below.refl _ _).alloc (Nat.le_refl _) _
  clear hw3
  obtain ⟨b, hb⟩ : ∃ b, w2.heap.size = b := ⟨_, rfl⟩
  rw [hb] at F3
  rw [hb]
  have hs3 := hb3.size
  have hbw3 : Below w.heap.size w w3 := hb2.trans (hb3.mono hs2)
  have hR3 : Row w3 w.heap.size g2 32 32 (zeros8.map B) := hr2'.below hb3
  have hb0 : b ≠ 0 := by omega
  have hgb : g2 < b := by omega
  have hwb : w.heap.size ≤ b := by omega
  clear hr2' hb3 hb2
  go_wp2_with fail
  refine (feed_any b [] (List.replicate 64 0) ⟨#[78]⟩ w3 F3 (by simp; show 1 ≤ _; omega) hb0 (HK.out w3 hbw3)).mono ?_
  rintro e w3' ⟨rfl, ⟨k3, F3'⟩, hg3⟩
  have hs3' := hg3.size
  have hbw3' : Below w.heap.size w w3' := hbw3.trans (below_of_grown hg3 hwb (by omega))
  have hR3' : Row w3' w.heap.size g2 32 32 (zeros8.map B) := hR3.kept hg3 (by simp; omega)
  have F3n : Fed w3' b [78] k3 [78].length := F3'
  clear F3 F3' hg3 hR3 hbw3
  go_wp2_with fail
  refine (feed_any b [78] k3 s w3' F3n (by simp; omega) hb0 (HK.out w3' hbw3')).mono ?_
  rintro e w4 ⟨rfl, ⟨k4, F4⟩, hg4⟩
  have hs4 := hg4.size
  have hbw4 : Below w.heap.size w w4 := hbw3'.trans (below_of_grown hg4 hwb (by omega))
  have hR4 : Row w4 w.heap.size g2 32 32 (zeros8.map B) := hR3'.kept hg4 (by simp; omega)
  have F4n : Fed w4 b (78 :: s.data.toList) k4 (1 + s.size) := F4
  clear F3n F4 hg4 hR3' hbw3'
  have hfs := fin_sha (78 :: s.data.toList) k4 F4n.H.kl F4n.tk
  have H4 := F4n.H
  rw [hsl] at H4 hfs
  clear F4n
  go_wp2_with fail
  refine (finish_any b _ k4 _ (1 + s.size) w4 H4 (by omega) (by omega) hb0 (HK.out w4 hbw4)).mono ?_
  rintro e w5 ⟨rfl, hg5⟩
  rw [hfs]
  clear hfs H4
  have hbw5 : Below w.heap.size w w5 := hbw4.trans (below_of_grown hg5 hwb (by omega))
  have hR5 : Row w5 w.heap.size g2 32 32 (zeros8.map B) := hR4.kept hg5 (by simp; omega)
  have hln : ((sha (78 :: s.data.toList)).map B).length = 32 := by rw [List.length_map]; unfold sha; rw [outTo_length]
  have h1c : ∀ v ∈ (sha (78 :: s.data.toList)).map B, v.oneCell' = true := by
    intro v hv
    obtain ⟨x, _, rfl⟩ := List.mem_map.1 hv
    rfl
  obtain ⟨L, hL⟩ : ∃ L, (sha (78 :: s.data.toList)).map B = L := ⟨_, rfl⟩
  rw [hL] at hln h1c
  rw [hL]
  have HL : Hid ((sha (78 :: s.data.toList)).map B = L) := hL
  clear hL
  go_wp2_with (refine wpList_store_whole _ rfl rfl 123 (.tmp 2) (.tmp 11) rfl w.heap.size g2 32 (zeros8.map B) L rfl rfl hR5 hln size32 h1c ?_; intro w8 hR8 hg8)
  refine ret_row _ (p := 2) (ty := 123) rfl w.heap.size g2 32 32 L 5 rfl hR8 Tryz.underlying123 size32 rfl ?_
  refine ⟨?_, ?_⟩
  · rw [HL.out]
  · exact hbw5.trans (below_of_grown hg8 hge (by have := hbw5.size; omega))
theorem noP_small : noPair.1.size ≤ 1048576 ∧ noPair.2.size ≤ 1048576 := ⟨Nat.zero_le _, Nat.zero_le _⟩
theorem mem_keys {p : PairT} {l : List PairT} (h : p ∈ l) : p.1 ∈ keys l := List.mem_map.2 ⟨p, h, rfl⟩
/-- A key's rank, as cells. -/
def rankL (X : List UInt8) (k : ByteArray) : List Value := X.map B ++ [Value.string k]
/-- A tree's node, as cells. -/
def treeL (X : List UInt8) (k v : ByteArray) (l r : Option Addr) (enc h : ByteArray) : List Value := [.string k, .string v] ++ rankL X k ++ [.pointer l, .pointer r, .string enc, .string h]
theorem built4_e (x0 x1 x2 x3 x4 x5 x6 x7 x8 x9 x10 x11 x12 x13 x14 x15 x16 x17 x18 x19 x20 x21 x22 x23 x24 x25 x26 x27 x28 x29 x30 x31 : UInt8) (k v : ByteArray) (l r : Option Addr) : Tryz.prog.built 127 [(0, .agg #[.string k, .string v]), (1, .agg ([x0, x1, x2, x3, x4, x5, x6, x7, x8, x9, x10, x11, x12, x13, x14, x15, x16, x17, x18, x19, x20, x21, x22, x23, x24, x25, x26, x27, x28, x29, x30, x31].map B ++ [Value.string k]).toArray), (2, .pointer l), (3, .pointer r)] = some (treeL [x0, x1, x2, x3, x4, x5, x6, x7, x8, x9, x10, x11, x12, x13, x14, x15, x16, x17, x18, x19, x20, x21, x22, x23, x24, x25, x26, x27, x28, x29, x30, x31] k v l r ⟨#[]⟩ ⟨#[]⟩).toArray := by kernel_rfl
theorem list32 (X : List UInt8) (h : X.length = 32) : ∃ x0 x1 x2 x3 x4 x5 x6 x7 x8 x9 x10 x11 x12 x13 x14 x15 x16 x17 x18 x19 x20 x21 x22 x23 x24 x25 x26 x27 x28 x29 x30 x31 : UInt8, X = [x0, x1, x2, x3, x4, x5, x6, x7, x8, x9, x10, x11, x12, x13, x14, x15, x16, x17, x18, x19, x20, x21, x22, x23, x24, x25, x26, x27, x28, x29, x30, x31] := by
  match X, h with
  | [x0, x1, x2, x3, x4, x5, x6, x7, x8, x9, x10, x11, x12, x13, x14, x15, x16, x17, x18, x19, x20, x21, x22, x23, x24, x25, x26, x27, x28, x29, x30, x31], _ => exact ⟨_, _, _, _, _, _, _, _, _, _, _, _, _, _, _, _, _, _, _, _, _, _, _, _, _, _, _, _, _, _, _, _, rfl⟩
theorem built4 (X : List UInt8) (h : X.length = 32) (k v : ByteArray) (l r : Option Addr) : Tryz.prog.built 127 [(0, .agg #[.string k, .string v]), (1, .agg (rankL X k).toArray), (2, .pointer l), (3, .pointer r)] = some (treeL X k v l r ⟨#[]⟩ ⟨#[]⟩).toArray := by
  obtain ⟨x0, x1, x2, x3, x4, x5, x6, x7, x8, x9, x10, x11, x12, x13, x14, x15, x16, x17, x18, x19, x20, x21, x22, x23, x24, x25, x26, x27, x28, x29, x30, x31, rfl⟩ := list32 X h
  exact built4_e x0 x1 x2 x3 x4 x5 x6 x7 x8 x9 x10 x11 x12 x13 x14 x15 x16 x17 x18 x19 x20 x21 x22 x23 x24 x25 x26 x27 x28 x29 x30 x31 k v l r
end Go.Proofs.YtmfhfehemoeeeaaGreatDoor
