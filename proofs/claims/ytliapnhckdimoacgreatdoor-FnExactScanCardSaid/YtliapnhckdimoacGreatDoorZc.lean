import Derived.Test.YtliapnhckdimoacGreatDoorZb
import Derived.Laws.MakeOwn
import Derived.Laws.OwnMore
import Derived.Deep.AppendLies
import Derived.RangeFuncWrites
import Derived.Test.YtliapnhckdimoacGreatDoorProg
import Derived.WalkSpells
import Derived.WalkLawsBesides
import Derived.StillTactics
import Derived.Laws.Pointers
import Derived.Deep.RegionHeld3
namespace Go.Proofs.YtliapnhckdimoacGreatDoor
open Go.RowKit Go.Proofs.Sha

/-- What the specification's Digest says, by itself. -/
def DigSaid : Prop := ∀ (t : ByteArray) (k : Nat) (w : World), t.size ≤ 1048576 → 1 ≤ k → k ≤ 32 → Calls Tryz.prog 11 #[.string t, .int .i64 (k : Int)] w fun e w' => e = .returned (.string ⟨((sha t.data.toList).take k).toArray⟩) ∧ Below w.heap.size w w'
/-- A node's hash, at a width. -/
def hashT (wd : Nat) (s : ByteArray) : ByteArray := ⟨((sha (78 :: s.data.toList)).take wd).toArray⟩
theorem info9 : (Tryz.prog.info? 9).map (fun i => (i.zero, i.size, i.bytes)) = some (some (.string ⟨#[]⟩), 1, 16) := by kernel_rfl
theorem ltext_any (e : ByteArray) (w : World) (he : e.size ≤ 1048575) :
    Calls Tryz.prog 12 #[.string e] w fun x w' => ∃ t : ByteArray, x = .returned (.string t) ∧ t.size ≤ 1048576 ∧ Hid (t.data.toList = 78 :: e.data.toList) ∧ w = w' := by
  have z : ¬ (9223372036854775807 < (⟨#[78]⟩ : ByteArray).size + e.size) := by show ¬ _ < 1 + e.size; omega
  have z' : ¬ (9223372036854775807 < 1 + e.size) := by omega
  go_enter Tryz.func12, Tryz.ntmps12
  go_wp2
  go_ret
  refine ⟨_, rfl, ?_, ?_, rfl⟩
  · rw [ByteArray.size_append]; show 1 + e.size ≤ _; omega
  · show (_ : List UInt8) = _
    rw [ByteArray.data_append]
    simp

section
variable {w : World} {ga : Nat} {n : Int} {a : Option Addr} {m c : Nat} {W W' : World}
end

end Go.Proofs.YtliapnhckdimoacGreatDoor
namespace Go.Proofs.YtliapnhckdimoacGreatDoor
open Go.RowKit Go.Proofs.Sha

/-- A slice of texts that was handed in, whatever its size. -/
structure RArg (a : Option Addr) (ss : List ByteArray) (w : World) : Prop where
  at_ : 0 < ss.length → ∃ b off : Nat, a = some ⟨b, off, none⟩ ∧ b < w.heap.size ∧ ∀ j, j < ss.length → w.cell? ⟨b, off + j, none⟩ = some (.string (ss.getD j ⟨#[]⟩))
theorem RArg.below {a : Option Addr} {ss : List ByteArray} {w w' : World} (h : RArg a ss w) (hb : Below w.heap.size w w') : RArg a ss w' := by
  refine ⟨fun hn => ?_⟩
  obtain ⟨b, off, ha, hlt, hc⟩ := h.at_ hn
  exact ⟨b, off, ha, Nat.lt_of_lt_of_le hlt hb.size, fun j hj => (hb.cell hlt).trans (hc j hj)⟩
/-- Within the law's bound. -/
def SmallS (ss : List ByteArray) : Prop := ss.length ≤ 1048576 ∧ ∀ j, (ss.getD j ⟨#[]⟩).size ≤ 1048575
theorem RArg.sarg {a : Option Addr} {ss : List ByteArray} {w : World} (h : RArg a ss w) (hs : SmallS ss) : SArg a ss w := ⟨hs.1, fun j => Nat.le_trans (hs.2 j) (by decide), h.at_⟩
theorem wr_in (n : Int) (h : -9223372036854775808 ≤ n ∧ n ≤ 9223372036854775807) : wrap64 n = n := by unfold wrap64; omega
theorem getD_out (ss : List ByteArray) (j : Nat) (h : ss.length ≤ j) : ss.getD j ⟨#[]⟩ = ⟨#[]⟩ := by
  rw [List.getD_eq_getElem?_getD, List.getElem?_eq_none h]; rfl
end Go.Proofs.YtliapnhckdimoacGreatDoor
namespace Go.Proofs.YtliapnhckdimoacGreatDoor
open Go.RowKit Go.Proofs.Sha

theorem make29 (n : Nat) (hn : n ≤ 1048576) (W : World) : (Instr.makeSlice 22 (.int .i64 (n : Int)) (.int .i64 (n : Int))).run Tryz.prog W = .ok (.slice (some ⟨W.heap.size, 0, none⟩) n n) (W.alloc (.cells ((List.replicate n ⟨#[]⟩).map Value.string).toArray 9)) := by
  obtain ⟨i0, hi, hz0, hz1, hz2⟩ := info_parts info9
  have e : madeCells (Value.string ⟨#[]⟩).cells (((n : Nat) : Int).toNat * i0.size) = ((List.replicate n ⟨#[]⟩).map Value.string).toArray := by
    rw [hz1, Int.toNat_natCast, Nat.mul_one]
    show madeCells #[.string ⟨#[]⟩] n = _
    rw [← Array.toList_inj, toList_madeCells_one, List.map_replicate]
  have h := run_make (P := Tryz.prog) W 22 9 i0 (.string ⟨#[]⟩) Tryz.underlying22 hi hz0 .i64 .i64 (n : Int) (n : Int) (by omega) (by omega) (by rw [hz2]; omega) (by omega)
  rw [e] at h
  simpa using h
theorem Row.sarg {w : World} {base g c : Nat} {ss : List ByteArray} (h : Row w base g ss.length c (ss.map Value.string)) (hs : SmallS ss) : SArg (some ⟨g, 0, none⟩) ss w := by
  refine RArg.sarg ⟨fun _ => ⟨g, 0, rfl, h.lt, fun j hj => ?_⟩⟩ hs
  rw [Nat.zero_add, h.cell j hj, List.getElem?_map, List.getElem?_eq_getElem hj, List.getD_eq_getElem?_getD, List.getElem?_eq_getElem hj]
  rfl

/-- The first k of xs, and zeros. -/
def partS (xs : List ByteArray) (k : Nat) : List ByteArray := xs.take k ++ List.replicate (xs.length - k) ⟨#[]⟩
theorem partS_zero (xs : List ByteArray) : partS xs 0 = List.replicate xs.length ⟨#[]⟩ := by simp [partS]
theorem partS_all (xs : List ByteArray) : partS xs xs.length = xs := by simp [partS]
theorem partS_len (xs : List ByteArray) (k : Nat) (h : k ≤ xs.length) : (partS xs k).length = xs.length := by simp [partS]; omega
theorem partS_set (xs : List ByteArray) (k : Nat) (h : k < xs.length) : ((partS xs k).map Value.string).set k (Value.string (xs.getD k ⟨#[]⟩)) = (partS xs (k + 1)).map Value.string := by
  rw [← List.map_set]
  congr 1
  have e : xs.take (k + 1) = xs.take k ++ [xs[k]] := by rw [List.take_add_one, List.getElem?_eq_getElem h]; rfl
  unfold partS
  rw [show xs.length - k = (xs.length - (k + 1)) + 1 by omega, List.replicate_succ, List.set_append_right _ _ (by rw [List.length_take]; omega), List.length_take, show k - min k xs.length = 0 by omega, List.set_cons_zero, e, List.getD_eq_getElem?_getD, List.getElem?_eq_getElem h, List.append_assoc]
  rfl

set_option maxRecDepth 100000 in
theorem eqStringS_same (a a2 : Option Addr) (xs : List ByteArray) (c c2 : Nat) (w : World) (h : SArg a xs w) (h2 : SArg a2 xs w) :
    Calls Tryz.prog 20 #[.slice a xs.length c, .slice a2 xs.length c2] w fun e w' => e = .returned (.bool true) ∧ Below w.heap.size w w' := by
  have hn := h.le
  go_enter Tryz.func20, Tryz.ntmps20
  go_wp2_with fail
  go_loopw [5] (fun t wr => ∃ k : Nat, k ≤ xs.length ∧ t = .int .i64 (k : Int) ∧ Below w.heap.size w wr) (fun t _ => xs.length - (intOf t).toNat)
  case atStart => exact ⟨0, Nat.zero_le _, rfl, Below.refl _ _⟩
  case round =>
    obtain ⟨k, hk, rfl, hbel⟩ := hrel
    by_cases hlt : k < xs.length
    · have z1 : decide ((k : Int) < (xs.length : Int)) = true := by simp; omega
      obtain ⟨b, off, rfl, hbl, hc⟩ := (h.below hbel).at_ (by omega)
      obtain ⟨b2, off2, rfl, hbl2, hc2⟩ := (h2.below hbel).at_ (by omega)
      have hcx := hc k hlt
      have hcy := hc2 k hlt
      obtain ⟨x, hx⟩ : ∃ x, xs.getD k ⟨#[]⟩ = x := ⟨_, rfl⟩
      rw [hx] at hcx hcy
      have hq : (x.toList != x.toList) = false := by simp
      clear hc hc2 hx
      have b1 : (k : Int) < (xs.length : Int) := by omega
      go_wp2_with fail
      go_region_held3 (fun W => W.cell? ⟨b, off + k, none⟩ = some (.string x) ∧ W.cell? ⟨b2, off2 + k, none⟩ = some (.string x)) (exact ⟨hcx, hcy⟩) (fail)
      go_wp2_with fail
      go_roundw
      case rel => exact ⟨k + 1, hlt, rfl, hbel.drew⟩
      case measure => simp [intOf]; omega
    · obtain rfl : k = xs.length := by omega
      have z1 : decide ((xs.length : Int) < (xs.length : Int)) = false := by simp
      go_wp2_with fail
      go_ret
      exact ⟨rfl, hbel⟩
end Go.Proofs.YtliapnhckdimoacGreatDoor
namespace Go.Proofs.YtliapnhckdimoacGreatDoor
open Go.RowKit Go.Proofs.Sha

/-- A log's state in its block. -/
structure LogAt (lb r base wd : Nat) (st : SS) (aN : Option Addr) (cN : Nat) (aR : Option Addr) (cR : Nat) (aA : Option Addr) (cA : Nat) (w : World) : Prop where
  blk : w.heap[lb]? = some (.cells #[.slice aN st.nodes.length cN, .slice aR st.roots.length cR, .int .i64 (st.fin : Int), .slice aA st.aside.length cA, .int .i64 (wd : Int), .map (some r)] 41)
  oN : w.ownsRow base 9 1 (.slice aN st.nodes.length cN) st.nodes.length (st.nodes.map Value.string)
  oR : w.ownsRow base 9 1 (.slice aR st.roots.length cR) st.roots.length (st.roots.map Value.string)
  oA : w.ownsRow base 9 1 (.slice aA st.aside.length cA) st.aside.length (st.aside.map Value.string)
  dNR : ∀ g, (Value.slice aN st.nodes.length cN).ownBlock = some g → (Value.slice aR st.roots.length cR).ownBlock ≠ some g
  dNA : ∀ g, (Value.slice aN st.nodes.length cN).ownBlock = some g → (Value.slice aA st.aside.length cA).ownBlock ≠ some g
  dRA : ∀ g, (Value.slice aR st.roots.length cR).ownBlock = some g → (Value.slice aA st.aside.length cA).ownBlock ≠ some g
  zA : st.aside = [] → aA = none ∧ cA = 0
  map : MapF (placesF wd (st.nodes ++ st.aside) (st.nodes ++ st.aside).length) r w
  hl : lb < base
  hr : r < base
  hne : lb ≠ r
  hb : base ≤ w.heap.size
/-- What a step of a log may turn: its block, its map, rows of its own. -/
structure Turn (lb r base : Nat) (w w' : World) : Prop where
  os : w'.os = w.os
  tape : w'.tape = w.tape
  output : w'.output = w.output
  size : w.heap.size ≤ w'.heap.size
  oth : ∀ k, k < base → k ≠ lb → k ≠ r → w'.heap[k]? = w.heap[k]?
  non : ∀ k o, base ≤ k → w.heap[k]? = some o → (∀ cur, o ≠ .cells cur 9 (0, 0)) → w'.heap[k]? = some o
theorem Turn.refl (lb r base : Nat) (w : World) : Turn lb r base w w := ⟨rfl, rfl, rfl, Nat.le_refl _, fun _ _ _ _ => rfl, fun _ _ _ h _ => h⟩
theorem Turn.trans {lb r base : Nat} {a b c : World} (h : Turn lb r base a b) (k : Turn lb r base b c) : Turn lb r base a c :=
  ⟨k.os.trans h.os, k.tape.trans h.tape, k.output.trans h.output, Nat.le_trans h.size k.size, fun i h1 h2 h3 => (k.oth i h1 h2 h3).trans (h.oth i h1 h2 h3), fun i o h1 h2 h3 => k.non i o h1 (h.non i o h1 h2 h3) h3⟩
theorem Turn.below {lb r base n : Nat} {w w' : World} (h : Turn lb r base w w') (h1 : n ≤ lb) (h2 : n ≤ r) (h3 : lb < base) : Below n w w' :=
  ⟨h.os, h.tape, h.output, h.size, fun k hk => h.oth k (by omega) (by omega) (by omega)⟩
theorem Turn.of_below {lb r base : Nat} {w w' : World} (h : Below w.heap.size w w') (hb : base ≤ w.heap.size) : Turn lb r base w w' :=
  ⟨h.os, h.tape, h.output, h.size, fun k hk _ _ => h.block k (by omega), fun k o _ hk _ => (h.block k (Array.getElem?_eq_some_iff.1 hk).1).trans hk⟩
/-- A step that turns one block: the log's, the map, or a row of its own. -/
theorem Turn.of_grown {lb r base : Nat} {w w' : World} {row : Option Nat} (hg : w.grownBy w' row) (hb : base ≤ w.heap.size) (h1 : ∀ g, row = some g → g = lb ∨ g = r ∨ base ≤ g) (h2 : ∀ g o, row = some g → base ≤ g → w.heap[g]? = some o → ∃ cur, o = .cells cur 9 (0, 0)) : Turn lb r base w w' := by
  refine ⟨hg.os, hg.tape, hg.output, hg.size, fun k hk n1 n2 => hg.block k (by omega) (fun e => ?_), fun k o hk ho hc => (hg.block k (Array.getElem?_eq_some_iff.1 ho).1 (fun e => ?_)).trans ho⟩
  · rcases h1 k e.symm with h | h | h <;> omega
  · obtain ⟨cur, hcur⟩ := h2 k o e.symm hk ho
    exact hc cur hcur
theorem Turn.setCell {lb r base : Nat} (w : World) (o : Nat) (v : Value) (hb : base ≤ w.heap.size) (hl : lb < base) : Turn lb r base w (w.setCell ⟨lb, o, none⟩ v) :=
  Turn.of_grown (grownBy_setCell w lb o v) hb (fun g e => .inl (Option.some.inj e).symm) (fun g o' e h _ => by exfalso; have := Option.some.inj e; omega)
/-- Own rows are cells. -/
theorem own_cells {w : World} {base g n : Nat} {v : Value} {xs : List Value} (h : w.ownsRow base 9 1 v n xs) (hv : v.ownBlock = some g) : base ≤ g ∧ g < w.heap.size ∧ ∃ cur, w.heap[g]? = some (.cells cur 9 (0, 0)) := by
  rcases h.2 with ⟨rfl, _⟩ | ⟨g', cap, cur, rfl, hb, hg, _⟩
  · cases hv
  · obtain rfl : g' = g := Option.some.inj hv
    exact ⟨hb, (Array.getElem?_eq_some_iff.1 hg).1, cur, hg⟩
theorem own_kept {w w' : World} {base n : Nat} {v : Value} {xs : List Value} (h : w.ownsRow base 9 1 v n xs) (hk : ∀ g, v.ownBlock = some g → g < w.heap.size → w'.heap[g]? = w.heap[g]?) : w'.ownsRow base 9 1 v n xs := by
  refine ⟨h.1, ?_⟩
  rcases h.2 with ⟨h1, h2⟩ | ⟨g, cap, cur, hv, hb, hg, rest⟩
  · exact .inl ⟨h1, h2⟩
  · exact .inr ⟨g, cap, cur, hv, hb, (hk g (by rw [hv]; rfl) (Array.getElem?_eq_some_iff.1 hg).1).trans hg, rest⟩
/-- Whatever leaves the log's block, its map and its rows leaves the log. -/
theorem LogAt.kept {lb r base wd : Nat} {st : SS} {aN : Option Addr} {cN : Nat} {aR : Option Addr} {cR : Nat} {aA : Option Addr} {cA : Nat} {w w' : World} (h : LogAt lb r base wd st aN cN aR cR aA cA w) {row : Option Nat} (hg : w.grownBy w' row)
    (h1 : ∀ g, row = some g → g ≠ lb ∧ g ≠ r) (h2 : ∀ g o, row = some g → base ≤ g → w.heap[g]? = some o → ∀ cur, o ≠ .cells cur 9 (0, 0)) : LogAt lb r base wd st aN cN aR cR aA cA w' := by
  have hrow : ∀ {v : Value} {n : Nat} {xs : List Value}, w.ownsRow base 9 1 v n xs → w'.ownsRow base 9 1 v n xs := fun ho => own_kept ho (fun g hv hlt => hg.block g hlt (fun e => by
    obtain ⟨hb, _, cur, hc⟩ := own_cells ho hv
    exact h2 g _ e.symm hb hc cur rfl))
  have hlt : lb < w.heap.size := Nat.lt_of_lt_of_le h.hl h.hb
  have hrt : r < w.heap.size := Nat.lt_of_lt_of_le h.hr h.hb
  refine ⟨(hg.block lb hlt (fun e => (h1 lb e.symm).1 rfl)).trans h.blk, hrow h.oN, hrow h.oR, hrow h.oA, h.dNR, h.dNA, h.dRA, h.zA, ?_, h.hl, h.hr, h.hne, Nat.le_trans h.hb hg.size⟩
  obtain ⟨es, cl, hh, q1, q2⟩ := h.map.is
  exact ⟨es, cl, (hg.block r hrt (fun e => (h1 r e.symm).2 rfl)).trans hh, q1, q2⟩
theorem LogAt.below {lb r base wd : Nat} {st : SS} {aN : Option Addr} {cN : Nat} {aR : Option Addr} {cR : Nat} {aA : Option Addr} {cA : Nat} {w w' : World} (h : LogAt lb r base wd st aN cN aR cR aA cA w) (hb : Below w.heap.size w w') : LogAt lb r base wd st aN cN aR cR aA cA w' :=
  h.kept (grownBy_of_below hb none) (fun _ e => by cases e) (fun _ _ e => by cases e)
theorem LogAt.sec {lb r base wd : Nat} {st : SS} {aN : Option Addr} {cN : Nat} {aR : Option Addr} {cR : Nat} {aA : Option Addr} {cA : Nat} {w : World} (h : LogAt lb r base wd st aN cN aR cR aA cA w) (x : Nat) : LogAt lb r base wd ⟨st.nodes, st.aside, st.roots, st.fin, x⟩ aN cN aR cR aA cA w := ⟨h.blk, h.oN, h.oR, h.oA, h.dNR, h.dNA, h.dRA, h.zA, h.map, h.hl, h.hr, h.hne, h.hb⟩
end Go.Proofs.YtliapnhckdimoacGreatDoor
namespace Go.Proofs.YtliapnhckdimoacGreatDoor
open Go.RowKit Go.Proofs.Sha

def byteS (n : Nat) : ByteArray := ⟨#[UInt8.ofNat n]⟩
theorem byte_form (n : Nat) : Value.int .u8 ((n : Int) % 256) = B (UInt8.ofNat n) := by
  unfold B
  rw [UInt8.toNat_ofNat']
  show Value.int .u8 _ = Value.int .u8 ((n % 256 : Nat) : Int)
  rw [Int.natCast_emod]; rfl

set_option maxRecDepth 100000 in
set_option maxHeartbeats 400000 in
theorem byte_any (n : Nat) (_hn : n ≤ 1048576) (w : World) :
    Calls Tryz.prog 35 #[.int .i64 (n : Int)] w fun e w' => e = .returned (.string (byteS n)) ∧ Below w.heap.size w w' := by
  have hrow : Row (w.alloc (.cells #[.int .u8 ((n : Int) % 256)] 5)) w.heap.size w.heap.size 1 1 ([UInt8.ofNat n].map B) := by
    have e : [UInt8.ofNat n].map B = [.int .u8 ((n : Int) % 256)] := by rw [byte_form]; rfl
    rw [e]
    exact Row.of_block (Nat.le_refl _) (heap_alloc_new w (.cells #[.int .u8 ((n : Int) % 256)] 5)) 1 (by simp) (.inl rfl)
  go_enter Tryz.func35, Tryz.ntmps35
  go_wp2_with (refine wpList_string_row _ rfl (.tmp 5) 62 9 5 rfl w.heap.size w.heap.size 1 1 [UInt8.ofNat n] rfl hrow Tryz.underlying62 Tryz.underlying5 Tryz.underlying9 ?_)
  go_ret
  exact ⟨rfl, (Below.refl _ _).alloc (Nat.le_refl _) _⟩

theorem byte_i (m : Int) (h0 : 0 ≤ m) (h1 : m ≤ 1048576) (w : World) :
    Calls Tryz.prog 35 #[.int .i64 m] w fun e w' => ∃ t : ByteArray, e = .returned (.string t) ∧ t.size ≤ 1 ∧ Hid (t = byteS m.toNat) ∧ Below w.heap.size w w' := by
  obtain ⟨n, rfl⟩ := Int.eq_ofNat_of_zero_le h0
  rw [Int.toNat_natCast]
  exact (byte_any n (by omega) w).mono fun e w' ⟨he, hb⟩ => ⟨_, he, Nat.le_refl _, rfl, hb⟩

/-- A text of bytes. -/
def T (l : List UInt8) : ByteArray := ⟨l.toArray⟩
theorem T_data (l : List UInt8) : (T l).data.toList = l := rfl
theorem T_size (l : List UInt8) : (T l).size = l.length := rfl
theorem T_of (s : ByteArray) : T s.data.toList = s := by cases s; rfl
theorem T_append (a b : List UInt8) : T a ++ T b = T (a ++ b) := by
  apply ByteArray.ext
  show (T a ++ T b).data = _
  rw [ByteArray.data_append]
  apply Array.ext'
  simp [T]

def sized (l : List UInt8) : List UInt8 := UInt8.ofNat (l.length / 256) :: UInt8.ofNat (l.length % 256) :: l
theorem byteS_T (n : Nat) : byteS n = T [UInt8.ofNat n] := rfl

def hashOk (n : Nat) (w : Int) : Bool := decide (n = 0) || decide ((n : Int) = w)
/-- Is the node valid for the width? -/
def nodeOk (k v l r : Nat) (w : Int) : Bool := decide (1 ≤ w ∧ w ≤ 32 ∧ 1 ≤ k ∧ k ≤ 256 ∧ v ≤ 2000) && (hashOk l w && hashOk r w)

end Go.Proofs.YtliapnhckdimoacGreatDoor
namespace Go.Proofs.YtliapnhckdimoacGreatDoor
open Go.RowKit Go.Proofs.Sha

def flagOf (l r : Nat) : Nat := (if l = 0 then 0 else 1) + (if r = 0 then 0 else 2)
def encL (k v l r : List UInt8) : List UInt8 := sized k ++ sized v ++ [UInt8.ofNat (flagOf l.length r.length)] ++ l ++ r

end Go.Proofs.YtliapnhckdimoacGreatDoor
