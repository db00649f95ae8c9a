import Derived.Test.YtngnbflkiiehmaaGreatDoorZj
import Derived.Test.YtngnbflkiiehmaaGreatDoorZi
import Derived.Test.YtngnbflkiiehmaaGreatDoorZg
namespace Go.Proofs.YtngnbflkiiehmaaGreatDoor
open Go.RowKit Go.Proofs.Sha

theorem NX.fault {s : ByteArray} {a : Nat} {f : Bool} {n : Nat} {t : ByteArray} {a' : Nat} (h : NX s a f n t a' true) : t = ⟨#[]⟩ := by
  rcases h with ⟨_, _, _, _, h⟩ | ⟨_, h, _⟩
  · cases h
  · exact h

set_option maxRecDepth 100000 in
theorem rint (z : Nat) (low : Bool) (r : Nat) (s : ByteArray) (a : Nat) (f : Bool) (w : World) (h : Rd r s a f w) (ha : a ≤ s.size) (hs : s.size ≤ 1048576) (hz : 0 < z) (hz4 : z ≤ 4) :
    Calls Tryz.prog 86 #[.pointer (some ⟨r, 0, none⟩), .iface 123 (.agg #[.int .i64 (z : Int), .bool low])] w fun e w' => ∃ (v : Nat) (t : ByteArray) (a' : Nat) (f' : Bool), e = .returned (.int .i64 (v : Int)) ∧ Hid (NX s a f z t a' f') ∧ Hid (v = valTo z low (byteAt t) t.size) ∧ a' ≤ s.size ∧ v < 4294967296 ∧ Rd r s a' f' w' ∧ Mv r w w' := by
  have hmt : ∀ w : World, (method 292 123 (.agg #[.int .i64 (z : Int), .bool low]) "loop.example/s03048/impl.take").run Tryz.prog w = .ok (106, .agg #[.int .i64 (z : Int), .bool low]) w := fun _ => by kernel_rfl
  have HC := ntake z low r s a f w h ha hs hz hz4
  have HCh : Hid (Calls Tryz.prog 106 #[.agg #[.int .i64 (z : Int), .bool low], .pointer (some ⟨r, 0, none⟩)] w fun e w' => ∃ (v : Nat) (t : ByteArray) (a' : Nat) (f' : Bool), e = .returned (.int .i64 (v : Int)) ∧ Hid (NX s a f z t a' f') ∧ Hid (v = valTo z low (byteAt t) t.size) ∧ a' ≤ s.size ∧ v < 4294967296 ∧ Rd r s a' f' w' ∧ Mv r w w') := HC
  clear HC
  go_enter Tryz.func86, Tryz.ntmps86
  go_wp2_with (first | (go_at_call 106; refine HCh.out.mono ?_; rintro e w1 ⟨v, t, a', f', rfl, HX, HV, ha', hv, hr1, hm1⟩; have c2 : w1.cell? ⟨r, 2, none⟩ = some (.bool f') := Lib.cell_of_heap hr1 2))
  · rename_i hf
    go_ret
    subst hf
    have e := NX.fault HX.out
    exact ⟨0, t, a', true, rfl, HX, by show 0 = valTo z low (byteAt t) t.size; rw [e]; rfl, ha', by omega, hr1, hm1⟩
  · go_ret
    exact ⟨v, t, a', f', rfl, HX, HV, ha', hv, hr1, hm1⟩

theorem clone_any (t : ByteArray) (w : World) (ht : t.size ≤ 1048576) :
    Calls Tryz.prog 113 #[.string t] w fun e w' => e = .returned (.string t) ∧ Below w.heap.size w w' := by
  have HC : Hid (Calls Tryz.prog 114 #[.string t] w fun e w' => e = .returned (.string t) ∧ Below w.heap.size w w') := Tryz.stringslite_Clone t w (by omega)
  go_enter Tryz.func113, Tryz.ntmps113
  go_wp2_with (first | (go_at_call 114; refine HC.out.mono ?_; rintro e w1 ⟨rfl, hb1⟩))
  go_ret
  exact ⟨rfl, hb1⟩

set_option maxRecDepth 100000 in
theorem ptake (n : Nat) (r : Nat) (s : ByteArray) (a : Nat) (f : Bool) (w : World) (h : Rd r s a f w) (ha : a ≤ s.size) (hs : s.size ≤ 1048576) (hn : n ≤ 4294967296) :
    Calls Tryz.prog 112 #[.agg #[.int .i64 (n : Int)], .pointer (some ⟨r, 0, none⟩)] w fun e w' => ∃ (t : ByteArray) (a' : Nat) (f' : Bool), e = .returned (.string t) ∧ Hid (NX s a f n t a' f') ∧ a' ≤ s.size ∧ t.size ≤ s.size ∧ Rd r s a' f' w' ∧ Mv r w w' := by
  have HN : Hid (∀ w', Rd r s a f w' → Calls Tryz.prog 108 #[.pointer (some ⟨r, 0, none⟩), .int .i64 (n : Int)] w' fun e w'' => ∃ t a' f', e = .returned (.string t) ∧ Hid (NX s a f n t a' f') ∧ a' ≤ s.size ∧ t.size ≤ s.size ∧ Rd r s a' f' w'' ∧ Mv r w' w'') := fun w' h' => next_any r s a f n w' h' ha hs hn
  go_enter Tryz.func112, Tryz.ntmps112
  go_wp2_with (first | (go_at_call 108; refine (HN.out _ (h.alloc _)).mono ?_; rintro e w1 ⟨t, a', f', rfl, HX, ha', ht, hr1, hm1⟩) | (go_at_call 113; refine (clone_any t _ (by omega)).mono ?_; rintro e w2 ⟨rfl, hb2⟩))
  go_ret
  exact ⟨t, a', f', rfl, HX, ha', ht, hr1.below hb2, (((Mv.refl r w).alloc _).trans hm1).trans (Mv.of_below r hb2)⟩

set_option maxRecDepth 100000 in
theorem rplain (n : Nat) (r : Nat) (s : ByteArray) (a : Nat) (f : Bool) (w : World) (h : Rd r s a f w) (ha : a ≤ s.size) (hs : s.size ≤ 1048576) (hn : n ≤ 4294967296) :
    Calls Tryz.prog 85 #[.pointer (some ⟨r, 0, none⟩), .iface 129 (.agg #[.int .i64 (n : Int)])] w fun e w' => ∃ (t : ByteArray) (a' : Nat) (f' : Bool), e = .returned (.string t) ∧ Hid (NX s a f n t a' f') ∧ a' ≤ s.size ∧ t.size ≤ s.size ∧ Rd r s a' f' w' ∧ Mv r w w' := by
  have hmt : ∀ w : World, (method 292 129 (.agg #[.int .i64 (n : Int)]) "loop.example/s03048/impl.take").run Tryz.prog w = .ok (112, .agg #[.int .i64 (n : Int)]) w := fun _ => by kernel_rfl
  have HCh : Hid (Calls Tryz.prog 112 #[.agg #[.int .i64 (n : Int)], .pointer (some ⟨r, 0, none⟩)] w fun e w' => ∃ (t : ByteArray) (a' : Nat) (f' : Bool), e = .returned (.string t) ∧ Hid (NX s a f n t a' f') ∧ a' ≤ s.size ∧ t.size ≤ s.size ∧ Rd r s a' f' w' ∧ Mv r w w') := ptake n r s a f w h ha hs hn
  go_enter Tryz.func85, Tryz.ntmps85
  go_wp2_with (first | (go_at_call 112; refine HCh.out.mono ?_; rintro e w1 ⟨t, a', f', rfl, HX, ha', ht, hr1, hm1⟩; have c2 : w1.cell? ⟨r, 2, none⟩ = some (.bool f') := Lib.cell_of_heap hr1 2))
  · rename_i hf
    go_ret
    subst hf
    exact ⟨⟨#[]⟩, a', true, rfl, by rw [← NX.fault HX.out]; exact HX, ha', Nat.zero_le _, hr1, hm1⟩
  · go_ret
    exact ⟨t, a', f', rfl, HX, ha', ht, hr1, hm1⟩

/-- What a text with its size ahead answers and leaves. -/
def SX (z : Nat) (low : Bool) (s : ByteArray) (a : Nat) (f : Bool) (t : ByteArray) (a' : Nat) (f' : Bool) : Prop :=
  ∃ (t1 : ByteArray) (a1 : Nat) (f1 : Bool), NX s a f z t1 a1 f1 ∧ NX s a1 f1 (valTo z low (byteAt t1) t1.size) t a' f'

set_option maxRecDepth 100000 in
theorem stake (z : Nat) (low : Bool) (r : Nat) (s : ByteArray) (a : Nat) (f : Bool) (w : World) (h : Rd r s a f w) (ha : a ≤ s.size) (hs : s.size ≤ 1048576) (hz : 0 < z) (hz4 : z ≤ 4) :
    Calls Tryz.prog 110 #[.agg #[.int .i64 (z : Int), .bool low], .pointer (some ⟨r, 0, none⟩)] w fun e w' => ∃ (t : ByteArray) (a' : Nat) (f' : Bool), e = .returned (.string t) ∧ Hid (SX z low s a f t a' f') ∧ a' ≤ s.size ∧ t.size ≤ s.size ∧ Rd r s a' f' w' ∧ Mv r w w' := by
  have HI : Hid (∀ w', Rd r s a f w' → Calls Tryz.prog 86 #[.pointer (some ⟨r, 0, none⟩), .iface 123 (.agg #[.int .i64 (z : Int), .bool low])] w' fun e w'' => ∃ (v : Nat) (t : ByteArray) (a' : Nat) (f' : Bool), e = .returned (.int .i64 (v : Int)) ∧ Hid (NX s a f z t a' f') ∧ Hid (v = valTo z low (byteAt t) t.size) ∧ a' ≤ s.size ∧ v < 4294967296 ∧ Rd r s a' f' w'' ∧ Mv r w' w'') := fun w' h' => rint z low r s a f w' h' ha hs hz hz4
  go_enter Tryz.func110, Tryz.ntmps110
  go_wp2_with (first | (go_at_call 86; refine (HI.out _ (h.alloc _)).mono ?_; rintro e w1 ⟨v, t1, a1, f1, rfl, HX, HV, ha1, hv, hr1, hm1⟩) | (go_at_call 85; refine (rplain v r s a1 f1 _ hr1 ha1 hs (by omega)).mono ?_; rintro e w2 ⟨t, a', f', rfl, HY, ha', ht, hr2, hm2⟩))
  go_ret
  refine ⟨t, a', f', rfl, ⟨t1, a1, f1, HX.out, ?_⟩, ha', ht, hr2, (((Mv.refl r w).alloc _).trans hm1).trans hm2⟩
  rw [← HV.out]
  exact HY.out

set_option maxRecDepth 100000 in
theorem rsized (z : Nat) (low : Bool) (r : Nat) (s : ByteArray) (a : Nat) (f : Bool) (w : World) (h : Rd r s a f w) (ha : a ≤ s.size) (hs : s.size ≤ 1048576) (hz : 0 < z) (hz4 : z ≤ 4) :
    Calls Tryz.prog 85 #[.pointer (some ⟨r, 0, none⟩), .iface 125 (.agg #[.int .i64 (z : Int), .bool low])] w fun e w' => ∃ (t : ByteArray) (a' : Nat) (f' : Bool), e = .returned (.string t) ∧ Hid (SX z low s a f t a' f') ∧ a' ≤ s.size ∧ t.size ≤ s.size ∧ Rd r s a' f' w' ∧ Mv r w w' := by
  have hmt : ∀ w : World, (method 292 125 (.agg #[.int .i64 (z : Int), .bool low]) "loop.example/s03048/impl.take").run Tryz.prog w = .ok (110, .agg #[.int .i64 (z : Int), .bool low]) w := fun _ => by kernel_rfl
  have HCh : Hid (Calls Tryz.prog 110 #[.agg #[.int .i64 (z : Int), .bool low], .pointer (some ⟨r, 0, none⟩)] w fun e w' => ∃ (t : ByteArray) (a' : Nat) (f' : Bool), e = .returned (.string t) ∧ Hid (SX z low s a f t a' f') ∧ a' ≤ s.size ∧ t.size ≤ s.size ∧ Rd r s a' f' w' ∧ Mv r w w') := stake z low r s a f w h ha hs hz hz4
  go_enter Tryz.func85, Tryz.ntmps85
  go_wp2_with (first | (go_at_call 110; refine HCh.out.mono ?_; rintro e w1 ⟨t, a', f', rfl, HX, ha', ht, hr1, hm1⟩; have c2 : w1.cell? ⟨r, 2, none⟩ = some (.bool f') := Lib.cell_of_heap hr1 2))
  · rename_i hf
    go_ret
    subst hf
    obtain ⟨t1, a1, f1, h1, h2⟩ := HX.out
    exact ⟨⟨#[]⟩, a', true, rfl, ⟨t1, a1, f1, h1, by rw [← NX.fault h2]; exact h2⟩, ha', Nat.zero_le _, hr1, hm1⟩
  · go_ret
    exact ⟨t, a', f', rfl, HX, ha', ht, hr1, hm1⟩
end Go.Proofs.YtngnbflkiiehmaaGreatDoor
namespace Go.Proofs.YtngnbflkiiehmaaGreatDoor
open Go.RowKit Go.Proofs.Sha

theorem rsized2 (r : Nat) (s : ByteArray) (a : Nat) (f : Bool) (w : World) (h : Rd r s a f w) (ha : a ≤ s.size) (hs : s.size ≤ 1048576) :
    Calls Tryz.prog 85 #[.pointer (some ⟨r, 0, none⟩), .iface 125 (.agg #[.int .i64 2, .bool false])] w fun e w' => ∃ (t : ByteArray) (a' : Nat) (f' : Bool), e = .returned (.string t) ∧ Hid (SX 2 false s a f t a' f') ∧ a' ≤ s.size ∧ t.size ≤ s.size ∧ Rd r s a' f' w' ∧ Mv r w w' :=
  rsized 2 false r s a f w h ha hs (by omega) (by omega)
theorem rint1 (r : Nat) (s : ByteArray) (a : Nat) (f : Bool) (w : World) (h : Rd r s a f w) (ha : a ≤ s.size) (hs : s.size ≤ 1048576) :
    Calls Tryz.prog 86 #[.pointer (some ⟨r, 0, none⟩), .iface 123 (.agg #[.int .i64 1, .bool false])] w fun e w' => ∃ (v : Nat) (t : ByteArray) (a' : Nat) (f' : Bool), e = .returned (.int .i64 (v : Int)) ∧ Hid (NX s a f 1 t a' f') ∧ Hid (v = valTo 1 false (byteAt t) t.size) ∧ a' ≤ s.size ∧ v < 4294967296 ∧ Rd r s a' f' w' ∧ Mv r w w' :=
  rint 1 false r s a f w h ha hs (by omega) (by omega)
theorem link_nat (n b : Nat) (hn : n ≤ 32) (w : World) : Calls Tryz.prog 78 #[.agg #[.int .i64 (n : Int)], .int .i64 (b : Int)] w fun e w' => ∃ m : Nat, e = .returned (.agg #[.int .i64 (m : Int)]) ∧ m ≤ 32 ∧ Hid (m = if b = 0 then 0 else n) ∧ Below w.heap.size w w' := by
  refine (link_any (n : Int) (b : Int) w).mono ?_
  rintro e w' ⟨rfl, hb⟩
  by_cases h : b = 0
  · refine ⟨0, ?_, by omega, ?_, hb⟩
    · rw [if_pos (by omega)]; rfl
    · show 0 = _; rw [if_pos h]
  · refine ⟨n, ?_, hn, ?_, hb⟩
    · rw [if_neg (by omega)]
    · show n = _; rw [if_neg h]

/-- A node's block. -/
def NB (g : Nat) (k v l r : ByteArray) (w : World) : Prop := w.heap[g]? = some (.cells #[.string k, .string v, .string l, .string r] 24)
theorem NB.s0 {g : Nat} {k v l r : ByteArray} {w : World} (h : NB g k v l r w) (x : ByteArray) : NB g x v l r (w.setCell ⟨g, 0, none⟩ (.string x)) := heap_setCell_same w g 0 _ 24 _ h
theorem NB.s1 {g : Nat} {k v l r : ByteArray} {w : World} (h : NB g k v l r w) (x : ByteArray) : NB g k x l r (w.setCell ⟨g, 1, none⟩ (.string x)) := heap_setCell_same w g 1 _ 24 _ h
theorem NB.s2 {g : Nat} {k v l r : ByteArray} {w : World} (h : NB g k v l r w) (x : ByteArray) : NB g k v x r (w.setCell ⟨g, 2, none⟩ (.string x)) := heap_setCell_same w g 2 _ 24 _ h
theorem NB.s3 {g : Nat} {k v l r : ByteArray} {w : World} (h : NB g k v l r w) (x : ByteArray) : NB g k v l x (w.setCell ⟨g, 3, none⟩ (.string x)) := heap_setCell_same w g 3 _ 24 _ h
theorem set_other {g i k : Nat} {x : Value} {w : World} {o : Obj} (h : w.heap[k]? = some o) (hne : k ≠ g) : (w.setCell ⟨g, i, none⟩ x).heap[k]? = some o := (heap_setCell_other w ⟨g, i, none⟩ k x hne).trans h
theorem Rd.other {r g i : Nat} {s : ByteArray} {a : Nat} {f : Bool} {x : Value} {w : World} (h : Rd r s a f w) (hne : r ≠ g) : Rd r s a f (w.setCell ⟨g, i, none⟩ x) := set_other h hne
theorem size_set (w : World) (a : Addr) (x : Value) : (w.setCell a x).heap.size = w.heap.size := by simp [World.setCell]
/-- A store into a block that was not there. -/
theorem Mv.other {r g i n : Nat} {a w : World} {x : Value} (h : Mv r a w) (hn : a.heap.size = n) (hg : n ≤ g) : Mv r a (w.setCell ⟨g, i, none⟩ x) :=
  ⟨h.os, h.tape, h.output, by rw [size_set]; exact h.size, fun k hk hr => (heap_setCell_other w ⟨g, i, none⟩ k x (by show k ≠ g; omega)).trans (h.block k hk hr)⟩

/-- What nodeForm.take answers and leaves. -/
def NR (n : Nat) (s : ByteArray) (a : Nat) (f : Bool) (k v l r : ByteArray) (a' : Nat) (f' : Bool) : Prop :=
  ∃ (a1 : Nat) (f1 : Bool) (a2 : Nat) (f2 : Bool) (fl : Nat) (t3 : ByteArray) (a3 : Nat) (f3 : Bool) (a4 : Nat) (f4 f5 : Bool),
    SX 2 false s a f k a1 f1 ∧ SX 2 false s a1 f1 v a2 f2 ∧ NX s a2 f2 1 t3 a3 f3 ∧ fl = valTo 1 false (byteAt t3) t3.size ∧
    NX s a3 f3 (if fl &&& 1 = 0 then 0 else n) l a4 f4 ∧ NX s a4 f4 (if fl &&& 2 = 0 then 0 else n) r a' f5 ∧
    f' = (f5 || (decide (3 < fl) || !nodeOk k.size v.size l.size r.size (n : Int)))

/-- What stands while a node is read. -/
structure ST (w : World) (fb r n : Nat) (s : ByteArray) (a : Nat) (f : Bool) (k v l x : ByteArray) (W : World) : Prop where
  sz : w.heap.size = fb
  lt : r < fb
  rd : Rd r s a f W
  mv : Mv r w W
  fc : W.heap[fb]? = some (.cells #[.int .i64 (n : Int)] 49)
  rb : NB (fb + 1) ⟨#[]⟩ ⟨#[]⟩ ⟨#[]⟩ ⟨#[]⟩ W
  nb : NB (fb + 1 + 1) k v l x W
section
variable {w : World} {fb r n : Nat} {s : ByteArray} {a : Nat} {f : Bool} {k v l x : ByteArray} {W W' : World}
theorem ST.below (h : ST w fb r n s a f k v l x W) (hb : Below W.heap.size W W') : ST w fb r n s a f k v l x W' :=
  ⟨h.sz, h.lt, h.rd.below hb, h.mv.trans (Mv.of_below r hb), below_cells hb h.fc, below_cells hb h.rb, below_cells hb h.nb⟩
theorem ST.move (h : ST w fb r n s a f k v l x W) {a' : Nat} {f' : Bool} (hr : Rd r s a' f' W') (hm : Mv r W W') : ST w fb r n s a' f' k v l x W' :=
  have hl := h.lt
  ⟨h.sz, h.lt, hr, h.mv.trans hm, hm.cells h.fc (by omega), hm.cells h.rb (by omega), hm.cells h.nb (by omega)⟩
theorem ST.s0 (h : ST w fb r n s a f k v l x W) (y : ByteArray) : ST w fb r n s a f y v l x (W.setCell ⟨fb + 1 + 1, 0, none⟩ (.string y)) :=
  have hl := h.lt
  ⟨h.sz, h.lt, h.rd.other (by omega), h.mv.other h.sz (by omega), set_other h.fc (by omega), set_other h.rb (by omega), h.nb.s0 y⟩
theorem ST.s1 (h : ST w fb r n s a f k v l x W) (y : ByteArray) : ST w fb r n s a f k y l x (W.setCell ⟨fb + 1 + 1, 1, none⟩ (.string y)) :=
  have hl := h.lt
  ⟨h.sz, h.lt, h.rd.other (by omega), h.mv.other h.sz (by omega), set_other h.fc (by omega), set_other h.rb (by omega), h.nb.s1 y⟩
theorem ST.s2 (h : ST w fb r n s a f k v l x W) (y : ByteArray) : ST w fb r n s a f k v y x (W.setCell ⟨fb + 1 + 1, 2, none⟩ (.string y)) :=
  have hl := h.lt
  ⟨h.sz, h.lt, h.rd.other (by omega), h.mv.other h.sz (by omega), set_other h.fc (by omega), set_other h.rb (by omega), h.nb.s2 y⟩
theorem ST.s3 (h : ST w fb r n s a f k v l x W) (y : ByteArray) : ST w fb r n s a f k v l y (W.setCell ⟨fb + 1 + 1, 3, none⟩ (.string y)) :=
  have hl := h.lt
  ⟨h.sz, h.lt, h.rd.other (by omega), h.mv.other h.sz (by omega), set_other h.fc (by omega), set_other h.rb (by omega), h.nb.s3 y⟩
/-- The answer's four cells are laid. -/
theorem ST.fin (h : ST w fb r n s a f k v l x W) : NB (fb + 1) k v l x ((((W.setCell ⟨fb + 1, 0, none⟩ (.string k)).setCell ⟨fb + 1, 1, none⟩ (.string v)).setCell ⟨fb + 1, 2, none⟩ (.string l)).setCell ⟨fb + 1, 3, none⟩ (.string x)) ∧
    Rd r s a f ((((W.setCell ⟨fb + 1, 0, none⟩ (.string k)).setCell ⟨fb + 1, 1, none⟩ (.string v)).setCell ⟨fb + 1, 2, none⟩ (.string l)).setCell ⟨fb + 1, 3, none⟩ (.string x)) ∧
    Mv r w ((((W.setCell ⟨fb + 1, 0, none⟩ (.string k)).setCell ⟨fb + 1, 1, none⟩ (.string v)).setCell ⟨fb + 1, 2, none⟩ (.string l)).setCell ⟨fb + 1, 3, none⟩ (.string x)) :=
  have hl := h.lt
  ⟨(((h.rb.s0 k).s1 v).s2 l).s3 x, (((h.rd.other (by omega)).other (by omega)).other (by omega)).other (by omega), (((h.mv.other h.sz (by omega)).other h.sz (by omega)).other h.sz (by omega)).other h.sz (by omega)⟩
end

theorem ret59 {w : World} {g : Nat} {k v l r : ByteArray} (h : NB g k v l r w) {a : Act} {R : Ending → World → Prop} (h4 : a.tmps.getD 4 undef = .pointer (some ⟨g, 0, none⟩)) (hd : a.defers = [])
    (hR : R (.returned (nodeV k v l r)) w) : bodyPost Tryz.prog Tryz.f80 R .ret a w := by
  have c0 : w.cell? ⟨g, 0, none⟩ = some (.string k) := Lib.cell_of_heap h 0
  have c1 : w.cell? ⟨g, 1, none⟩ = some (.string v) := Lib.cell_of_heap h 1
  have c2 : w.cell? ⟨g, 2, none⟩ = some (.string l) := Lib.cell_of_heap h 2
  have c3 : w.cell? ⟨g, 3, none⟩ = some (.string r) := Lib.cell_of_heap h 3
  have h4' : a.tmps[4]?.getD undef = .pointer (some ⟨g, 0, none⟩) := by simpa using h4
  exact bodyPost_ret (v := nodeV k v l r) (by simp [results, Tryz.results80, go_sem, h4', asAddr, c0, c1, c2, c3]) hd hR

set_option maxRecDepth 100000 in
set_option maxHeartbeats 2000000 in
theorem node_take (n : Nat) (r : Nat) (s : ByteArray) (a : Nat) (f : Bool) (w : World) (h : Rd r s a f w) (ha : a ≤ s.size) (hs : s.size ≤ 1048576) (hn : n ≤ 32) :
    Calls Tryz.prog 80 #[.agg #[.int .i64 (n : Int)], .pointer (some ⟨r, 0, none⟩)] w fun e w' => ∃ (k v l x : ByteArray) (a' : Nat) (f' : Bool), e = .returned (nodeV k v l x) ∧ Hid (NR n s a f k v l x a' f') ∧ a' ≤ s.size ∧ k.size ≤ s.size ∧ v.size ≤ s.size ∧ l.size ≤ s.size ∧ x.size ≤ s.size ∧ Rd r s a' f' w' ∧ Mv r w w' := by
  have hlt := h.lt
  obtain ⟨w0, hw0⟩ : ∃ w0, w0 = ((w.alloc (.cells #[.int .i64 (n : Int)] 49)).alloc (.cells #[.string ⟨#[]⟩, .string ⟨#[]⟩, .string ⟨#[]⟩, .string ⟨#[]⟩] 24)).alloc (.cells #[.string ⟨#[]⟩, .string ⟨#[]⟩, .string ⟨#[]⟩, .string ⟨#[]⟩] 24) := ⟨_, rfl⟩
  obtain ⟨fb, hfb⟩ : ∃ fb, w.heap.size = fb := ⟨_, rfl⟩
  have hS0 : ST w fb r n s a f ⟨#[]⟩ ⟨#[]⟩ ⟨#[]⟩ ⟨#[]⟩ w0 := by
    refine ⟨hfb, by omega, ?_, ?_, ?_, ?_, ?_⟩
    · rw [hw0]; exact ((h.alloc _).alloc _).alloc _
    · rw [hw0]; exact (((Mv.refl r w).alloc _).alloc _).alloc _
    · rw [hw0]; exact below_cells ((Below.refl _ _).alloc (Nat.le_refl _) _) (below_cells ((Below.refl _ _).alloc (Nat.le_refl _) _) (by rw [← hfb]; exact heap_alloc_new _ _))
    · rw [hw0]; refine below_cells ((Below.refl _ _).alloc (Nat.le_refl _) _) ?_
      rw [show fb + 1 = (w.alloc (.cells #[.int .i64 (n : Int)] 49)).heap.size by simp [hfb]]; exact heap_alloc_new _ _
    · rw [hw0]; unfold NB; rw [show fb + 1 + 1 = ((w.alloc (.cells #[.int .i64 (n : Int)] 49)).alloc (.cells #[.string ⟨#[]⟩, .string ⟨#[]⟩, .string ⟨#[]⟩, .string ⟨#[]⟩] 24)).heap.size by simp [hfb]]; exact heap_alloc_new _ _
  go_enter Tryz.func80, Tryz.ntmps80
  go_wp2_with fail
  rw [← hw0]
  clear hw0 h
  refine (kept_any _).mono ?_
  rintro e w1 ⟨rfl, hb1⟩
  go_wp2_with fail
  refine (rsized2 r s a f _ (hS0.below hb1).rd ha hs).mono ?_
  rintro e w2 ⟨k, a1, f1, rfl, H1, ha1, hk, hr2, hm2⟩
  have hS2 := (hS0.below hb1).move hr2 hm2
  clear hr2 hm2 hb1 hS0
  have c20 : w2.cell? ⟨fb + 1 + 1, 0, none⟩ = some (.string ⟨#[]⟩) := Lib.cell_of_heap hS2.nb 0
  have f20 : w2.frozen? ⟨fb + 1 + 1, 0, none⟩ = false := frozen_of_heap hS2.nb
  go_wp2_with fail
  obtain ⟨w3, hw3⟩ : ∃ w3, w3 = w2.setCell ⟨fb + 1 + 1, 0, none⟩ (.string k) := ⟨_, rfl⟩
  have hS3 : ST w fb r n s a1 f1 k ⟨#[]⟩ ⟨#[]⟩ ⟨#[]⟩ w3 := by rw [hw3]; exact hS2.s0 k
  rw [← hw3]
  clear hw3 hS2 c20 f20
  refine (kept_any _).mono ?_
  rintro e w4 ⟨rfl, hb4⟩
  go_wp2_with fail
  refine (rsized2 r s a1 f1 _ (hS3.below hb4).rd ha1 hs).mono ?_
  rintro e w5 ⟨v, a2, f2, rfl, H2, ha2, hv, hr5, hm5⟩
  have hS5 := (hS3.below hb4).move hr5 hm5
  clear hr5 hm5 hb4 hS3
  have c51 : w5.cell? ⟨fb + 1 + 1, 1, none⟩ = some (.string ⟨#[]⟩) := Lib.cell_of_heap hS5.nb 1
  have f51 : w5.frozen? ⟨fb + 1 + 1, 1, none⟩ = false := frozen_of_heap hS5.nb
  go_wp2_with fail
  obtain ⟨w6, hw6⟩ : ∃ w6, w6 = w5.setCell ⟨fb + 1 + 1, 1, none⟩ (.string v) := ⟨_, rfl⟩
  have hS6 : ST w fb r n s a2 f2 k v ⟨#[]⟩ ⟨#[]⟩ w6 := by rw [hw6]; exact hS5.s1 v
  rw [← hw6]
  clear hw6 hS5 c51 f51
  refine (rint1 r s a2 f2 _ hS6.rd ha2 hs).mono ?_
  rintro e w7 ⟨fl, t3, a3, f3, rfl, H3, HV, ha3, hfl, hr7, hm7⟩
  have hS7 := hS6.move hr7 hm7
  clear hr7 hm7 hS6
  obtain ⟨b1, hb1⟩ : ∃ b, fl &&& 1 = b := ⟨_, rfl⟩
  obtain ⟨b2, hb2⟩ : ∃ b, fl &&& 2 = b := ⟨_, rfl⟩
  have g1 : bits .and .i64 (fl : Int) 1 = (b1 : Int) := by rw [← hb1]; exact i64_and_nat fl 1 hfl (by omega)
  have g2 : bits .and .i64 (fl : Int) 2 = (b2 : Int) := by rw [← hb2]; exact i64_and_nat fl 2 hfl (by omega)
  have d7 : w7.cell? ⟨fb, 0, none⟩ = some (.int .i64 (n : Int)) := Lib.cell_of_heap hS7.fc 0
  have HB : Hid (fl &&& 1 = b1 ∧ fl &&& 2 = b2) := ⟨hb1, hb2⟩
  clear hb1 hb2
  go_wp2_with fail
  refine (link_nat n b1 hn _).mono ?_
  rintro e w8 ⟨m1, rfl, hm1, HM1, hb8⟩
  have hS8 := hS7.below hb8
  clear hS7 hb8 d7
  go_wp2_with fail
  refine (rplain m1 r s a3 f3 _ hS8.rd ha3 hs (by omega)).mono ?_
  rintro e w9 ⟨l, a4, f4, rfl, H4, ha4, hl, hr9, hm9⟩
  have hS9 := hS8.move hr9 hm9
  clear hr9 hm9 hS8
  have c92 : w9.cell? ⟨fb + 1 + 1, 2, none⟩ = some (.string ⟨#[]⟩) := Lib.cell_of_heap hS9.nb 2
  have f92 : w9.frozen? ⟨fb + 1 + 1, 2, none⟩ = false := frozen_of_heap hS9.nb
  have d9 : ∀ y, (w9.setCell ⟨fb + 1 + 1, 2, none⟩ y).cell? ⟨fb, 0, none⟩ = some (.int .i64 (n : Int)) := fun y => Lib.cell_of_heap (set_other hS9.fc (by omega)) 0
  go_wp2_with fail
  obtain ⟨w10, hw10⟩ : ∃ w10, w10 = w9.setCell ⟨fb + 1 + 1, 2, none⟩ (.string l) := ⟨_, rfl⟩
  have hS10 : ST w fb r n s a4 f4 k v l ⟨#[]⟩ w10 := by rw [hw10]; exact hS9.s2 l
  rw [← hw10]
  clear hw10 hS9 c92 f92 d9
  refine (link_nat n b2 hn _).mono ?_
  rintro e w11 ⟨m2, rfl, hm2, HM2, hb11⟩
  have hS11 := hS10.below hb11
  clear hS10 hb11
  go_wp2_with fail
  refine (rplain m2 r s a4 f4 _ hS11.rd ha4 hs (by omega)).mono ?_
  rintro e w12 ⟨x, a5, f5, rfl, H5, ha5, hx, hr12, hm12⟩
  have hS12 := hS11.move hr12 hm12
  clear hr12 hm12 hS11
  have c123 : w12.cell? ⟨fb + 1 + 1, 3, none⟩ = some (.string ⟨#[]⟩) := Lib.cell_of_heap hS12.nb 3
  have f123 : w12.frozen? ⟨fb + 1 + 1, 3, none⟩ = false := frozen_of_heap hS12.nb
  obtain ⟨w13, hw13⟩ : ∃ w13, w13 = w12.setCell ⟨fb + 1 + 1, 3, none⟩ (.string x) := ⟨_, rfl⟩
  have hS13 : ST w fb r n s a5 f5 k v l x w13 := by rw [hw13]; exact hS12.s3 x
  have HNR : Hid (∀ f', f' = (f5 || (decide (3 < fl) || !nodeOk k.size v.size l.size x.size (n : Int))) → NR n s a f k v l x a5 f') := by
    intro f' hf'
    refine ⟨a1, f1, a2, f2, fl, t3, a3, f3, a4, f4, f5, H1.out, H2.out, H3.out, HV.out, ?_, ?_, hf'⟩
    · rw [HB.out.1, ← HM1.out]; exact H4.out
    · rw [HB.out.2, ← HM2.out]; exact H5.out
  have p0 : w12.cell? ⟨fb + 1 + 1, 0, none⟩ = some (.string k) := Lib.cell_of_heap hS12.nb 0
  have p1 : w12.cell? ⟨fb + 1 + 1, 1, none⟩ = some (.string v) := Lib.cell_of_heap hS12.nb 1
  have p2 : w12.cell? ⟨fb + 1 + 1, 2, none⟩ = some (.string l) := Lib.cell_of_heap hS12.nb 2
  have q0 : w12.cell? ⟨fb, 0, none⟩ = some (.int .i64 (n : Int)) := Lib.cell_of_heap hS12.fc 0
  clear hS12 H1 H2 H3 H4 H5 HM1 HM2 HB HV g1 g2
  obtain ⟨z, hz⟩ : ∃ z, nodeOk k.size v.size l.size x.size (n : Int) = z := ⟨_, rfl⟩
  have HVn : Hid (∀ w', Calls Tryz.prog 21 #[nodeV k v l x, .int .i64 (n : Int)] w' fun e w'' => e = .returned (.bool z) ∧ Below w'.heap.size w' w'') := fun w' => by rw [← hz]; exact valid_any k v l x n w' (by omega) (by omega) (by omega) (by omega)
  rw [hz] at HNR
  clear hz
  have c0 : w13.cell? ⟨fb + 1 + 1, 0, none⟩ = some (.string k) := Lib.cell_of_heap hS13.nb 0
  have c1 : w13.cell? ⟨fb + 1 + 1, 1, none⟩ = some (.string v) := Lib.cell_of_heap hS13.nb 1
  have c2 : w13.cell? ⟨fb + 1 + 1, 2, none⟩ = some (.string l) := Lib.cell_of_heap hS13.nb 2
  have c3 : w13.cell? ⟨fb + 1 + 1, 3, none⟩ = some (.string x) := Lib.cell_of_heap hS13.nb 3
  have d0 : w13.cell? ⟨fb, 0, none⟩ = some (.int .i64 (n : Int)) := Lib.cell_of_heap hS13.fc 0
  have HEnd : Hid (∀ (W : World) (f' : Bool), f' = (f5 || (decide (3 < fl) || !z)) → ST w fb r n s a5 f' k v l x W → ∀ (A : Act), A.tmps.getD 4 undef = .pointer (some ⟨fb + 1, 0, none⟩) → A.defers = [] →
      bodyPost Tryz.prog Tryz.f80 (fun e w' => ∃ (k v l x : ByteArray) (a' : Nat) (f' : Bool), e = .returned (nodeV k v l x) ∧ Hid (NR n s a f k v l x a' f') ∧ a' ≤ s.size ∧ k.size ≤ s.size ∧ v.size ≤ s.size ∧ l.size ≤ s.size ∧ x.size ≤ s.size ∧ Rd r s a' f' w' ∧ Mv r w w') .ret A
        ((((W.setCell ⟨fb + 1, 0, none⟩ (.string k)).setCell ⟨fb + 1, 1, none⟩ (.string v)).setCell ⟨fb + 1, 2, none⟩ (.string l)).setCell ⟨fb + 1, 3, none⟩ (.string x))) := by
    intro W f' hf' hS A h4 hd
    have hF := hS.fin
    exact ret59 hF.1 h4 hd ⟨k, v, l, x, a5, f', rfl, HNR.out f' hf', ha5, hk, hv, hl, hx, hF.2.1, hF.2.2⟩
  by_cases h3 : 3 < fl
  · have z3 : decide ((3 : Int) < (fl : Int)) = true := by simp; omega
    go_wp2_with fail
    rw [← hw13]
    refine (fail_any r s a5 f5 _ hS13.rd).mono ?_
    rintro e w14 ⟨rfl, hr14, hm14⟩
    have hS14 := hS13.move hr14 hm14
    have HFin := HEnd.out w14 true (by rw [decide_eq_true h3]; simp) hS14
    have r0 : w14.cell? ⟨fb + 1 + 1, 0, none⟩ = some (.string k) := Lib.cell_of_heap hS14.nb 0
    have r1 : w14.cell? ⟨fb + 1 + 1, 1, none⟩ = some (.string v) := Lib.cell_of_heap hS14.nb 1
    have r2 : w14.cell? ⟨fb + 1 + 1, 2, none⟩ = some (.string l) := Lib.cell_of_heap hS14.nb 2
    have r3 : w14.cell? ⟨fb + 1 + 1, 3, none⟩ = some (.string x) := Lib.cell_of_heap hS14.nb 3
    have s0 : w14.cell? ⟨fb + 1, 0, none⟩ = some (.string ⟨#[]⟩) := Lib.cell_of_heap hS14.rb 0
    have s1 : w14.cell? ⟨fb + 1, 1, none⟩ = some (.string ⟨#[]⟩) := Lib.cell_of_heap hS14.rb 1
    have s2 : w14.cell? ⟨fb + 1, 2, none⟩ = some (.string ⟨#[]⟩) := Lib.cell_of_heap hS14.rb 2
    have s3 : w14.cell? ⟨fb + 1, 3, none⟩ = some (.string ⟨#[]⟩) := Lib.cell_of_heap hS14.rb 3
    have u0 : w14.frozen? ⟨fb + 1, 0, none⟩ = false := frozen_of_heap hS14.rb
    have u1 : w14.frozen? ⟨fb + 1, 1, none⟩ = false := frozen_of_heap hS14.rb
    have u2 : w14.frozen? ⟨fb + 1, 2, none⟩ = false := frozen_of_heap hS14.rb
    have u3 : w14.frozen? ⟨fb + 1, 3, none⟩ = false := frozen_of_heap hS14.rb
    have HFinH : Hid (∀ (A : Act), A.tmps.getD 4 undef = .pointer (some ⟨fb + 1, 0, none⟩) → A.defers = [] → _) := HFin
    clear HFin HEnd HNR HVn hS13 hS14 hr14 hm14 c0 c1 c2 c3 d0 p0 p1 p2 q0 hw13 c123 f123
    go_wp2_with fail
    exact HFinH.out _ rfl rfl
  · have z3 : decide ((3 : Int) < (fl : Int)) = false := by simp; omega
    go_wp2_with fail
    rw [← hw13]
    refine (HVn.out _).mono ?_
    rintro e w14 ⟨rfl, hb14⟩
    have hS14 := hS13.below hb14
    clear hb14 hS13 HVn HNR c0 c1 c2 c3 d0 p0 p1 p2 q0 hw13 c123 f123
    cases z
    · go_wp2_with fail
      refine (fail_any r s a5 f5 _ hS14.rd).mono ?_
      rintro e w15 ⟨rfl, hr15, hm15⟩
      have hS15 := hS14.move hr15 hm15
      have HFinH : Hid (∀ (A : Act), A.tmps.getD 4 undef = .pointer (some ⟨fb + 1, 0, none⟩) → A.defers = [] → _) := HEnd.out w15 true (by simp) hS15
      clear HEnd hr15 hm15 hS14
      have r0 : w15.cell? ⟨fb + 1 + 1, 0, none⟩ = some (.string k) := Lib.cell_of_heap hS15.nb 0
      have r1 : w15.cell? ⟨fb + 1 + 1, 1, none⟩ = some (.string v) := Lib.cell_of_heap hS15.nb 1
      have r2 : w15.cell? ⟨fb + 1 + 1, 2, none⟩ = some (.string l) := Lib.cell_of_heap hS15.nb 2
      have r3 : w15.cell? ⟨fb + 1 + 1, 3, none⟩ = some (.string x) := Lib.cell_of_heap hS15.nb 3
      have s0 : w15.cell? ⟨fb + 1, 0, none⟩ = some (.string ⟨#[]⟩) := Lib.cell_of_heap hS15.rb 0
      have s1 : w15.cell? ⟨fb + 1, 1, none⟩ = some (.string ⟨#[]⟩) := Lib.cell_of_heap hS15.rb 1
      have s2 : w15.cell? ⟨fb + 1, 2, none⟩ = some (.string ⟨#[]⟩) := Lib.cell_of_heap hS15.rb 2
      have s3 : w15.cell? ⟨fb + 1, 3, none⟩ = some (.string ⟨#[]⟩) := Lib.cell_of_heap hS15.rb 3
      have u0 : w15.frozen? ⟨fb + 1, 0, none⟩ = false := frozen_of_heap hS15.rb
      have u1 : w15.frozen? ⟨fb + 1, 1, none⟩ = false := frozen_of_heap hS15.rb
      have u2 : w15.frozen? ⟨fb + 1, 2, none⟩ = false := frozen_of_heap hS15.rb
      have u3 : w15.frozen? ⟨fb + 1, 3, none⟩ = false := frozen_of_heap hS15.rb
      clear hS15
      go_wp2_with fail
      exact HFinH.out _ rfl rfl
    · have HFinH : Hid (∀ (A : Act), A.tmps.getD 4 undef = .pointer (some ⟨fb + 1, 0, none⟩) → A.defers = [] → _) := HEnd.out w14 f5 (by rw [decide_eq_false h3]; simp) hS14
      clear HEnd
      have r0 : w14.cell? ⟨fb + 1 + 1, 0, none⟩ = some (.string k) := Lib.cell_of_heap hS14.nb 0
      have r1 : w14.cell? ⟨fb + 1 + 1, 1, none⟩ = some (.string v) := Lib.cell_of_heap hS14.nb 1
      have r2 : w14.cell? ⟨fb + 1 + 1, 2, none⟩ = some (.string l) := Lib.cell_of_heap hS14.nb 2
      have r3 : w14.cell? ⟨fb + 1 + 1, 3, none⟩ = some (.string x) := Lib.cell_of_heap hS14.nb 3
      have s0 : w14.cell? ⟨fb + 1, 0, none⟩ = some (.string ⟨#[]⟩) := Lib.cell_of_heap hS14.rb 0
      have s1 : w14.cell? ⟨fb + 1, 1, none⟩ = some (.string ⟨#[]⟩) := Lib.cell_of_heap hS14.rb 1
      have s2 : w14.cell? ⟨fb + 1, 2, none⟩ = some (.string ⟨#[]⟩) := Lib.cell_of_heap hS14.rb 2
      have s3 : w14.cell? ⟨fb + 1, 3, none⟩ = some (.string ⟨#[]⟩) := Lib.cell_of_heap hS14.rb 3
      have u0 : w14.frozen? ⟨fb + 1, 0, none⟩ = false := frozen_of_heap hS14.rb
      have u1 : w14.frozen? ⟨fb + 1, 1, none⟩ = false := frozen_of_heap hS14.rb
      have u2 : w14.frozen? ⟨fb + 1, 2, none⟩ = false := frozen_of_heap hS14.rb
      have u3 : w14.frozen? ⟨fb + 1, 3, none⟩ = false := frozen_of_heap hS14.rb
      clear hS14
      go_wp2_with fail
      exact HFinH.out _ rfl rfl
end Go.Proofs.YtngnbflkiiehmaaGreatDoor
namespace Go.Proofs.YtngnbflkiiehmaaGreatDoor
open Go.RowKit Go.Proofs.Sha

theorem fin4 {w W : World} {fb r : Nat} {s : ByteArray} {a : Nat} {f : Bool} {y0 y1 y2 y3 k v l x : ByteArray} (hb : NB fb y0 y1 y2 y3 W) (hr : Rd r s a f W) (hm : Mv r w W) (hsz : w.heap.size = fb) (hl : r < fb) :
    NB fb k v l x ((((W.setCell ⟨fb, 0, none⟩ (.string k)).setCell ⟨fb, 1, none⟩ (.string v)).setCell ⟨fb, 2, none⟩ (.string l)).setCell ⟨fb, 3, none⟩ (.string x)) ∧
    Rd r s a f ((((W.setCell ⟨fb, 0, none⟩ (.string k)).setCell ⟨fb, 1, none⟩ (.string v)).setCell ⟨fb, 2, none⟩ (.string l)).setCell ⟨fb, 3, none⟩ (.string x)) ∧
    Mv r w ((((W.setCell ⟨fb, 0, none⟩ (.string k)).setCell ⟨fb, 1, none⟩ (.string v)).setCell ⟨fb, 2, none⟩ (.string l)).setCell ⟨fb, 3, none⟩ (.string x)) :=
  ⟨(((hb.s0 k).s1 v).s2 l).s3 x, (((hr.other (by omega)).other (by omega)).other (by omega)).other (by omega), (((hm.other hsz (by omega)).other hsz (by omega)).other hsz (by omega)).other hsz (by omega)⟩
theorem ret36 {w : World} {g : Nat} {k v l r : ByteArray} (h : NB g k v l r w) {a : Act} {R : Ending → World → Prop} (h4 : a.tmps.getD 4 undef = .pointer (some ⟨g, 0, none⟩)) (hd : a.defers = [])
    (hR : R (.returned (nodeV k v l r)) w) : bodyPost Tryz.prog Tryz.f46 R .ret a w := by
  have c0 : w.cell? ⟨g, 0, none⟩ = some (.string k) := Lib.cell_of_heap h 0
  have c1 : w.cell? ⟨g, 1, none⟩ = some (.string v) := Lib.cell_of_heap h 1
  have c2 : w.cell? ⟨g, 2, none⟩ = some (.string l) := Lib.cell_of_heap h 2
  have c3 : w.cell? ⟨g, 3, none⟩ = some (.string r) := Lib.cell_of_heap h 3
  have h4' : a.tmps[4]?.getD undef = .pointer (some ⟨g, 0, none⟩) := by simpa using h4
  exact bodyPost_ret (v := nodeV k v l r) (by simp [results, Tryz.results46, go_sem, h4', asAddr, c0, c1, c2, c3]) hd hR

set_option maxRecDepth 100000 in
theorem rnode (n : Nat) (r : Nat) (s : ByteArray) (a : Nat) (f : Bool) (w : World) (h : Rd r s a f w) (ha : a ≤ s.size) (hs : s.size ≤ 1048576) (hn : n ≤ 32) :
    Calls Tryz.prog 46 #[.pointer (some ⟨r, 0, none⟩), .iface 49 (.agg #[.int .i64 (n : Int)])] w fun e w' => ∃ (k v l x : ByteArray) (a' : Nat) (f' : Bool), e = .returned (if f' = true then nodeV ⟨#[]⟩ ⟨#[]⟩ ⟨#[]⟩ ⟨#[]⟩ else nodeV k v l x) ∧ Hid (NR n s a f k v l x a' f') ∧ a' ≤ s.size ∧ Rd r s a' f' w' ∧ Mv r w w' := by
  have hmt : ∀ w : World, (method 292 49 (.agg #[.int .i64 (n : Int)]) "loop.example/s03048/impl.take").run Tryz.prog w = .ok (80, .agg #[.int .i64 (n : Int)]) w := fun _ => by kernel_rfl
  have HC : Hid (∀ w', Rd r s a f w' → Calls Tryz.prog 80 #[.agg #[.int .i64 (n : Int)], .pointer (some ⟨r, 0, none⟩)] w' fun e w'' => ∃ (k v l x : ByteArray) (a' : Nat) (f' : Bool), e = .returned (nodeV k v l x) ∧ Hid (NR n s a f k v l x a' f') ∧ a' ≤ s.size ∧ k.size ≤ s.size ∧ v.size ≤ s.size ∧ l.size ≤ s.size ∧ x.size ≤ s.size ∧ Rd r s a' f' w'' ∧ Mv r w' w'') := fun w' h' => node_take n r s a f w' h' ha hs hn
  have hlt := h.lt
  obtain ⟨fb, hfb⟩ : ∃ fb, w.heap.size = fb := ⟨_, rfl⟩
  go_enter Tryz.func46, Tryz.ntmps46
  go_wp2_with fail
  refine (HC.out _ (h.alloc _)).mono ?_
  rintro e w1 ⟨k, v, l, x, a', f', rfl, HNR, ha', hk, hv, hl, hx, hr1, hm1⟩
  have hn1 : NB fb ⟨#[]⟩ ⟨#[]⟩ ⟨#[]⟩ ⟨#[]⟩ w1 := by rw [← hfb]; exact hm1.cells (heap_alloc_new _ _) (by omega)
  have hmw : Mv r w w1 := ((Mv.refl r w).alloc _).trans hm1
  have A1 : ∀ o, (w1.alloc o).heap[r]? = some (.cells #[.string s, .int .i64 (a' : Int), .bool f'] 61) := fun o => hr1.alloc o
  have B1 : ∀ o, NB fb ⟨#[]⟩ ⟨#[]⟩ ⟨#[]⟩ ⟨#[]⟩ (w1.alloc o) := fun o => below_cells ((Below.refl _ _).alloc (Nat.le_refl _) _) hn1
  have B2 : ∀ o o', NB fb ⟨#[]⟩ ⟨#[]⟩ ⟨#[]⟩ ⟨#[]⟩ ((w1.alloc o).alloc o') := fun o o' => below_cells ((Below.refl _ _).alloc (Nat.le_refl _) _) (B1 o)
  have e1 : ∀ o, (w1.alloc o).cell? ⟨r, 2, none⟩ = some (.bool f') := fun o => Lib.cell_of_heap (A1 o) 2
  have b0 : ∀ o, (w1.alloc o).cell? ⟨fb, 0, none⟩ = some (.string ⟨#[]⟩) := fun o => Lib.cell_of_heap (B1 o) 0
  have d0 : ∀ o, (w1.alloc o).frozen? ⟨fb, 0, none⟩ = false := fun o => frozen_of_heap (B1 o)
  have p0 : ∀ o o', ((w1.alloc o).alloc o').cell? ⟨fb, 0, none⟩ = some (.string ⟨#[]⟩) := fun o o' => Lib.cell_of_heap (B2 o o') 0
  have q0 : ∀ o o', ((w1.alloc o).alloc o').frozen? ⟨fb, 0, none⟩ = false := fun o o' => frozen_of_heap (B2 o o')
  have b1 : ∀ o, (w1.alloc o).cell? ⟨fb, 1, none⟩ = some (.string ⟨#[]⟩) := fun o => Lib.cell_of_heap (B1 o) 1
  have d1 : ∀ o, (w1.alloc o).frozen? ⟨fb, 1, none⟩ = false := fun o => frozen_of_heap (B1 o)
  have p1 : ∀ o o', ((w1.alloc o).alloc o').cell? ⟨fb, 1, none⟩ = some (.string ⟨#[]⟩) := fun o o' => Lib.cell_of_heap (B2 o o') 1
  have q1 : ∀ o o', ((w1.alloc o).alloc o').frozen? ⟨fb, 1, none⟩ = false := fun o o' => frozen_of_heap (B2 o o')
  have b2 : ∀ o, (w1.alloc o).cell? ⟨fb, 2, none⟩ = some (.string ⟨#[]⟩) := fun o => Lib.cell_of_heap (B1 o) 2
  have d2 : ∀ o, (w1.alloc o).frozen? ⟨fb, 2, none⟩ = false := fun o => frozen_of_heap (B1 o)
  have p2 : ∀ o o', ((w1.alloc o).alloc o').cell? ⟨fb, 2, none⟩ = some (.string ⟨#[]⟩) := fun o o' => Lib.cell_of_heap (B2 o o') 2
  have q2 : ∀ o o', ((w1.alloc o).alloc o').frozen? ⟨fb, 2, none⟩ = false := fun o o' => frozen_of_heap (B2 o o')
  have b3 : ∀ o, (w1.alloc o).cell? ⟨fb, 3, none⟩ = some (.string ⟨#[]⟩) := fun o => Lib.cell_of_heap (B1 o) 3
  have d3 : ∀ o, (w1.alloc o).frozen? ⟨fb, 3, none⟩ = false := fun o => frozen_of_heap (B1 o)
  have p3 : ∀ o o', ((w1.alloc o).alloc o').cell? ⟨fb, 3, none⟩ = some (.string ⟨#[]⟩) := fun o o' => Lib.cell_of_heap (B2 o o') 3
  have q3 : ∀ o o', ((w1.alloc o).alloc o').frozen? ⟨fb, 3, none⟩ = false := fun o o' => frozen_of_heap (B2 o o')
  have HA : Hid (∀ o, (w1.alloc o).heap[r]? = some (.cells #[.string s, .int .i64 (a' : Int), .bool f'] 61)) := A1
  have HB1 : Hid (∀ o, NB fb ⟨#[]⟩ ⟨#[]⟩ ⟨#[]⟩ ⟨#[]⟩ (w1.alloc o)) := B1
  have HB2 : Hid (∀ o o', NB fb ⟨#[]⟩ ⟨#[]⟩ ⟨#[]⟩ ⟨#[]⟩ ((w1.alloc o).alloc o')) := B2
  clear A1 B1 B2 hn1 hm1 HC hr1
  cases f'
  · go_wp2_with fail
    have hF := fun o => fin4 (k := k) (v := v) (l := l) (x := x) (HB1.out o) (HA.out o) (hmw.alloc o) hfb (by omega)
    exact ret36 (hF _).1 rfl rfl ⟨k, v, l, x, a', false, rfl, HNR, ha', (hF _).2.1, (hF _).2.2⟩
  · go_wp2_with fail
    have hF := fun o o' => fin4 (k := ⟨#[]⟩) (v := ⟨#[]⟩) (l := ⟨#[]⟩) (x := ⟨#[]⟩) (HB2.out o o') (Rd.alloc (HA.out o) o') ((hmw.alloc o).alloc o') hfb (by omega)
    exact ret36 (hF _ _).1 rfl rfl ⟨k, v, l, x, a', true, rfl, HNR, ha', (hF _ _).2.1, (hF _ _).2.2⟩

end Go.Proofs.YtngnbflkiiehmaaGreatDoor
namespace Go.Proofs.YtngnbflkiiehmaaGreatDoor
open Go.RowKit Go.Proofs.Sha

theorem ret24 {w : World} {g : Nat} {k v l r : ByteArray} (h : NB g k v l r w) {a : Act} {R : Ending → World → Prop} (b : Bool) (h4 : a.tmps.getD 4 undef = .pointer (some ⟨g, 0, none⟩)) (h5 : a.tmps.getD 5 undef = .bool b) (hd : a.defers = [])
    (hR : R (.returned (.tuple #[nodeV k v l r, .bool b])) w) : bodyPost Tryz.prog Tryz.f28 R .ret a w := by
  have c0 : w.cell? ⟨g, 0, none⟩ = some (.string k) := Lib.cell_of_heap h 0
  have c1 : w.cell? ⟨g, 1, none⟩ = some (.string v) := Lib.cell_of_heap h 1
  have c2 : w.cell? ⟨g, 2, none⟩ = some (.string l) := Lib.cell_of_heap h 2
  have c3 : w.cell? ⟨g, 3, none⟩ = some (.string r) := Lib.cell_of_heap h 3
  have h4' : a.tmps[4]?.getD undef = .pointer (some ⟨g, 0, none⟩) := by simpa using h4
  have h5' : a.tmps[5]?.getD undef = .bool b := by simpa using h5
  exact bodyPost_ret (v := .tuple #[nodeV k v l r, .bool b]) (by simp [results, Tryz.results28, go_sem, h4', h5', asAddr, c0, c1, c2, c3]) hd hR
/-- What readWhole of a node answers. -/
def wholeV (s : ByteArray) (k v l x : ByteArray) (a' : Nat) (f' : Bool) : Value := if f' = false ∧ a' = s.size then .tuple #[nodeV k v l x, .bool true] else .tuple #[nodeV ⟨#[]⟩ ⟨#[]⟩ ⟨#[]⟩ ⟨#[]⟩, .bool false]

set_option maxRecDepth 100000 in
set_option maxHeartbeats 1000000 in
theorem whole_node (n : Nat) (s : ByteArray) (w : World) (hs : s.size ≤ 1048576) (hn : n ≤ 32) :
    Calls Tryz.prog 28 #[.string s, .iface 49 (.agg #[.int .i64 (n : Int)])] w fun e w' => ∃ (k v l x : ByteArray) (a' : Nat) (f' : Bool), e = .returned (wholeV s k v l x a' f') ∧ Hid (NR n s 0 false k v l x a' f') ∧ a' ≤ s.size ∧ Below w.heap.size w w' := by
  obtain ⟨fb, hfb⟩ : ∃ fb, w.heap.size = fb := ⟨_, rfl⟩
  obtain ⟨w0, hw0⟩ : ∃ w0, w0 = (w.alloc (.cells #[.string ⟨#[]⟩, .string ⟨#[]⟩, .string ⟨#[]⟩, .string ⟨#[]⟩] 24)).alloc (.cells #[.string s, .int .i64 0, .bool false] 61) := ⟨_, rfl⟩
  have hr0 : Rd (fb + 1) s 0 false w0 := by
    rw [hw0]; unfold Rd; rw [show fb + 1 = (w.alloc (.cells #[.string ⟨#[]⟩, .string ⟨#[]⟩, .string ⟨#[]⟩, .string ⟨#[]⟩] 24)).heap.size by simp [hfb]]; exact heap_alloc_new _ _
  have hn0 : NB fb ⟨#[]⟩ ⟨#[]⟩ ⟨#[]⟩ ⟨#[]⟩ w0 := by
    rw [hw0]; exact below_cells ((Below.refl _ _).alloc (Nat.le_refl _) _) (by rw [← hfb]; exact heap_alloc_new _ _)
  have hb0 : Below fb w w0 := by rw [hw0]; exact ((Below.refl _ _).alloc (by omega) _).alloc (by simp; omega) _
  have hs0 : w0.heap.size = fb + 2 := by rw [hw0]; simp [hfb]
  go_enter Tryz.func28, Tryz.ntmps28
  go_wp2_with fail
  rw [← hw0]
  clear hw0
  refine (rnode n (fb + 1) s 0 false _ hr0 (by omega) hs hn).mono ?_
  rintro e w1 ⟨k, v, l, x, a', f', he, HNR, ha', hr1, hm1⟩
  have hn1 : NB fb ⟨#[]⟩ ⟨#[]⟩ ⟨#[]⟩ ⟨#[]⟩ w1 := hm1.cells hn0 (by omega)
  have hb1 : Below fb w w1 := hb0.trans (hm1.to_below (by omega) (by omega))
  have A1 : ∀ o, (w1.alloc o).heap[fb + 1]? = some (.cells #[.string s, .int .i64 (a' : Int), .bool f'] 61) := fun o => hr1.alloc o
  have B1 : ∀ o, NB fb ⟨#[]⟩ ⟨#[]⟩ ⟨#[]⟩ ⟨#[]⟩ (w1.alloc o) := fun o => below_cells ((Below.refl _ _).alloc (Nat.le_refl _) _) hn1
  have B2 : ∀ o o', NB fb ⟨#[]⟩ ⟨#[]⟩ ⟨#[]⟩ ⟨#[]⟩ ((w1.alloc o).alloc o') := fun o o' => below_cells ((Below.refl _ _).alloc (Nat.le_refl _) _) (B1 o)
  have e1 : ∀ o, (w1.alloc o).cell? ⟨fb + 1, 1, none⟩ = some (.int .i64 (a' : Int)) := fun o => Lib.cell_of_heap (A1 o) 1
  have e2 : ∀ o, (w1.alloc o).cell? ⟨fb + 1, 2, none⟩ = some (.bool f') := fun o => Lib.cell_of_heap (A1 o) 2
  have b0 : ∀ o, (w1.alloc o).cell? ⟨fb, 0, none⟩ = some (.string ⟨#[]⟩) := fun o => Lib.cell_of_heap (B1 o) 0
  have d0 : ∀ o, (w1.alloc o).frozen? ⟨fb, 0, none⟩ = false := fun o => frozen_of_heap (B1 o)
  have p0 : ∀ o o', ((w1.alloc o).alloc o').cell? ⟨fb, 0, none⟩ = some (.string ⟨#[]⟩) := fun o o' => Lib.cell_of_heap (B2 o o') 0
  have q0 : ∀ o o', ((w1.alloc o).alloc o').frozen? ⟨fb, 0, none⟩ = false := fun o o' => frozen_of_heap (B2 o o')
  have b1 : ∀ o, (w1.alloc o).cell? ⟨fb, 1, none⟩ = some (.string ⟨#[]⟩) := fun o => Lib.cell_of_heap (B1 o) 1
  have d1 : ∀ o, (w1.alloc o).frozen? ⟨fb, 1, none⟩ = false := fun o => frozen_of_heap (B1 o)
  have p1 : ∀ o o', ((w1.alloc o).alloc o').cell? ⟨fb, 1, none⟩ = some (.string ⟨#[]⟩) := fun o o' => Lib.cell_of_heap (B2 o o') 1
  have q1 : ∀ o o', ((w1.alloc o).alloc o').frozen? ⟨fb, 1, none⟩ = false := fun o o' => frozen_of_heap (B2 o o')
  have b2 : ∀ o, (w1.alloc o).cell? ⟨fb, 2, none⟩ = some (.string ⟨#[]⟩) := fun o => Lib.cell_of_heap (B1 o) 2
  have d2 : ∀ o, (w1.alloc o).frozen? ⟨fb, 2, none⟩ = false := fun o => frozen_of_heap (B1 o)
  have p2 : ∀ o o', ((w1.alloc o).alloc o').cell? ⟨fb, 2, none⟩ = some (.string ⟨#[]⟩) := fun o o' => Lib.cell_of_heap (B2 o o') 2
  have q2 : ∀ o o', ((w1.alloc o).alloc o').frozen? ⟨fb, 2, none⟩ = false := fun o o' => frozen_of_heap (B2 o o')
  have b3 : ∀ o, (w1.alloc o).cell? ⟨fb, 3, none⟩ = some (.string ⟨#[]⟩) := fun o => Lib.cell_of_heap (B1 o) 3
  have d3 : ∀ o, (w1.alloc o).frozen? ⟨fb, 3, none⟩ = false := fun o => frozen_of_heap (B1 o)
  have p3 : ∀ o o', ((w1.alloc o).alloc o').cell? ⟨fb, 3, none⟩ = some (.string ⟨#[]⟩) := fun o o' => Lib.cell_of_heap (B2 o o') 3
  have q3 : ∀ o o', ((w1.alloc o).alloc o').frozen? ⟨fb, 3, none⟩ = false := fun o o' => frozen_of_heap (B2 o o')
  have HB1 : Hid (∀ o, NB fb ⟨#[]⟩ ⟨#[]⟩ ⟨#[]⟩ ⟨#[]⟩ (w1.alloc o)) := B1
  have HB2 : Hid (∀ o o', NB fb ⟨#[]⟩ ⟨#[]⟩ ⟨#[]⟩ ⟨#[]⟩ ((w1.alloc o).alloc o')) := B2
  have hsz1 : fb ≤ w1.heap.size := by have := hm1.size; omega
  clear A1 B1 B2 hn1 hm1 hr1 hr0 hn0 hb0 hs0
  have HBl1 : Hid (∀ o (x0 x1 x2 x3 : Value), Below w.heap.size w (((((w1.alloc o).setCell ⟨fb, 0, none⟩ x0).setCell ⟨fb, 1, none⟩ x1).setCell ⟨fb, 2, none⟩ x2).setCell ⟨fb, 3, none⟩ x3)) := fun o x0 x1 x2 x3 => by
    rw [hfb]; exact (((((hb1.alloc hsz1 o).setCell (Nat.le_refl _) _).setCell (Nat.le_refl _) _).setCell (Nat.le_refl _) _).setCell (Nat.le_refl _) _)
  have HBl2 : Hid (∀ o o' (x0 x1 x2 x3 : Value), Below w.heap.size w ((((((w1.alloc o).alloc o').setCell ⟨fb, 0, none⟩ x0).setCell ⟨fb, 1, none⟩ x1).setCell ⟨fb, 2, none⟩ x2).setCell ⟨fb, 3, none⟩ x3)) := fun o o' x0 x1 x2 x3 => by
    rw [hfb]; exact ((((((hb1.alloc hsz1 o).alloc (by simp; omega) o').setCell (Nat.le_refl _) _).setCell (Nat.le_refl _) _).setCell (Nat.le_refl _) _).setCell (Nat.le_refl _) _)
  clear hb1 hsz1
  cases f'
  · rw [if_neg (by simp)] at he
    subst he
    by_cases hlt : a' < s.size
    · have z1 : decide ((a' : Int) < (s.size : Int)) = true := by simp; omega
      go_wp2_with fail
      refine ret24 ((((HB2.out _ _).s0 _).s1 _).s2 _ |>.s3 _) false rfl rfl rfl ⟨k, v, l, x, a', false, ?_, HNR, ha', HBl2.out _ _ _ _ _ _⟩
      unfold wholeV; rw [if_neg (by omega)]
    · have z1 : decide ((a' : Int) < (s.size : Int)) = false := by simp; omega
      go_wp2_with fail
      refine ret24 ((((HB1.out _).s0 _).s1 _).s2 _ |>.s3 _) true rfl rfl rfl ⟨k, v, l, x, a', false, ?_, HNR, ha', HBl1.out _ _ _ _ _⟩
      unfold wholeV; rw [if_pos ⟨rfl, by omega⟩]
  · rw [if_pos rfl] at he
    subst he
    go_wp2_with fail
    refine ret24 ((((HB2.out _ _).s0 _).s1 _).s2 _ |>.s3 _) false rfl rfl rfl ⟨k, v, l, x, a', true, ?_, HNR, ha', HBl2.out _ _ _ _ _ _⟩
    unfold wholeV; rw [if_neg (by simp)]
end Go.Proofs.YtngnbflkiiehmaaGreatDoor
namespace Go.Proofs.YtngnbflkiiehmaaGreatDoor
open Go.RowKit Go.Proofs.Sha

theorem ex_list (s : ByteArray) (a n : Nat) : (s.extract a (a + n)).data.toList = (s.data.toList.drop a).take n := by
  conv => lhs; rw [← T_of s, T_extract]
  rw [T_data, Nat.add_sub_cancel_left]
theorem ex_size (s : ByteArray) (a n : Nat) (h : a + n ≤ s.size) : (s.extract a (a + n)).size = n := by
  rw [ByteArray.size_extract]; omega
theorem byteAt_ex (s : ByteArray) (a n i : Nat) (hi : i < n) : byteAt (s.extract a (a + n)) i = (s.data.toList.getD (a + i) 0).toNat := by
  unfold byteAt
  rw [ex_list, List.getD_eq_getElem?_getD, List.getD_eq_getElem?_getD, List.getElem?_take_of_lt hi, List.getElem?_drop]
theorem or_add (x y k : Nat) (h : y < 2 ^ k) : x * 2 ^ k ||| y = x * 2 ^ k + y := by
  rw [Nat.mul_comm, ← Nat.two_pow_add_eq_or_of_lt h]
theorem val1 (b : Nat → Nat) : valTo 1 false b 1 = b 0 := by simp [valTo]
theorem val2 (b : Nat → Nat) (hb : ∀ i, b i < 256) : valTo 2 false b 2 = b 0 * 256 + b 1 := by
  have e : valTo 2 false b 2 = b 0 * 2 ^ 8 ||| b 1 := by simp [valTo]
  rw [e, or_add _ _ 8 (hb 1)]
theorem val4 (b : Nat → Nat) (hb : ∀ i, b i < 256) : valTo 4 true b 4 = b 0 + b 1 * 256 + b 2 * 65536 + b 3 * 16777216 := by
  have h0 := hb 0; have h1 := hb 1; have h2 := hb 2
  have e : valTo 4 true b 4 = ((b 0 ||| b 1 * 2 ^ 8) ||| b 2 * 2 ^ 16) ||| b 3 * 2 ^ 24 := by simp [valTo]
  rw [e, Nat.or_comm (b 0), or_add _ _ 8 (by omega), Nat.or_comm _ (b 2 * 2 ^ 16), or_add _ _ 16 (by omega), Nat.or_comm _ (b 3 * 2 ^ 24), or_add _ _ 24 (by omega)]
  omega

theorem SX2 {s : ByteArray} {a : Nat} {f : Bool} {t : ByteArray} {a' : Nat} {f' : Bool} (h : SX 2 false s a f t a' f') :
    (f = false ∧ pieceOk s a ∧ t = s.extract (a + 2) (a + 2 + szAt s a) ∧ a' = a + 2 + szAt s a ∧ f' = false) ∨ ((f = true ∨ ¬ pieceOk s a) ∧ f' = true) := by
  obtain ⟨t1, a1, f1, h1, h2⟩ := h
  rcases h1 with ⟨hf, hle, ht1, ha1, hf1⟩ | ⟨hf, ht1, ha1, hf1⟩
  · have hv : valTo 2 false (byteAt t1) t1.size = szAt s a := by
      rw [ht1, ex_size s a 2 hle, val2 _ (byteAt_lt _), byteAt_ex s a 2 0 (by omega), byteAt_ex s a 2 1 (by omega)]
      rfl
    rw [hv] at h2
    rcases h2 with ⟨_, hle2, ht, ha', hf'⟩ | ⟨hf2, _, _, hf'⟩
    · subst ha1
      exact .inl ⟨hf, ⟨hle, hle2⟩, ht, ha', hf'⟩
    · subst ha1
      refine .inr ⟨.inr fun hp => ?_, hf'⟩
      rcases hf2 with h | h
      · rw [hf1] at h; cases h
      · exact h hp.2
  · rcases h2 with ⟨hf2, _⟩ | ⟨_, _, _, hf'⟩
    · rw [hf1] at hf2; cases hf2
    · refine .inr ⟨?_, hf'⟩
      rcases hf with h | h
      · exact .inl h
      · exact .inr fun hp => h hp.1
theorem NX1 {s : ByteArray} {a : Nat} {f : Bool} {t : ByteArray} {a' : Nat} {f' : Bool} (h : NX s a f 1 t a' f') :
    (f = false ∧ a + 1 ≤ s.size ∧ valTo 1 false (byteAt t) t.size = (s.data.toList.getD a 0).toNat ∧ a' = a + 1 ∧ f' = false) ∨ ((f = true ∨ ¬ a + 1 ≤ s.size) ∧ f' = true) := by
  rcases h with ⟨hf, hle, ht, ha', hf'⟩ | ⟨hf, _, _, hf'⟩
  · refine .inl ⟨hf, hle, ?_, ha', hf'⟩
    rw [ht, ex_size s a 1 hle, val1, byteAt_ex s a 1 0 (by omega)]
    rfl
  · exact .inr ⟨hf, hf'⟩

/-- Where every step goes through. -/
theorem NR.ok {n : Nat} {s k v l x : ByteArray} {a' : Nat} (h : NR n s 0 false k v l x a' false) :
    ∃ a1 a2 fl, pieceOk s 0 ∧ k = s.extract (0 + 2) (0 + 2 + szAt s 0) ∧ a1 = 0 + 2 + szAt s 0 ∧ pieceOk s a1 ∧ v = s.extract (a1 + 2) (a1 + 2 + szAt s a1) ∧ a2 = a1 + 2 + szAt s a1 ∧ a2 + 1 ≤ s.size ∧ fl = (s.data.toList.getD a2 0).toNat ∧
      a2 + 1 + (if fl &&& 1 = 0 then 0 else n) + (if fl &&& 2 = 0 then 0 else n) ≤ s.size ∧ l = s.extract (a2 + 1) (a2 + 1 + (if fl &&& 1 = 0 then 0 else n)) ∧
      x = s.extract (a2 + 1 + (if fl &&& 1 = 0 then 0 else n)) (a2 + 1 + (if fl &&& 1 = 0 then 0 else n) + (if fl &&& 2 = 0 then 0 else n)) ∧ a' = a2 + 1 + (if fl &&& 1 = 0 then 0 else n) + (if fl &&& 2 = 0 then 0 else n) ∧ fl ≤ 3 ∧ nodeOk k.size v.size l.size x.size (n : Int) = true := by
  obtain ⟨a1, f1, a2, f2, fl, t3, a3, f3, a4, f4, f5, h1, h2, h3, hfl, h4, h5, hf⟩ := h
  have hf5 : f5 = false ∧ ¬ 3 < fl ∧ nodeOk k.size v.size l.size x.size (n : Int) = true := by
    cases f5
    · simp at hf; exact ⟨rfl, by omega, hf.2⟩
    · simp at hf
  rcases h5 with ⟨g4, hle5, hx, ha', _⟩ | ⟨_, _, _, g⟩
  rotate_left
  · rw [hf5.1] at g; cases g
  rcases h4 with ⟨g3, hle4, hl, ha4, _⟩ | ⟨_, _, _, g⟩
  rotate_left
  · rw [g4] at g; cases g
  rcases NX1 h3 with ⟨g2, hle3, hv3, ha3, _⟩ | ⟨_, g⟩
  rotate_left
  · rw [g3] at g; cases g
  rcases SX2 h2 with ⟨g1, hp2, hv, ha2, _⟩ | ⟨_, g⟩
  rotate_left
  · rw [g2] at g; cases g
  rcases SX2 h1 with ⟨_, hp1, hk, ha1, _⟩ | ⟨_, g⟩
  rotate_left
  · rw [g1] at g; cases g
  subst ha4 ha3
  exact ⟨a1, a2, fl, hp1, hk, ha1, hp2, hv, ha2, hle3, by rw [hfl, hv3], hle5, hl, hx, ha', by omega, hf5.2.2⟩
end Go.Proofs.YtngnbflkiiehmaaGreatDoor
namespace Go.Proofs.YtngnbflkiiehmaaGreatDoor
open Go.RowKit Go.Proofs.Sha

theorem seg_add (L : List UInt8) (a m p : Nat) : (L.drop a).take m ++ (L.drop (a + m)).take p = (L.drop a).take (m + p) := by
  rw [List.take_add, List.drop_drop]
theorem seg_two (L : List UInt8) (a : Nat) (h : a + 2 ≤ L.length) : (L.drop a).take 2 = [L.getD a 0, L.getD (a + 1) 0] := by
  rw [List.getD_eq_getElem?_getD, List.getD_eq_getElem?_getD, List.getElem?_eq_getElem (by omega), List.getElem?_eq_getElem (by omega), List.drop_eq_getElem_cons (by omega), List.take_succ_cons, List.drop_eq_getElem_cons (by omega), List.take_succ_cons, List.take_zero]
  rfl
theorem seg_one (L : List UInt8) (a : Nat) (h : a + 1 ≤ L.length) : (L.drop a).take 1 = [L.getD a 0] := by
  rw [List.getD_eq_getElem?_getD, List.getElem?_eq_getElem (by omega), List.drop_eq_getElem_cons (by omega), List.take_succ_cons, List.take_zero]
  rfl
theorem sized_seg (s : ByteArray) (a : Nat) (h : pieceOk s a) : sized (s.extract (a + 2) (a + 2 + szAt s a)).data.toList = (s.data.toList.drop a).take (2 + szAt s a) := by
  have hL : s.data.toList.length = s.size := rfl
  have hlen : ((s.data.toList.drop (a + 2)).take (szAt s a)).length = szAt s a := by
    have := h.2
    rw [List.length_take, List.length_drop]; omega
  rw [ex_list, ← seg_add, seg_two _ _ (by rw [hL]; exact h.1), sized, hlen]
  have h0 := (s.data.toList.getD a 0).toNat_lt
  have h1 := (s.data.toList.getD (a + 1) 0).toNat_lt
  have e0 : szAt s a / 256 = (s.data.toList.getD a 0).toNat := by unfold szAt; omega
  have e1 : szAt s a % 256 = (s.data.toList.getD (a + 1) 0).toNat := by unfold szAt; omega
  rw [e0, e1]
  simp

theorem flag_eq (fl n l x : Nat) (hfl : fl ≤ 3) (hn : 1 ≤ n) (hl : l = if fl &&& 1 = 0 then 0 else n) (hx : x = if fl &&& 2 = 0 then 0 else n) : flagOf l x = fl := by
  subst hl hx
  have : fl = 0 ∨ fl = 1 ∨ fl = 2 ∨ fl = 3 := by omega
  have h0 : ¬ n = 0 := by omega
  rcases this with rfl | rfl | rfl | rfl <;> simp [flagOf, h0]
theorem flag_back (fl n l x : Nat) (hn : 1 ≤ n) (hfl : fl = flagOf l x) (hl : l = 0 ∨ l = n) (hx : x = 0 ∨ x = n) : (if fl &&& 1 = 0 then 0 else n) = l ∧ (if fl &&& 2 = 0 then 0 else n) = x ∧ fl ≤ 3 := by
  subst hfl
  unfold flagOf
  rcases hl with rfl | rfl <;> rcases hx with rfl | rfl
  · simp
  · have h : ¬ x = 0 := by omega
    simp [h]
  · have h : ¬ l = 0 := by omega
    simp [h]
  · have h : ¬ x = 0 := by omega
    simp [h]

theorem NR.enc {n : Nat} {s k v l x : ByteArray} (h : NR n s 0 false k v l x s.size false) : IsEnc s (n : Int) k v l x := by
  obtain ⟨a1, a2, fl, hp0, hk, ha1, hp1, hv, ha2, hle, hfl, hle2, hl, hx, hend, hfl3, hok⟩ := h.ok
  have ho := nodeOk_out hok
  refine ⟨hok, ?_⟩
  have hL : s.data.toList.length = s.size := rfl
  obtain ⟨n1, hn1⟩ : ∃ m, (if fl &&& 1 = 0 then 0 else n) = m := ⟨_, rfl⟩
  obtain ⟨n2, hn2⟩ : ∃ m, (if fl &&& 2 = 0 then 0 else n) = m := ⟨_, rfl⟩
  rw [hn1, hn2] at hle2 hx hend
  rw [hn1] at hl
  have hls : l.size = n1 := by rw [hl]; exact ex_size s _ _ (by omega)
  have hxs : x.size = n2 := by rw [hx]; exact ex_size s _ _ (by omega)
  have hf : flagOf l.size x.size = fl := flag_eq fl n _ _ hfl3 (by omega) (by rw [hls, hn1]) (by rw [hxs, hn2])
  refine of_list ?_
  unfold encL
  rw [show l.data.toList.length = l.size from rfl, show x.data.toList.length = x.size from rfl, hf]
  have e4 : x.data.toList = (s.data.toList.drop (a2 + 1 + n1)).take n2 := by rw [hx]; exact ex_list _ _ _
  have e3 : l.data.toList = (s.data.toList.drop (a2 + 1)).take n1 := by rw [hl]; exact ex_list _ _ _
  have e2 : [UInt8.ofNat fl] = (s.data.toList.drop a2).take 1 := by rw [seg_one _ _ (by rw [hL]; exact hle), hfl]; simp
  have e1 : sized v.data.toList = (s.data.toList.drop a1).take (2 + szAt s a1) := by rw [hv]; exact sized_seg s a1 hp1
  have e0 : sized k.data.toList = (s.data.toList.drop 0).take (2 + szAt s 0) := by rw [hk]; exact sized_seg s 0 hp0
  rw [e0, e1, e2, e3, e4]
  obtain ⟨z0, hz0⟩ : ∃ z, szAt s 0 = z := ⟨_, rfl⟩
  obtain ⟨z1, hz1⟩ : ∃ z, szAt s a1 = z := ⟨_, rfl⟩
  rw [hz0, hz1]
  rw [show a1 = 0 + (2 + z0) by omega, seg_add, show a2 = 0 + (2 + z0 + (2 + z1)) by omega, seg_add, show 0 + (2 + z0 + (2 + z1)) + 1 = 0 + (2 + z0 + (2 + z1) + 1) by omega, seg_add, show 0 + (2 + z0 + (2 + z1) + 1) + n1 = 0 + (2 + z0 + (2 + z1) + 1 + n1) by omega, seg_add]
  rw [List.drop_zero, List.take_of_length_le (by rw [hL]; omega)]

theorem NR.no {n : Nat} {s k v l x : ByteArray} {a' : Nat} {f' : Bool} (h : NR n s 0 false k v l x a' f') (hno : ¬ (f' = false ∧ a' = s.size)) (k' v' l' x' : ByteArray) : ¬ IsEnc s (n : Int) k' v' l' x' := by
  intro hE
  obtain ⟨p1, p2, p3⟩ := hE.parts
  obtain ⟨q1, q2, q3⟩ := p3 _ rfl
  obtain ⟨r1, r2⟩ := q3 _ rfl
  have ho := nodeOk_out hE.1
  obtain ⟨a1, f1, a2, f2, fl, t3, a3, f3, a4, f4, f5, h1, h2, h3, hfl, h4, h5, hf⟩ := h
  rcases SX2 h1 with ⟨_, hp1, hk, ha1, hf1⟩ | ⟨g, _⟩
  rotate_left
  · rcases g with g | g
    · cases g
    · exact g ⟨by omega, by omega⟩
  rcases SX2 h2 with ⟨_, hp2, hv, ha2, hf2⟩ | ⟨g, _⟩
  rotate_left
  · rcases g with g | g
    · rw [hf1] at g; cases g
    · subst ha1; exact g ⟨by omega, by omega⟩
  rcases NX1 h3 with ⟨_, hle3, hv3, ha3, hf3⟩ | ⟨g, _⟩
  rotate_left
  · rcases g with g | g
    · rw [hf2] at g; cases g
    · subst ha1 ha2; exact g (by omega)
  have hflv : fl = flagOf l'.size x'.size := by subst ha1 ha2; rw [hfl, hv3, r1]
  have hb := flag_back fl n l'.size x'.size (by omega) hflv (by omega) (by omega)
  have hsz : s.size - (a2 + 1) = l'.size + x'.size := by
    subst ha1 ha2
    have := congrArg ByteArray.size r2
    rw [ByteArray.size_extract, ByteArray.size_append] at this
    omega
  rw [hb.1] at h4
  rw [hb.2.1] at h5
  rcases h4 with ⟨_, hle4, hl, ha4, hf4⟩ | ⟨g, _⟩
  rotate_left
  · rcases g with g | g
    · rw [hf3] at g; cases g
    · exact g (by omega)
  rcases h5 with ⟨_, hle5, hx, ha5, hf5⟩ | ⟨g, _⟩
  rotate_left
  · rcases g with g | g
    · rw [hf4] at g; cases g
    · exact g (by omega)
  apply hno
  have hks : k = k' := by rw [hk, p2]
  have hvs : v = v' := by subst ha1; rw [hv, q2]
  have hls : l.size = l'.size := by rw [hl]; exact ex_size s _ _ (by omega)
  have hxs : x.size = x'.size := by rw [hx]; exact ex_size s _ _ (by omega)
  refine ⟨?_, by omega⟩
  rw [hf, hf5, hks, hvs, hls, hxs, hE.1, decide_eq_false (by omega)]
  rfl
end Go.Proofs.YtngnbflkiiehmaaGreatDoor
namespace Go.Proofs.YtngnbflkiiehmaaGreatDoor
open Go.RowKit Go.Proofs.Sha

theorem ret11 {w : World} {g : Nat} {k v l r : ByteArray} (h : NB g k v l r w) {a : Act} {R : Ending → World → Prop} (b : Bool) (h4 : a.tmps.getD 4 undef = .pointer (some ⟨g, 0, none⟩)) (h5 : a.tmps.getD 5 undef = .bool b) (hd : a.defers = [])
    (hR : R (.returned (.tuple #[nodeV k v l r, .bool b])) w) : bodyPost Tryz.prog Tryz.f9 R .ret a w := by
  have c0 : w.cell? ⟨g, 0, none⟩ = some (.string k) := Lib.cell_of_heap h 0
  have c1 : w.cell? ⟨g, 1, none⟩ = some (.string v) := Lib.cell_of_heap h 1
  have c2 : w.cell? ⟨g, 2, none⟩ = some (.string l) := Lib.cell_of_heap h 2
  have c3 : w.cell? ⟨g, 3, none⟩ = some (.string r) := Lib.cell_of_heap h 3
  have h4' : a.tmps[4]?.getD undef = .pointer (some ⟨g, 0, none⟩) := by simpa using h4
  have h5' : a.tmps[5]?.getD undef = .bool b := by simpa using h5
  exact bodyPost_ret (v := .tuple #[nodeV k v l r, .bool b]) (by simp [results, Tryz.results9, go_sem, h4', h5', asAddr, c0, c1, c2, c3]) hd hR

set_option maxRecDepth 100000 in
set_option maxHeartbeats 1000000 in
theorem dec_impl (s : ByteArray) (n : Int) (w : World) (hs : s.size ≤ 1048576) :
    Calls Tryz.prog 9 #[.string s, .int .i64 n] w fun e w' => decPost s n e ∧ Below w.heap.size w w' := by
  by_cases hw : 1 ≤ n ∧ n ≤ 32
  · obtain ⟨m, rfl⟩ := Int.eq_ofNat_of_zero_le (show 0 ≤ n by omega)
    have z1 : decide ((1 : Int) ≤ (m : Int)) = true := by simp; omega
    have z2 : decide ((m : Int) ≤ 32) = true := by simp; omega
    have HC : Hid (∀ w', Calls Tryz.prog 28 #[.string s, .iface 49 (.agg #[.int .i64 (m : Int)])] w' fun e w'' => ∃ (k v l x : ByteArray) (b : Bool), e = .returned (.tuple #[nodeV k v l x, .bool b]) ∧ Hid (decPost s (m : Int) (.returned (.tuple #[nodeV k v l x, .bool b]))) ∧ Below w'.heap.size w' w'') := by
      intro w'
      refine (whole_node m s w' hs (by omega)).mono ?_
      rintro e w'' ⟨k, v, l, x, a', f', rfl, HNR, ha', hb⟩
      by_cases hc : f' = false ∧ a' = s.size
      · refine ⟨k, v, l, x, true, by unfold wholeV; rw [if_pos hc], .inl ⟨k, v, l, x, ?_, rfl⟩, hb⟩
        have := HNR.out
        rw [hc.1, hc.2] at this
        exact this.enc
      · exact ⟨⟨#[]⟩, ⟨#[]⟩, ⟨#[]⟩, ⟨#[]⟩, false, by unfold wholeV; rw [if_neg hc], .inr ⟨fun k' v' l' x' => HNR.out.no hc k' v' l' x', rfl⟩, hb⟩
    obtain ⟨fb, hfb⟩ : ∃ fb, w.heap.size = fb := ⟨_, rfl⟩
    go_enter Tryz.func9, Tryz.ntmps9
    go_wp2_with (first | (go_at_call 28; refine (HC.out _).mono ?_; rintro e w1 ⟨k, v, l, x, b, rfl, HD, hb1⟩; have hn1 : NB fb ⟨#[]⟩ ⟨#[]⟩ ⟨#[]⟩ ⟨#[]⟩ w1 := below_cells hb1 (by rw [← hfb]; exact heap_alloc_new _ _); have c0 : w1.cell? ⟨fb, 0, none⟩ = some (.string ⟨#[]⟩) := Lib.cell_of_heap hn1 0; have c1 : w1.cell? ⟨fb, 1, none⟩ = some (.string ⟨#[]⟩) := Lib.cell_of_heap hn1 1; have c2 : w1.cell? ⟨fb, 2, none⟩ = some (.string ⟨#[]⟩) := Lib.cell_of_heap hn1 2; have c3 : w1.cell? ⟨fb, 3, none⟩ = some (.string ⟨#[]⟩) := Lib.cell_of_heap hn1 3; have f0 : w1.frozen? ⟨fb, 0, none⟩ = false := frozen_of_heap hn1; have f1 : w1.frozen? ⟨fb, 1, none⟩ = false := frozen_of_heap hn1; have f2 : w1.frozen? ⟨fb, 2, none⟩ = false := frozen_of_heap hn1; have f3 : w1.frozen? ⟨fb, 3, none⟩ = false := frozen_of_heap hn1) | go_in)
    refine ret11 ((((hn1.s0 _).s1 _).s2 _).s3 _) b rfl rfl rfl ⟨HD.out, ?_⟩
    have hb2 : Below fb w w1 := ((Below.refl _ w).alloc (by omega) _).trans (hb1.mono (by simp [hfb]))
    rw [hfb]
    exact (((hb2.setCell (Nat.le_refl _) _).setCell (Nat.le_refl _) _).setCell (Nat.le_refl _) _).setCell (Nat.le_refl _) _
  · have HN : Hid (∀ k v l r, ¬ IsEnc s n k v l r) := fun k v l r hE => by have := nodeOk_out hE.1; omega
    by_cases h1 : 1 ≤ n
    · have z1 : decide (1 ≤ n) = true := by simp; omega
      have z2 : decide (n ≤ 32) = false := by simp; omega
      go_enter Tryz.func9, Tryz.ntmps9
      go_wp2_with go_in
      exact ret11 (heap_alloc_new _ _) false rfl rfl rfl ⟨.inr ⟨HN.out, rfl⟩, (Below.refl _ _).alloc (Nat.le_refl _) _⟩
    · have z1 : decide (1 ≤ n) = false := by simp; omega
      go_enter Tryz.func9, Tryz.ntmps9
      go_wp2_with go_in
      exact ret11 (heap_alloc_new _ _) false rfl rfl rfl ⟨.inr ⟨HN.out, rfl⟩, (Below.refl _ _).alloc (Nat.le_refl _) _⟩

theorem IsEnc.one {s : ByteArray} {n : Int} {k v l r k' v' l' r' : ByteArray} (h : IsEnc s n k v l r) (h' : IsEnc s n k' v' l' r') : k = k' ∧ v = v' ∧ l = l' ∧ r = r' := by
  obtain ⟨_, p2, p3⟩ := h.parts
  obtain ⟨_, p2', p3'⟩ := h'.parts
  obtain ⟨_, q2, q3⟩ := p3 _ rfl
  obtain ⟨_, q2', q3'⟩ := p3' _ rfl
  obtain ⟨r1, r2⟩ := q3 _ rfl
  obtain ⟨r1', r2'⟩ := q3' _ rfl
  refine ⟨p2.trans p2'.symm, q2.trans q2'.symm, ?_⟩
  have s1 := h.sides r1 r2
  have s2 := h'.sides r1' r2'
  by_cases hf : (s.data.toList.getD (0 + 2 + szAt s 0 + 2 + szAt s (0 + 2 + szAt s 0)) 0).toNat % 2 = 1
  · have t1 := s1.1 hf
    have t2 := s2.1 hf
    exact ⟨t1.2.1.trans t2.2.1.symm, t1.2.2.trans t2.2.2.symm⟩
  · have t1 := s1.2 hf
    have t2 := s2.2 hf
    exact ⟨t1.1.trans t2.1.symm, t1.2.trans t2.2.symm⟩
/-- One answer at most. -/
theorem decPost.one {s : ByteArray} {n : Int} {e e' : Ending} (h : decPost s n e) (h' : decPost s n e') : e = e' := by
  rcases h with ⟨k, v, l, r, hE, rfl⟩ | ⟨hN, rfl⟩ <;> rcases h' with ⟨k', v', l', r', hE', rfl⟩ | ⟨hN', rfl⟩
  · obtain ⟨rfl, rfl, rfl, rfl⟩ := hE.one hE'
    rfl
  · exact absurd hE (hN' _ _ _ _)
  · exact absurd hE' (hN _ _ _ _)
  · rfl
end Go.Proofs.YtngnbflkiiehmaaGreatDoor
