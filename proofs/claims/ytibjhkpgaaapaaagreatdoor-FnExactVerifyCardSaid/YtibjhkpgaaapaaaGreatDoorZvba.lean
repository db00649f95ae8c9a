import Derived.Test.YtibjhkpgaaapaaaGreatDoorZvaz
import Derived.Test.YtibjhkpgaaapaaaGreatDoorZval
import Derived.Laws.MakeOwn
import Derived.Laws.OwnMore
namespace Go.Proofs.YtibjhkpgaaapaaaGreatDoor
open Go.RowKit Go.Proofs.Sha

/-- What is hashed of an encoding, cut to a width. -/
def digB (q : ByteArray) (m : Nat) : ByteArray := ⟨((sha (78 :: q.data.toList)).take m).toArray⟩
/-- The root of a tree. -/
def rootT (m : Nat) : Tr PairT → ByteArray
  | .nil => ⟨#[]⟩
  | .node l x r => digB (encS x.1 x.2 (rootT m l) (rootT m r) m) m
/-- The encoding of a tree's top. -/
def encT (m : Nat) : Tr PairT → ByteArray
  | .nil => ⟨#[]⟩
  | .node l x r => encS x.1 x.2 (rootT m l) (rootT m r) m
/-- With all hashes. -/
def hf (m : Nat) (t : Tr PairT) : ByteArray × ByteArray := (encT m t, rootT m t)
theorem digB_size (q : ByteArray) (m : Nat) (h : m ≤ 32) : (digB q m).size = m := by
  show ((sha (78 :: q.data.toList)).take m).toArray.size = m
  rw [List.size_toArray, List.length_take, sha_len32]; omega
theorem rootT_size (m : Nat) (h : m ≤ 32) (t : Tr PairT) : (rootT m t).size = 0 ∨ (rootT m t).size = m := by
  cases t with
  | nil => exact .inl rfl
  | node l x r => exact .inr (digB_size _ m h)

/-- Only blocks of 'M' may have turned. -/
structure Upd (M : Nat → Prop) (w w' : World) : Prop where
  os : w'.os = w.os
  tape : w'.tape = w.tape
  output : w'.output = w.output
  size : w.heap.size ≤ w'.heap.size
  block : ∀ k, k < w.heap.size → ¬ M k → w'.heap[k]? = w.heap[k]?
theorem Upd.refl (M : Nat → Prop) (w : World) : Upd M w w := ⟨rfl, rfl, rfl, Nat.le_refl _, fun _ _ _ => rfl⟩
theorem Upd.trans {M : Nat → Prop} {a b c : World} (h : Upd M a b) (k : Upd M b c) : Upd M a c :=
  ⟨k.os.trans h.os, k.tape.trans h.tape, k.output.trans h.output, Nat.le_trans h.size k.size, fun i hi hM => (k.block i (Nat.lt_of_lt_of_le hi h.size) hM).trans (h.block i hi hM)⟩
theorem Upd.mono {M M' : Nat → Prop} {a b : World} (h : Upd M a b) (hM : ∀ k, M k → M' k) : Upd M' a b := ⟨h.os, h.tape, h.output, h.size, fun k hk hn => h.block k hk fun q => hn (hM k q)⟩
theorem Upd.of_below {M : Nat → Prop} {a b : World} (h : Below a.heap.size a b) : Upd M a b := ⟨h.os, h.tape, h.output, h.size, fun k hk _ => h.block k hk⟩
theorem Upd.below {M : Nat → Prop} {a b : World} {n : Nat} (h : Upd M a b) (hn : n ≤ a.heap.size) (hM : ∀ k, M k → n ≤ k) : Below n a b :=
  ⟨h.os, h.tape, h.output, h.size, fun k hk => h.block k (Nat.lt_of_lt_of_le hk hn) fun q => by have := hM k q; omega⟩
theorem Upd.drew {M : Nat → Prop} {a b : World} (h : Upd M a b) : Upd M a b.drew := ⟨h.os, h.tape, h.output, h.size, h.block⟩
theorem Upd.setCell {M : Nat → Prop} {a b : World} (h : Upd M a b) (g o : Nat) (v : Value) (hM : M g) : Upd M a (b.setCell ⟨g, o, none⟩ v) := by
  refine ⟨h.os, h.tape, h.output, ?_, fun k hk hn => ?_⟩
  · have : (b.setCell ⟨g, o, none⟩ v).heap.size = b.heap.size := by simp [World.setCell]
    rw [this]; exact h.size
  · rw [Below.heap_setCell _ _ _ _ (fun e => hn (by rw [e]; exact hM))]
    exact h.block k hk hn
theorem Upd.cell {M : Nat → Prop} {a b : World} (h : Upd M a b) {k o : Nat} {v : Value} (hc : a.cell? ⟨k, o, none⟩ = some v) (hn : ¬ M k) : b.cell? ⟨k, o, none⟩ = some v := by
  have hlt : k < a.heap.size := World.block_lt_of_cell? a _ hc
  have e := h.block k hlt hn
  rw [← hc]
  unfold World.cell?
  simp only [e]

/-- A tree in memory, with its blocks in the order of the keys. -/
def TAL (n0 : Nat) (f : Tr PairT → ByteArray × ByteArray) : Tr PairT → Option Addr → List Nat → World → Prop
  | .nil, p, bs, _ => p = none ∧ bs = []
  | .node l x r, p, bs, w => ∃ (b : Nat) (pl pr : Option Addr) (bl br : List Nat), p = some ⟨b, 0, none⟩ ∧ bs = bl ++ b :: br ∧ n0 ≤ b ∧ TB b x pl pr (f (.node l x r)) w ∧ TAL n0 f l pl bl w ∧ TAL n0 f r pr br w
section
variable {n0 : Nat} {f : Tr PairT → ByteArray × ByteArray}
theorem TA.list {w : World} : ∀ {t : Tr PairT} {p : Option Addr}, TA n0 f t p w → ∃ bs, TAL n0 f t p bs w
  | .nil, _, h => ⟨[], h, rfl⟩
  | .node _ _ _, _, ⟨b, pl, pr, h1, h0, h2, h3, h4⟩ => by
    obtain ⟨bl, hl⟩ := h3.list
    obtain ⟨br, hr⟩ := h4.list
    exact ⟨_, b, pl, pr, bl, br, h1, rfl, h0, h2, hl, hr⟩
theorem TA.base {w : World} : ∀ {t : Tr PairT} {p : Option Addr}, TA n0 f t p w → TA 0 f t p w
  | .nil, _, h => h
  | .node _ _ _, _, ⟨b, pl, pr, h1, _, h2, h3, h4⟩ => ⟨b, pl, pr, h1, Nat.zero_le _, h2, h3.base, h4.base⟩
theorem TAL.ta {w : World} : ∀ {t : Tr PairT} {p : Option Addr} {bs : List Nat}, TAL n0 f t p bs w → TA n0 f t p w
  | .nil, _, _, h => h.1
  | .node _ _ _, _, _, ⟨b, pl, pr, _, _, h1, _, h0, h2, h3, h4⟩ => ⟨b, pl, pr, h1, h0, h2, h3.ta, h4.ta⟩
theorem TB.upd {M : Nat → Prop} {b : Nat} {x : PairT} {l r : Option Addr} {e : ByteArray × ByteArray} {w w' : World} (h : TB b x l r e w) (hu : Upd M w w') (hn : ¬ M b) : TB b x l r e w' :=
  (hu.block b h.lt hn).trans h
theorem TAL.upd {M : Nat → Prop} {w w' : World} (hu : Upd M w w') : ∀ {t : Tr PairT} {p : Option Addr} {bs : List Nat}, TAL n0 f t p bs w → (∀ b ∈ bs, ¬ M b) → TAL n0 f t p bs w'
  | .nil, _, _, h, _ => h
  | .node _ _ _, _, _, ⟨b, pl, pr, bl, br, h1, h5, h0, h2, h3, h4⟩, hn => by
    subst h5
    exact ⟨b, pl, pr, bl, br, h1, rfl, h0, h2.upd hu (hn b (by simp)), h3.upd hu (fun c hc => hn c (by simp [hc])), h4.upd hu (fun c hc => hn c (by simp [hc]))⟩
theorem TAL.mem {w : World} : ∀ {t : Tr PairT} {p : Option Addr} {bs : List Nat}, TAL n0 f t p bs w → ∀ b ∈ bs, ∃ x ∈ t.inord, ∃ l r e, TB b x l r e w
  | .nil, _, _, h, b, hb => by rw [h.2] at hb; cases hb
  | .node tl y tr, _, _, ⟨b0, pl, pr, bl, br, h1, h5, h0, h2, h3, h4⟩, b, hb => by
    subst h5
    rcases List.mem_append.1 hb with q | q
    · obtain ⟨x, hx, rest⟩ := h3.mem b q
      exact ⟨x, by simp [Tr.inord, hx], rest⟩
    · rcases List.mem_cons.1 q with rfl | q
      · exact ⟨y, by simp [Tr.inord], pl, pr, _, h2⟩
      · obtain ⟨x, hx, rest⟩ := h4.mem b q
        exact ⟨x, by simp [Tr.inord, hx], rest⟩
theorem TAL.lt {w : World} {t : Tr PairT} {p : Option Addr} {bs : List Nat} (h : TAL n0 f t p bs w) (b : Nat) (hb : b ∈ bs) : b < w.heap.size := by
  obtain ⟨x, _, l, r, e, hT⟩ := h.mem b hb
  exact hT.lt
theorem TAL.ge {w : World} : ∀ {t : Tr PairT} {p : Option Addr} {bs : List Nat}, TAL n0 f t p bs w → ∀ b ∈ bs, n0 ≤ b
  | .nil, _, _, h, b, hb => by rw [h.2] at hb; cases hb
  | .node tl y tr, _, _, ⟨b0, pl, pr, bl, br, h1, h5, h0, h2, h3, h4⟩, b, hb => by
    subst h5
    rcases List.mem_append.1 hb with q | q
    · exact h3.ge b q
    · rcases List.mem_cons.1 q with rfl | q
      · exact h0
      · exact h4.ge b q
/-- A block whose first cell is no text is none of a tree's. -/
theorem TAL.notin {w : World} {t : Tr PairT} {p : Option Addr} {bs : List Nat} (h : TAL n0 f t p bs w) (k : Nat) {v : Value} (hv : w.cell? ⟨k, 0, none⟩ = some v) (hs : ∀ s, v ≠ .string s) : k ∉ bs := fun hk => by
  obtain ⟨x, _, l, r, e, hT⟩ := h.mem k hk
  exact hs _ (Option.some.inj (hv.symm.trans hT.c0))
theorem TB.key {b : Nat} {x y : PairT} {l r l2 r2 : Option Addr} {e e2 : ByteArray × ByteArray} {w : World} (h : TB b x l r e w) (k : TB b y l2 r2 e2 w) : x.1 = y.1 := by
  have := h.c0.symm.trans k.c0
  simpa using this
theorem TAL.nodup {w : World} : ∀ {t : Tr PairT} {p : Option Addr} {bs : List Nat}, TAL n0 f t p bs w → Apart t.inord → bs.Nodup
  | .nil, _, _, h, _ => by rw [h.2]; exact List.nodup_nil
  | .node tl y tr, _, _, ⟨b0, pl, pr, bl, br, h1, h5, h0, h2, h3, h4⟩, ha => by
    subst h5
    unfold Apart at ha
    simp only [Tr.inord] at ha
    obtain ⟨a1, a2, a3⟩ := List.pairwise_append.1 ha
    obtain ⟨a4, a5⟩ := List.pairwise_cons.1 a2
    refine List.nodup_append.2 ⟨h3.nodup a1, List.nodup_cons.2 ⟨fun hq => ?_, h4.nodup a5⟩, fun c hc d hd e => ?_⟩
    · obtain ⟨z, hz, l, r, e, hT⟩ := h4.mem b0 hq
      exact a4 z hz (h2.key hT)
    · subst e
      obtain ⟨z, hz, l, r, e, hT⟩ := h3.mem c hc
      rcases List.mem_cons.1 hd with rfl | hd
      · exact a3 z hz y (by simp) (hT.key h2)
      · obtain ⟨z2, hz2, l2, r2, e2, hT2⟩ := h4.mem c hd
        exact a3 z hz z2 (by simp [hz2]) (hT.key hT2)
end
/-- The encoding, or the hash, written into a node. -/
theorem treeL_set37 (X : List UInt8) (hX : X.length = 32) (k v : ByteArray) (l r : Option Addr) (enc h e2 : ByteArray) : (treeL X k v l r enc h).set 37 (.string e2) = treeL X k v l r e2 h := by
  have e : ∀ z, treeL X k v l r z h = ([.string k, .string v] ++ (X.map B ++ [Value.string k])) ++ [.pointer l, .pointer r, .string z, .string h] := fun z => by unfold treeL rankL; simp
  have hl2 : ([Value.string k, .string v] ++ (X.map B ++ [Value.string k])).length = 35 := by simp [hX]
  rw [e, e, List.set_append_right _ _ (by omega), hl2]; rfl
theorem treeL_set38 (X : List UInt8) (hX : X.length = 32) (k v : ByteArray) (l r : Option Addr) (enc h e2 : ByteArray) : (treeL X k v l r enc h).set 38 (.string e2) = treeL X k v l r enc e2 := by
  have e : ∀ z, treeL X k v l r enc z = ([.string k, .string v] ++ (X.map B ++ [Value.string k])) ++ [.pointer l, .pointer r, .string enc, .string z] := fun z => by unfold treeL rankL; simp
  have hl2 : ([Value.string k, .string v] ++ (X.map B ++ [Value.string k])).length = 35 := by simp [hX]
  rw [e, e, List.set_append_right _ _ (by omega), hl2]; rfl
theorem TB.setEnc {b : Nat} {x : PairT} {l r : Option Addr} {e : ByteArray × ByteArray} {w : World} (h : TB b x l r e w) (s : ByteArray) : TB b x l r (s, e.2) (w.setCell ⟨b, 37, none⟩ (.string s)) := by
  have := heap_setCell_same w b 37 _ 251 (.string s) h
  unfold TB
  rw [this]
  simp only [List.setIfInBounds_toArray, treeL_set37 _ (sha_len32 _)]
theorem TB.setHash {b : Nat} {x : PairT} {l r : Option Addr} {e : ByteArray × ByteArray} {w : World} (h : TB b x l r e w) (s : ByteArray) : TB b x l r (e.1, s) (w.setCell ⟨b, 38, none⟩ (.string s)) := by
  have := heap_setCell_same w b 38 _ 251 (.string s) h
  unfold TB
  rw [this]
  simp only [List.setIfInBounds_toArray, treeL_set38 _ (sha_len32 _)]
theorem TB.drew {b : Nat} {x : PairT} {l r : Option Addr} {e : ByteArray × ByteArray} {w : World} (h : TB b x l r e w) : TB b x l r e w.drew := h
theorem TB.frozen {b o : Nat} {x : PairT} {l r : Option Addr} {e : ByteArray × ByteArray} {w : World} (h : TB b x l r e w) : w.frozen? ⟨b, o, none⟩ = false := by
  unfold TB at h
  unfold World.frozen?
  simp [h]
end Go.Proofs.YtibjhkpgaaapaaaGreatDoor
namespace Go.Proofs.YtibjhkpgaaapaaaGreatDoor
open Go.RowKit Go.Proofs.Sha

theorem wr_in64 (n : Int) (h : -9223372036854775808 ≤ n ∧ n ≤ 9223372036854775807) : wrap64 n = n := by unfold wrap64; omega
/-- A slice of pairs that was handed in, whatever its size. -/
structure QArg (a : Option Addr) (ps : List PairT) (w : World) : Prop where
  at_ : 0 < ps.length → ∃ b off : Nat, a = some ⟨b, off, none⟩ ∧ b < w.heap.size ∧ ∀ j, j < ps.length → w.cell? ⟨b, off + j * 2, none⟩ = some (.string (ps.getD j noPair).1) ∧ w.cell? ⟨b, off + j * 2 + 1, none⟩ = some (.string (ps.getD j noPair).2)
theorem QArg.below {a : Option Addr} {ps : List PairT} {w w' : World} (h : QArg a ps w) (hb : Below w.heap.size w w') : QArg a ps w' := by
  refine ⟨fun hn => ?_⟩
  obtain ⟨b, off, ha, hlt, hc⟩ := h.at_ hn
  exact ⟨b, off, ha, Nat.lt_of_lt_of_le hlt hb.size, fun j hj => ⟨(hb.cell (p := ⟨b, off + j * 2, none⟩) hlt).trans (hc j hj).1, (hb.cell (p := ⟨b, off + j * 2 + 1, none⟩) hlt).trans (hc j hj).2⟩⟩
/-- Within the law's bound. -/
def SmallP (ps : List PairT) : Prop := ps.length ≤ 1048576 ∧ ∀ j, (ps.getD j noPair).1.size ≤ 1048576 ∧ (ps.getD j noPair).2.size ≤ 1048576
theorem QArg.parg {a : Option Addr} {ps : List PairT} {w : World} (h : QArg a ps w) (hs : SmallP ps) : PArg a ps w := ⟨hs.1, hs.2, h.at_⟩
theorem PArg.qarg {a : Option Addr} {ps : List PairT} {w : World} (h : PArg a ps w) : QArg a ps w := ⟨h.at_⟩
theorem pget_out (ps : List PairT) (j : Nat) (h : ps.length ≤ j) : ps.getD j noPair = noPair := by
  rw [List.getD_eq_getElem?_getD, List.getElem?_eq_none h]; rfl
end Go.Proofs.YtibjhkpgaaapaaaGreatDoor
namespace Go.Proofs.YtibjhkpgaaapaaaGreatDoor
open Go.RowKit Go.Proofs.Sha

/-- Pairs as cells. -/
def flatP : List PairT → List Value
  | [] => []
  | p :: l => .string p.1 :: .string p.2 :: flatP l
theorem flatP_len : ∀ l : List PairT, (flatP l).length = l.length * 2
  | [] => rfl
  | p :: l => by simp only [flatP, List.length_cons, flatP_len l]; omega
theorem flatP_app : ∀ l m : List PairT, flatP (l ++ m) = flatP l ++ flatP m
  | [], m => rfl
  | p :: l, m => by simp only [List.cons_append, flatP, flatP_app l m]
theorem flatP_get : ∀ (l : List PairT) (j : Nat), j < l.length → (flatP l)[j * 2]? = some (.string (l.getD j noPair).1) ∧ (flatP l)[j * 2 + 1]? = some (.string (l.getD j noPair).2)
  | [], j, h => absurd h (Nat.not_lt_zero _)
  | p :: l, 0, _ => ⟨rfl, rfl⟩
  | p :: l, j + 1, h => by
    have := flatP_get l j (by simpa using h)
    rw [show (j + 1) * 2 = j * 2 + 2 by omega]
    simpa [flatP] using this
theorem flatP_set : ∀ (l : List PairT) (k : Nat) (x y : ByteArray), k < l.length → ((flatP l).set (k * 2) (.string x)).set (k * 2 + 1) (.string y) = flatP (l.set k (x, y))
  | [], k, _, _, h => absurd h (Nat.not_lt_zero _)
  | p :: l, 0, _, _, _ => rfl
  | p :: l, k + 1, x, y, h => by
    have := flatP_set l k x y (by simpa using h)
    rw [show (k + 1) * 2 = k * 2 + 2 by omega]
    simpa [flatP] using this
theorem flatP_rep (n : Nat) : flatP (List.replicate n noPair) = List.replicate (n * 2) (.string ⟨#[]⟩) := by
  induction n with
  | zero => rfl
  | succ n ih =>
    rw [List.replicate_succ, flatP, ih, show (n + 1) * 2 = n * 2 + 1 + 1 by omega, List.replicate_succ, List.replicate_succ]
    rfl
theorem made2 (n : Nat) : (madeCells #[.string ⟨#[]⟩, .string ⟨#[]⟩] n).toList = List.replicate n (Value.string ⟨#[]⟩) := by
  unfold madeCells
  refine List.ext_getElem (by simp) fun i h1 h2 => ?_
  rw [List.getElem_replicate]
  simp only [Array.getElem_toList, Array.getElem_map]
  have : ∀ j, j < 2 → (#[Value.string ⟨#[]⟩, .string ⟨#[]⟩])[j]! = .string ⟨#[]⟩ := fun j hj => by
    match j, hj with
    | 0, _ => rfl
    | 1, _ => rfl
  exact this _ (Nat.mod_lt _ (by simp))
theorem Row.parg {w : World} {base g c n : Nat} {ps : List PairT} (h : Row w base g n c (flatP ps)) (hs : SmallP ps) : PArg (some ⟨g, 0, none⟩) ps w := by
  refine ⟨hs.1, hs.2, fun _ => ⟨g, 0, rfl, h.lt, fun j hj => ?_⟩⟩
  have hn := h.len
  rw [flatP_len] at hn
  obtain ⟨e0, e1⟩ := flatP_get ps j hj
  rw [Nat.zero_add]
  exact ⟨(h.cell _ (by omega)).trans e0, (h.cell _ (by omega)).trans e1⟩
/-- The first k, and zeros. -/
def partP (ps : List PairT) (k : Nat) : List PairT := ps.take k ++ List.replicate (ps.length - k) noPair
theorem partP_zero (ps : List PairT) : partP ps 0 = List.replicate ps.length noPair := by simp [partP]
theorem partP_all (ps : List PairT) : partP ps ps.length = ps := by simp [partP]
theorem partP_len (ps : List PairT) (k : Nat) (h : k ≤ ps.length) : (partP ps k).length = ps.length := by simp [partP]; omega
theorem partP_set (ps : List PairT) (k : Nat) (h : k < ps.length) : (partP ps k).set k (ps.getD k noPair) = partP ps (k + 1) := by
  have e : ps.take (k + 1) = ps.take k ++ [ps[k]] := by rw [List.take_add_one, List.getElem?_eq_getElem h]; rfl
  unfold partP
  rw [show ps.length - k = (ps.length - (k + 1)) + 1 by omega, List.replicate_succ, List.set_append_right _ _ (by rw [List.length_take]; omega), List.length_take, show k - min k ps.length = 0 by omega, List.set_cons_zero, e, List.getD_eq_getElem?_getD, List.getElem?_eq_getElem h, List.append_assoc]
  rfl
theorem info37 : (Tryz.prog.info? 81).map (fun i => (i.zero, i.size, i.bytes)) = some (some (.agg #[.string ⟨#[]⟩, .string ⟨#[]⟩]), 2, 32) := by kernel_rfl
theorem info_parts2 {i : Option TypeInfo} {a : Option Value} {b c : Nat} (h : i.map (fun i => (i.zero, i.size, i.bytes)) = some (a, b, c)) : ∃ j, i = some j ∧ j.zero = a ∧ j.size = b ∧ j.bytes = c := by
  cases i with
  | none => cases h
  | some j => simp only [Option.map_some, Option.some.injEq, Prod.mk.injEq] at h; exact ⟨j, rfl, h.1, h.2.1, h.2.2⟩
theorem make25 (n : Nat) (hn : n ≤ 1048576) (W : World) : (Instr.makeSlice 35 (.int .i64 (n : Int)) (.int .i64 (n : Int))).run Tryz.prog W = .ok (.slice (some ⟨W.heap.size, 0, none⟩) n n) (W.alloc (.cells (flatP (List.replicate n noPair)).toArray 81)) := by
  obtain ⟨i0, hi, hz0, hz1, hz2⟩ := info_parts2 info37
  have e : madeCells (Value.agg #[.string ⟨#[]⟩, .string ⟨#[]⟩]).cells (((n : Nat) : Int).toNat * i0.size) = (flatP (List.replicate n noPair)).toArray := by
    rw [hz1, Int.toNat_natCast, flatP_rep]
    show madeCells #[.string ⟨#[]⟩, .string ⟨#[]⟩] (n * 2) = _
    rw [← Array.toList_inj, made2]
  have h := run_make (P := Tryz.prog) W 35 81 i0 (.agg #[.string ⟨#[]⟩, .string ⟨#[]⟩]) Tryz.underlying35 hi hz0 .i64 .i64 (n : Int) (n : Int) (by omega) (by omega) (by rw [hz2]; omega) (by omega)
  rw [e] at h
  simpa using h
theorem eqPair_any (k v : ByteArray) (w : World) : Calls Tryz.prog 56 #[.agg #[.string k, .string v], .agg #[.string k, .string v]] w fun e w' => e = .returned (.bool true) ∧ Below w.heap.size w w' := by
  have hb : Below w.heap.size w ((w.alloc (.cells #[.string k, .string v] 81)).alloc (.cells #[.string k, .string v] 81)) := ((Below.refl _ _).alloc (Nat.le_refl _) _).alloc (by simp) _
  go_enter Tryz.func56, Tryz.ntmps56
  go_wp2_with fail
  go_ret
  exact ⟨rfl, hb⟩

set_option maxRecDepth 100000 in
set_option maxHeartbeats 1000000 in
theorem eqPairS_any (a b : Option Addr) (ps : List PairT) (c d : Nat) (w : World) (h : PArg a ps w) (h' : PArg b ps w) :
    Calls Tryz.prog 18 #[.slice a ps.length c, .slice b ps.length d] w fun e w' => e = .returned (.bool true) ∧ Below w.heap.size w w' := by
  have hn := h.le
  obtain ⟨N, hN⟩ : ∃ N, ps.length = N := ⟨_, rfl⟩
  rw [hN] at hn ⊢
  have hNl : Hid (ps.length = N) := hN
  clear hN
  go_enter Tryz.func18, Tryz.ntmps18
  go_wp2_with fail
  go_loopw [5] (fun t wr => ∃ k : Nat, k ≤ N ∧ t = .int .i64 (k : Int) ∧ Below w.heap.size w wr) (fun t _ => N - (intOf t).toNat)
  case atStart => exact ⟨0, Nat.zero_le _, rfl, Below.refl _ _⟩
  case round =>
    obtain ⟨k, hk, rfl, hbw⟩ := hrel
    by_cases hlt : k < N
    · have z1 : decide ((k : Int) < (N : Int)) = true := by simp; omega
      have hx0 : (0 : Int) ≤ (k : Int) := Int.natCast_nonneg _
      have hx1 : (k : Int) < (N : Int) := by omega
      obtain ⟨b1, off1, rfl, hbl1, hc⟩ := (h.below hbw).at_ (by rw [hNl.out]; omega)
      obtain ⟨b2, off2, rfl, hbl2, hd⟩ := (h'.below hbw).at_ (by rw [hNl.out]; omega)
      obtain ⟨hc1, hc2⟩ := hc k (by rw [hNl.out]; exact hlt)
      obtain ⟨hd1, hd2⟩ := hd k (by rw [hNl.out]; exact hlt)
      generalize (ps.getD k noPair).1 = pk at hc1 hd1
      generalize (ps.getD k noPair).2 = pv at hc2 hd2
      have HE := fun w' => eqPair_any pk pv w'
      have HC : Hid (∀ W, Below wr.heap.size wr W → W.cell? ⟨b1, off1 + k * 2, none⟩ = some (.string pk) ∧ W.cell? ⟨b1, off1 + k * 2 + 1, none⟩ = some (.string pv) ∧ W.cell? ⟨b2, off2 + k * 2, none⟩ = some (.string pk) ∧ W.cell? ⟨b2, off2 + k * 2 + 1, none⟩ = some (.string pv)) := fun W hW => ⟨(hW.cell (p := ⟨b1, _, none⟩) hbl1).trans hc1, (hW.cell (p := ⟨b1, _, none⟩) hbl1).trans hc2, (hW.cell (p := ⟨b2, _, none⟩) hbl2).trans hd1, (hW.cell (p := ⟨b2, _, none⟩) hbl2).trans hd2⟩
      clear hc hd hc1 hc2 hd1 hd2
      go_wp2_with fail
      go_region_held3 (fun W => W.cell? ⟨b1, off1 + k * 2, none⟩ = some (.string pk) ∧ W.cell? ⟨b1, off1 + k * 2 + 1, none⟩ = some (.string pv) ∧ W.cell? ⟨b2, off2 + k * 2, none⟩ = some (.string pk) ∧ W.cell? ⟨b2, off2 + k * 2 + 1, none⟩ = some (.string pv)) (first | exact HC.out _ (Below.refl _ _).drew | exact HC.out _ hb1) (first | (go_at_call 56; refine (HE _).mono ?_; rintro e w1 ⟨rfl, hb1'⟩; have hb1 : Below wr.heap.size wr w1 := (Below.refl wr.heap.size wr).drew.trans hb1'))
      go_wp2_with fail
      go_roundw
      case rel => exact ⟨k + 1, hlt, by go_num, hbw.trans (hb1.mono hbw.size)⟩
      case measure => simp [intOf]; omega
    · obtain rfl : k = N := by omega
      have z1 : decide ((k : Int) < (k : Int)) = false := by simp
      go_wp2_with fail
      go_ret
      exact ⟨rfl, hbw⟩
end Go.Proofs.YtibjhkpgaaapaaaGreatDoor
