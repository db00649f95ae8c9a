import Derived.Test.YtmfhfehemoeeeaaGreatDoorZsbf
import Derived.Test.YtmfhfehemoeeeaaGreatDoorZsbb
import Derived.Test.YtmfhfehemoeeeaaGreatDoorZsad
import Derived.Test.YtmfhfehemoeeeaaGreatDoorZsbg
import Derived.Test.YtmfhfehemoeeeaaGreatDoorZsbe
set_option maxRecDepth 100000
set_option maxHeartbeats 2000000
namespace Go.Proofs.YtmfhfehemoeeeaaGreatDoor
open Go.RowKit Go.Proofs.Sha

/-- A node of a tree in its block. -/
def TBk (b : Nat) (k v : ByteArray) (l r : Option Addr) (enc h : ByteArray) (w : World) : Prop := w.heap[b]? = some (.cells (treeL (sha k.data.toList) k v l r enc h).toArray 127)
/-- What rankOf's contract says, by itself. -/
def RankSaid (K : World → Prop) : Prop := ∀ (s : ByteArray) (w : World), s.size ≤ 1048576 → K w → Calls Tryz.prog 77 #[.string s] w fun e w' => e = .returned (.agg (rankL (sha s.data.toList) s).toArray) ∧ Below w.heap.size w w'

theorem single_any {K : World → Prop} (HR : Hid (RankSaid K)) (keep : Hid (∀ w1 w2, K w1 → Below w1.heap.size w1 w2 → K w2)) (k v : ByteArray) (w : World) (hk : k.size ≤ 1048576) (hK : K w) :
    Calls Tryz.prog 55 #[.agg #[.string k, .string v]] w fun e w' => ∃ b, e = .returned (.pointer (some ⟨b, 0, none⟩)) ∧ w.heap.size ≤ b ∧ TBk b k v none none ⟨#[]⟩ ⟨#[]⟩ w' ∧ Below w.heap.size w w' := by
  have hbA : Below w.heap.size w (w.alloc (.cells #[.string k, .string v] 56)) := (Below.refl _ _).alloc (Nat.le_refl _) _
  have nA := heap_alloc_new w (.cells #[.string k, .string v] 56)
  have HC : Hid (∀ w', Below w.heap.size w w' → Calls Tryz.prog 77 #[.string k] w' fun e w'' => e = .returned (.agg (rankL (sha k.data.toList) k).toArray) ∧ Below w'.heap.size w' w'') := fun w' hb => HR.out k w' hk (keep.out _ _ hK hb)
  unfold TBk
  obtain ⟨x0, x1, x2, x3, x4, x5, x6, x7, x8, x9, x10, x11, x12, x13, x14, x15, x16, x17, x18, x19, x20, x21, x22, x23, x24, x25, x26, x27, x28, x29, x30, x31, hX⟩ := list32 (sha k.data.toList) (sha_len _)
  rw [hX] at HC
  rw [hX]
  clear hX
  unfold treeL
  unfold rankL at HC ⊢
  simp only [List.map_cons, List.map_nil, List.cons_append, List.nil_append] at HC ⊢
  unfold B at HC ⊢
  obtain ⟨ga, hga⟩ : ∃ ga, w.heap.size = ga := ⟨_, rfl⟩
  rw [hga] at nA
  go_enter Tryz.func55, Tryz.ntmps55
  go_upto_region 1 with fail
  try rw [hga]
  generalize w.alloc (.cells #[.string k, .string v] 56) = wa at hbA nA ⊢
  have HS : Hid (∀ W : World, Below wa.heap.size wa W → W.cell? ⟨ga, 0, none⟩ = some (.string k) ∧ W.cell? ⟨ga, 1, none⟩ = some (.string v)) := fun W hW => by
    have e := (hW.block ga (Array.getElem?_eq_some_iff.1 nA).1).trans nA
    exact ⟨Lib.cell_of_heap e 0, Lib.cell_of_heap e 1⟩
  go_region_held3 (fun W => W.cell? ⟨ga, 0, none⟩ = some (.string k) ∧ W.cell? ⟨ga, 1, none⟩ = some (.string v)) (first | exact HS.out _ (Below.refl _ _) | exact HS.out _ (Below.refl _ _).drew | exact HS.out _ hb2 | exact HS.out _ (hb3 _)) (first | (go_at_call 77; refine (HC.out _ hbA.drew).mono ?_; rintro e w2 ⟨rfl, hb2'⟩; have hb2 : Below wa.heap.size wa w2 := (Below.refl wa.heap.size wa).drew.trans hb2'; have hb3 : ∀ o : Obj, Below wa.heap.size wa (w2.alloc o) := fun o => hb2.alloc hb2.size o; clear hb2'))
  have nT := heap_alloc_new w2 (.cells #[.string k, .string v, .int .u8 (x0.toNat : Int), .int .u8 (x1.toNat : Int), .int .u8 (x2.toNat : Int), .int .u8 (x3.toNat : Int), .int .u8 (x4.toNat : Int), .int .u8 (x5.toNat : Int), .int .u8 (x6.toNat : Int), .int .u8 (x7.toNat : Int), .int .u8 (x8.toNat : Int), .int .u8 (x9.toNat : Int), .int .u8 (x10.toNat : Int), .int .u8 (x11.toNat : Int), .int .u8 (x12.toNat : Int), .int .u8 (x13.toNat : Int), .int .u8 (x14.toNat : Int), .int .u8 (x15.toNat : Int), .int .u8 (x16.toNat : Int), .int .u8 (x17.toNat : Int), .int .u8 (x18.toNat : Int), .int .u8 (x19.toNat : Int), .int .u8 (x20.toNat : Int), .int .u8 (x21.toNat : Int), .int .u8 (x22.toNat : Int), .int .u8 (x23.toNat : Int), .int .u8 (x24.toNat : Int), .int .u8 (x25.toNat : Int), .int .u8 (x26.toNat : Int), .int .u8 (x27.toNat : Int), .int .u8 (x28.toNat : Int), .int .u8 (x29.toNat : Int), .int .u8 (x30.toNat : Int), .int .u8 (x31.toNat : Int), .string k, .pointer none, .pointer none, .string ⟨#[]⟩, .string ⟨#[]⟩] 127)
  have hbT : Below w.heap.size w w2 := hbA.trans (hb2.mono hbA.size)
  have hle := hbT.size
  go_wp2_with fail
  go_ret
  rw [hga] at hbT hle
  exact ⟨w2.heap.size, rfl, hle, nT, hbT.alloc hle _⟩
theorem above_said : AboveSaid abP := fun p q w => above_any _ _ (sha_len32 _) (sha_len32 _) p.1 q.1 w

theorem treeOf_any {K : World → Prop} (HR : Hid (RankSaid K)) (keep : Hid (∀ w1 w2, K w1 → Below w1.heap.size w1 w2 → K w2)) (a : Option Addr) (ps : List PairT) (c : Nat) (w : World) (h : PArg a ps w) (hK : K w) :
    Calls Tryz.prog 27 #[.slice a ps.length c] w fun e w' => ∃ p, e = .returned (.pointer p) ∧ TA w.heap.size bare (mergedTo ps ps.length) p w' ∧ Below w.heap.size w w' := by
  have hn := h.le
  obtain ⟨n, hnn⟩ : ∃ n, ps.length = n := ⟨_, rfl⟩
  rw [hnn]
  rw [hnn] at hn
  have hnl : Hid (ps.length = n) := hnn
  have HM := fun (w' : World) (hb : Below w.heap.size w w') (k : Nat) (p q : Option Addr) (h1 : TA w.heap.size bare (mergedTo ps k) p w') (h2 : TA w.heap.size bare (.node .nil (ps.getD k noPair) .nil) q w') => merge_any (ab := abP) above_said w.heap.size _ (mergedTo ps k) (.node .nil (ps.getD k noPair) .nil) p q w' (Nat.le_refl _) hb.size h1 h2
  have HS := fun (w' : World) (hb : Below w.heap.size w w') (k : Nat) => single_any HR keep (ps.getD k noPair).1 (ps.getD k noPair).2 w' (h.sz k).1 (keep.out _ _ hK hb)
  replace HM : Hid _ := HM
  replace HS : Hid _ := HS
  clear hnn hK keep HR
  go_enter Tryz.func27, Tryz.ntmps27
  go_wp2_with fail
  go_loopw [3, 8] (fun t3 t8 wr => ∃ (k : Nat) (p : Option Addr), k ≤ n ∧ t3 = .pointer p ∧ t8 = .int .i64 (k : Int) ∧ TA w.heap.size bare (mergedTo ps k) p wr ∧ Below w.heap.size w wr) (fun _ t8 _ => n - (intOf t8).toNat)
  case atStart => exact ⟨0, none, Nat.zero_le _, rfl, rfl, rfl, Below.refl _ _⟩
  case round =>
    obtain ⟨k, p, hk, rfl, rfl, ht, hbw⟩ := hrel
    by_cases hlt : k < n
    · have z3 : decide ((k : Int) < (n : Int)) = true := by simp; omega
      have hx0 : (0 : Int) ≤ (k : Int) := Int.natCast_nonneg _
      have hx1 : (k : Int) < (n : Int) := by omega
      obtain ⟨b, off, rfl, hbl, hc⟩ := (h.below hbw).at_ (by rw [hnl.out]; omega)
      obtain ⟨hc1, hc2⟩ := hc k (by rw [hnl.out]; exact hlt)
      have H1 := fun w' hb => HS.out w' hb k
      have H2 := fun w' hb p q => HM.out w' hb k p q
      have hmk : Hid (mergedTo ps (k + 1) = Tr.merge abP (mergedTo ps k) (.node .nil (ps.getD k noPair) .nil)) := rfl
      rw [← hmk.out] at H2
      generalize ps.getD k noPair = x at hc1 hc2 H1 H2
      obtain ⟨x1, x2⟩ := x
      dsimp only at hc1 hc2 H1 H2
      replace H1 : Hid _ := H1
      replace H2 : Hid _ := H2
      have hbA : Below w.heap.size w (wr.alloc (.cells #[.string x1, .string x2] 56)) := hbw.alloc hbw.size _
      have htA : TA w.heap.size bare (mergedTo ps k) p (wr.alloc (.cells #[.string x1, .string x2] 56)) := ht.below ((Below.refl _ _).alloc (Nat.le_refl _) _) (Nat.le_refl _)
      clear hc hmk
      go_wp2_with (first | (go_at_call 55; refine (H1.out _ hbA).mono ?_; rintro e w1 ⟨b1, rfl, hge, ht1, hb1⟩; have hbw1 : Below w.heap.size w w1 := hbA.trans (hb1.mono hbA.size); have htB := htA.below hb1 (Nat.le_refl _)) | (go_at_call 54; refine (H2.out _ hbw1 _ _ htB ⟨b1, none, none, rfl, (by have := hbA.size; omega), ht1, rfl, rfl⟩).mono ?_; rintro e w2 ⟨q, rfl, ht2, hb2⟩; have hbw2 : Below w.heap.size w w2 := hbw1.trans (hb2.mono hbw1.size)))
      go_roundw
      case rel => exact ⟨k + 1, q, hlt, rfl, by go_num, ht2, hbw2⟩
      case measure => simp [intOf]; omega
    · obtain rfl : k = n := by omega
      have z3 : decide ((k : Int) < (k : Int)) = false := by simp
      go_wp2_with fail
      go_ret
      exact ⟨p, rfl, ht, hbw⟩
/-- encodingDigest: what is hashed, cut to a width. -/
theorem edig_any (q : ByteArray) (m : Nat) (w : World) (hq : q.size ≤ 1048576) (h1 : 1 ≤ m) (h2 : m ≤ 32) (hK : ∀ j, j < 64 → w.cell? ⟨0, j, none⟩ = some (.int .u32 ((kTab.getD j 0).toNat : Int))) :
    Calls Tryz.prog 104 #[.string q, .int .i64 (m : Int)] w fun e w' => e = .returned (.string ⟨((sha (78 :: q.data.toList)).take m).toArray⟩) ∧ Below w.heap.size w w' := by
  have HE : Hid (Calls Tryz.prog 82 #[.string q] w fun e w'' => e = .returned (.agg ((sha (78 :: q.data.toList)).map B).toArray) ∧ Below w.heap.size w w'') := ehash_any q w hq hK
  have hln : (sha (78 :: q.data.toList)).length = 32 := sha_len _
  obtain ⟨M, hM⟩ : ∃ M, sha (78 :: q.data.toList) = M := ⟨_, rfl⟩
  rw [hM] at HE hln
  rw [hM]
  clear hM hK
  have hln2 : (M.map B).length = 32 := by rw [List.length_map, hln]
  have h1c : ∀ v ∈ M.map B, v.oneCell' = true := by
    intro v hv
    obtain ⟨x, _, rfl⟩ := List.mem_map.1 hv
    rfl
  obtain ⟨L, hL⟩ : ∃ L, M.map B = L := ⟨_, rfl⟩
  have HL : Hid (M.map B = L) := hL
  rw [hL] at HE hln2 h1c
  clear hL
  have q1 : (1 : Int) ≤ (m : Int) := by omega
  have q2 : (m : Int) ≤ 32 := by omega
  have q3 : (0 : Int) ≤ (m : Int) := by omega
  go_enter Tryz.func104, Tryz.ntmps104
  go_wp2_with fail
  refine HE.out.mono ?_
  rintro e w2 ⟨rfl, hb2⟩
  go_wp2_with (first | (refine wpList_alloc_row _ rfl (some 5) rfl 123 123 rfl (zeros8.map B) alloc32 ?_; intro g2 w3 hr3 hb3) | (refine wpList_store_whole _ rfl rfl 123 (.tmp 5) (.tmp 7) rfl w2.heap.size g2 32 (zeros8.map B) L rfl rfl hr3 hln2 size32 h1c ?_; intro w4 hr4 hg4) | (refine wpList_string_row _ rfl (.tmp 9) 22 9 5 rfl w2.heap.size g2 m 32 (M.take m) rfl (by rw [List.map_take, HL.out]; exact row_take hr4 m h2) Tryz.underlying22 Tryz.underlying5 Tryz.underlying9 ?_))
  go_ret
  have hw3 : Below w.heap.size w w3 := hb2.trans (hb3.mono hb2.size)
  exact ⟨rfl, hw3.trans (below_of_grown hg4 (by have := hr3.ge; have := hb2.size; omega) (by have := hw3.size; omega))⟩
/-- What is hashed of an encoding, cut to a width. -/
def digB (q : ByteArray) (m : Nat) : ByteArray := ⟨((sha (78 :: q.data.toList)).take m).toArray⟩
/-- The root of a tree. -/
def rootT (m : Nat) : Tr PairT → ByteArray
  | .nil => ⟨#[]⟩
  | .node l x r => digB (encS x.1 x.2 (rootT m l) (rootT m r) m) m
/-- The encoding of a tree's top. -/
def encT (m : Nat) : Tr PairT → ByteArray
  | .nil => ⟨#[]⟩
  | .node l x r => encS x.1 x.2 (rootT m l) (rootT m r) m
/-- With all hashes. -/
def hf (m : Nat) (t : Tr PairT) : ByteArray × ByteArray := (encT m t, rootT m t)
theorem digB_size (q : ByteArray) (m : Nat) (h : m ≤ 32) : (digB q m).size = m := by
  show ((sha (78 :: q.data.toList)).take m).toArray.size = m
  rw [List.size_toArray, List.length_take, sha_len32]; omega
theorem rootT_size (m : Nat) (h : m ≤ 32) (t : Tr PairT) : (rootT m t).size = 0 ∨ (rootT m t).size = m := by
  cases t with
  | nil => exact .inl rfl
  | node l x r => exact .inr (digB_size _ m h)

/-- Only blocks of 'M' may have turned. -/
structure Upd (M : Nat → Prop) (w w' : World) : Prop where
  os : w'.os = w.os
  tape : w'.tape = w.tape
  output : w'.output = w.output
  size : w.heap.size ≤ w'.heap.size
  block : ∀ k, k < w.heap.size → ¬ M k → w'.heap[k]? = w.heap[k]?
theorem Upd.refl (M : Nat → Prop) (w : World) : Upd M w w := ⟨rfl, rfl, rfl, Nat.le_refl _, fun _ _ _ => rfl⟩
theorem Upd.trans {M : Nat → Prop} {a b c : World} (h : Upd M a b) (k : Upd M b c) : Upd M a c :=
  ⟨k.os.trans h.os, k.tape.trans h.tape, k.output.trans h.output, Nat.le_trans h.size k.size, fun i hi hM => (k.block i (Nat.lt_of_lt_of_le hi h.size) hM).trans (h.block i hi hM)⟩
theorem Upd.mono {M M' : Nat → Prop} {a b : World} (h : Upd M a b) (hM : ∀ k, M k → M' k) : Upd M' a b := ⟨h.os, h.tape, h.output, h.size, fun k hk hn => h.block k hk fun q => hn (hM k q)⟩
theorem Upd.of_below {M : Nat → Prop} {a b : World} (h : Below a.heap.size a b) : Upd M a b := ⟨h.os, h.tape, h.output, h.size, fun k hk _ => h.block k hk⟩
theorem Upd.below {M : Nat → Prop} {a b : World} {n : Nat} (h : Upd M a b) (hn : n ≤ a.heap.size) (hM : ∀ k, M k → n ≤ k) : Below n a b :=
  ⟨h.os, h.tape, h.output, h.size, fun k hk => h.block k (Nat.lt_of_lt_of_le hk hn) fun q => by have := hM k q; omega⟩
theorem Upd.setCell {M : Nat → Prop} {a b : World} (h : Upd M a b) (g o : Nat) (v : Value) (hM : M g) : Upd M a (b.setCell ⟨g, o, none⟩ v) := by
  refine ⟨h.os, h.tape, h.output, ?_, fun k hk hn => ?_⟩
  · have : (b.setCell ⟨g, o, none⟩ v).heap.size = b.heap.size := by simp [World.setCell]
    rw [this]; exact h.size
  · rw [Below.heap_setCell _ _ _ _ (fun e => hn (by rw [e]; exact hM))]
    exact h.block k hk hn
theorem Upd.cell {M : Nat → Prop} {a b : World} (h : Upd M a b) {k o : Nat} {v : Value} (hc : a.cell? ⟨k, o, none⟩ = some v) (hn : ¬ M k) : b.cell? ⟨k, o, none⟩ = some v := by
  have hlt : k < a.heap.size := World.block_lt_of_cell? a _ hc
  have e := h.block k hlt hn
  rw [← hc]
  unfold World.cell?
  simp only [e]

/-- A tree in memory, with its blocks in the order of the keys. -/
def TAL (n0 : Nat) (f : Tr PairT → ByteArray × ByteArray) : Tr PairT → Option Addr → List Nat → World → Prop
  | .nil, p, bs, _ => p = none ∧ bs = []
  | .node l x r, p, bs, w => ∃ (b : Nat) (pl pr : Option Addr) (bl br : List Nat), p = some ⟨b, 0, none⟩ ∧ bs = bl ++ b :: br ∧ n0 ≤ b ∧ TB b x pl pr (f (.node l x r)) w ∧ TAL n0 f l pl bl w ∧ TAL n0 f r pr br w
section
variable {n0 : Nat} {f : Tr PairT → ByteArray × ByteArray}
theorem TA.list {w : World} : ∀ {t : Tr PairT} {p : Option Addr}, TA n0 f t p w → ∃ bs, TAL n0 f t p bs w
  | .nil, _, h => ⟨[], h, rfl⟩
  | .node _ _ _, _, ⟨b, pl, pr, h1, h0, h2, h3, h4⟩ => by
    obtain ⟨bl, hl⟩ := h3.list
    obtain ⟨br, hr⟩ := h4.list
    exact ⟨_, b, pl, pr, bl, br, h1, rfl, h0, h2, hl, hr⟩
theorem TAL.ta {w : World} : ∀ {t : Tr PairT} {p : Option Addr} {bs : List Nat}, TAL n0 f t p bs w → TA n0 f t p w
  | .nil, _, _, h => h.1
  | .node _ _ _, _, _, ⟨b, pl, pr, _, _, h1, _, h0, h2, h3, h4⟩ => ⟨b, pl, pr, h1, h0, h2, h3.ta, h4.ta⟩
theorem TB.upd {M : Nat → Prop} {b : Nat} {x : PairT} {l r : Option Addr} {e : ByteArray × ByteArray} {w w' : World} (h : TB b x l r e w) (hu : Upd M w w') (hn : ¬ M b) : TB b x l r e w' :=
  (hu.block b h.lt hn).trans h
theorem TAL.upd {M : Nat → Prop} {w w' : World} (hu : Upd M w w') : ∀ {t : Tr PairT} {p : Option Addr} {bs : List Nat}, TAL n0 f t p bs w → (∀ b ∈ bs, ¬ M b) → TAL n0 f t p bs w'
  | .nil, _, _, h, _ => h
  | .node _ _ _, _, _, ⟨b, pl, pr, bl, br, h1, h5, h0, h2, h3, h4⟩, hn => by
    subst h5
    exact ⟨b, pl, pr, bl, br, h1, rfl, h0, h2.upd hu (hn b (by simp)), h3.upd hu (fun c hc => hn c (by simp [hc])), h4.upd hu (fun c hc => hn c (by simp [hc]))⟩
theorem TAL.mem {w : World} : ∀ {t : Tr PairT} {p : Option Addr} {bs : List Nat}, TAL n0 f t p bs w → ∀ b ∈ bs, ∃ x ∈ t.inord, ∃ l r e, TB b x l r e w
  | .nil, _, _, h, b, hb => by rw [h.2] at hb; cases hb
  | .node tl y tr, _, _, ⟨b0, pl, pr, bl, br, h1, h5, h0, h2, h3, h4⟩, b, hb => by
    subst h5
    rcases List.mem_append.1 hb with q | q
    · obtain ⟨x, hx, rest⟩ := h3.mem b q
      exact ⟨x, by simp [Tr.inord, hx], rest⟩
    · rcases List.mem_cons.1 q with rfl | q
      · exact ⟨y, by simp [Tr.inord], pl, pr, _, h2⟩
      · obtain ⟨x, hx, rest⟩ := h4.mem b q
        exact ⟨x, by simp [Tr.inord, hx], rest⟩
theorem TAL.ge {w : World} : ∀ {t : Tr PairT} {p : Option Addr} {bs : List Nat}, TAL n0 f t p bs w → ∀ b ∈ bs, n0 ≤ b
  | .nil, _, _, h, b, hb => by rw [h.2] at hb; cases hb
  | .node tl y tr, _, _, ⟨b0, pl, pr, bl, br, h1, h5, h0, h2, h3, h4⟩, b, hb => by
    subst h5
    rcases List.mem_append.1 hb with q | q
    · exact h3.ge b q
    · rcases List.mem_cons.1 q with rfl | q
      · exact h0
      · exact h4.ge b q
/-- A block whose first cell is no text is none of a tree's. -/
theorem TAL.notin {w : World} {t : Tr PairT} {p : Option Addr} {bs : List Nat} (h : TAL n0 f t p bs w) (k : Nat) {v : Value} (hv : w.cell? ⟨k, 0, none⟩ = some v) (hs : ∀ s, v ≠ .string s) : k ∉ bs := fun hk => by
  obtain ⟨x, _, l, r, e, hT⟩ := h.mem k hk
  exact hs _ (Option.some.inj (hv.symm.trans hT.c0))
theorem TB.key {b : Nat} {x y : PairT} {l r l2 r2 : Option Addr} {e e2 : ByteArray × ByteArray} {w : World} (h : TB b x l r e w) (k : TB b y l2 r2 e2 w) : x.1 = y.1 := by
  have := h.c0.symm.trans k.c0
  simpa using this
theorem TAL.nodup {w : World} : ∀ {t : Tr PairT} {p : Option Addr} {bs : List Nat}, TAL n0 f t p bs w → Apart t.inord → bs.Nodup
  | .nil, _, _, h, _ => by rw [h.2]; exact List.nodup_nil
  | .node tl y tr, _, _, ⟨b0, pl, pr, bl, br, h1, h5, h0, h2, h3, h4⟩, ha => by
    subst h5
    unfold Apart at ha
    simp only [Tr.inord] at ha
    obtain ⟨a1, a2, a3⟩ := List.pairwise_append.1 ha
    obtain ⟨a4, a5⟩ := List.pairwise_cons.1 a2
    refine List.nodup_append.2 ⟨h3.nodup a1, List.nodup_cons.2 ⟨fun hq => ?_, h4.nodup a5⟩, fun c hc d hd e => ?_⟩
    · obtain ⟨z, hz, l, r, e, hT⟩ := h4.mem b0 hq
      exact a4 z hz (h2.key hT)
    · subst e
      obtain ⟨z, hz, l, r, e, hT⟩ := h3.mem c hc
      rcases List.mem_cons.1 hd with rfl | hd
      · exact a3 z hz y (by simp) (hT.key h2)
      · obtain ⟨z2, hz2, l2, r2, e2, hT2⟩ := h4.mem c hd
        exact a3 z hz z2 (by simp [hz2]) (hT.key hT2)
end
/-- The encoding, or the hash, written into a node. -/
theorem treeL_set37 (X : List UInt8) (hX : X.length = 32) (k v : ByteArray) (l r : Option Addr) (enc h e2 : ByteArray) : (treeL X k v l r enc h).set 37 (.string e2) = treeL X k v l r e2 h := by
  have e : ∀ z, treeL X k v l r z h = ([.string k, .string v] ++ (X.map B ++ [Value.string k])) ++ [.pointer l, .pointer r, .string z, .string h] := fun z => by unfold treeL rankL; simp
  have hl2 : ([Value.string k, .string v] ++ (X.map B ++ [Value.string k])).length = 35 := by simp [hX]
  rw [e, e, List.set_append_right _ _ (by omega), hl2]; rfl
theorem treeL_set38 (X : List UInt8) (hX : X.length = 32) (k v : ByteArray) (l r : Option Addr) (enc h e2 : ByteArray) : (treeL X k v l r enc h).set 38 (.string e2) = treeL X k v l r enc e2 := by
  have e : ∀ z, treeL X k v l r enc z = ([.string k, .string v] ++ (X.map B ++ [Value.string k])) ++ [.pointer l, .pointer r, .string enc, .string z] := fun z => by unfold treeL rankL; simp
  have hl2 : ([Value.string k, .string v] ++ (X.map B ++ [Value.string k])).length = 35 := by simp [hX]
  rw [e, e, List.set_append_right _ _ (by omega), hl2]; rfl
theorem TB.setEnc {b : Nat} {x : PairT} {l r : Option Addr} {e : ByteArray × ByteArray} {w : World} (h : TB b x l r e w) (s : ByteArray) : TB b x l r (s, e.2) (w.setCell ⟨b, 37, none⟩ (.string s)) := by
  have := heap_setCell_same w b 37 _ 127 (.string s) h
  unfold TB
  rw [this]
  simp only [List.setIfInBounds_toArray, treeL_set37 _ (sha_len32 _)]
theorem TB.setHash {b : Nat} {x : PairT} {l r : Option Addr} {e : ByteArray × ByteArray} {w : World} (h : TB b x l r e w) (s : ByteArray) : TB b x l r (e.1, s) (w.setCell ⟨b, 38, none⟩ (.string s)) := by
  have := heap_setCell_same w b 38 _ 127 (.string s) h
  unfold TB
  rw [this]
  simp only [List.setIfInBounds_toArray, treeL_set38 _ (sha_len32 _)]
theorem TB.frozen {b o : Nat} {x : PairT} {l r : Option Addr} {e : ByteArray × ByteArray} {w : World} (h : TB b x l r e w) : w.frozen? ⟨b, o, none⟩ = false := by
  unfold TB at h
  unfold World.frozen?
  simp [h]
end Go.Proofs.YtmfhfehemoeeeaaGreatDoor
