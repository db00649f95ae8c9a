import Derived.Test.YthklibioolnggaaGreatDoorAl
namespace Go.Proofs.YthklibioolnggaaGreatDoor
open Go.RowKit Go.Proofs.Sha

def opV (k : Nat) (key val : ByteArray) (n m : Int) (a : Option Addr) (l c : Nat) : Array Value := #[.int .i64 (k : Int), .string key, .string val, .int .i64 n, .int .i64 m, .slice a l c]
def OpPost (l : ByteArray) (w : World) (e : Ending) (w' : World) : Prop := match lineOp l with
  | none => (∃ k : Nat, e = .returned (.tuple #[.agg (opV k ⟨#[]⟩ ⟨#[]⟩ 0 0 none 0 0), .bool false])) ∧ Below w.heap.size w w'
  | some o => ∃ a c, e = .returned (.tuple #[.agg (opV o.kind o.key o.val o.n o.m a o.picks.length c), .bool true]) ∧ w'.ownsRow w.heap.size 3 1 (.slice a o.picks.length c) o.picks.length (o.picks.map I) ∧ Below w.heap.size w w'

/-- Six stores into an operation's block. -/
def set6 (W : World) (g : Nat) (v0 v1 v2 v3 v4 v5 : Value) : World := (((((W.setCell ⟨g, 0, none⟩ v0).setCell ⟨g, 1, none⟩ v1).setCell ⟨g, 2, none⟩ v2).setCell ⟨g, 3, none⟩ v3).setCell ⟨g, 4, none⟩ v4).setCell ⟨g, 5, none⟩ v5
theorem set6_heap {W : World} {g : Nat} {u0 u1 u2 u3 u4 u5 : Value} (h : W.heap[g]? = some (.cells #[u0, u1, u2, u3, u4, u5] 37)) (v0 v1 v2 v3 v4 v5 : Value) : (set6 W g v0 v1 v2 v3 v4 v5).heap[g]? = some (.cells #[v0, v1, v2, v3, v4, v5] 37) :=
  heap_setCell_same _ g 5 _ 37 v5 (heap_setCell_same _ g 4 _ 37 v4 (heap_setCell_same _ g 3 _ 37 v3 (heap_setCell_same _ g 2 _ 37 v2 (heap_setCell_same _ g 1 _ 37 v1 (heap_setCell_same _ g 0 _ 37 v0 h)))))
theorem set6_below {w W : World} {g : Nat} (h : Below w.heap.size w W) (hg : w.heap.size ≤ g) (v0 v1 v2 v3 v4 v5 : Value) : Below w.heap.size w (set6 W g v0 v1 v2 v3 v4 v5) :=
  (((((h.setCell (p := ⟨g, 0, none⟩) hg _).setCell (p := ⟨g, 1, none⟩) hg _).setCell (p := ⟨g, 2, none⟩) hg _).setCell (p := ⟨g, 3, none⟩) hg _).setCell (p := ⟨g, 4, none⟩) hg _).setCell (p := ⟨g, 5, none⟩) hg _
set_option maxRecDepth 100000 in
theorem retOp {fn : Func} {R : Ending → World → Prop} {A : Act} {g2 : Nat} {b : Bool} {x0 x1 x2 x3 x4 x5 : Value} {W : World} (hres : fn.results = #[.cell 2 37, .tmp 3]) (h2 : A.tmps.getD 2 undef = .pointer (some ⟨g2, 0, none⟩)) (h3 : A.tmps.getD 3 undef = .bool b) (hd : A.defers = [])
    (hn : W.heap[g2]? = some (.cells #[x0, x1, x2, x3, x4, x5] 37)) (h : R (.returned (.tuple #[.agg #[x0, x1, x2, x3, x4, x5], .bool b])) W) : bodyPost Tryz.prog fn R Exit.ret A W := by
  have c0 := Lib.cell_of_heap hn 0
  have c1 := Lib.cell_of_heap hn 1
  have c2 := Lib.cell_of_heap hn 2
  have c3 := Lib.cell_of_heap hn 3
  have c4 := Lib.cell_of_heap hn 4
  have c5 := Lib.cell_of_heap hn 5
  have h2' : A.tmps[2]?.getD undef = .pointer (some ⟨g2, 0, none⟩) := by simpa using h2
  have h3' : A.tmps[3]?.getD undef = .bool b := by simpa using h3
  refine bodyPost_ret (v := .tuple #[.agg #[x0, x1, x2, x3, x4, x5], .bool b]) ?_ hd h
  simp [results, hres, go_sem, asAddr, h2', h3', c0, c1, c2, c3, c4, c5]
theorem iarg_of_own {W : World} {base : Nat} {xs : List Int} {a : Option Addr} {m c : Nat} (h : W.ownsRow base 3 1 (.slice a m c) m (xs.map I)) : IArg a xs W := by
  refine ⟨fun h0 => ?_⟩
  have hl := h.1
  rw [List.length_map] at hl
  rcases h.2 with ⟨h1, h2⟩ | ⟨g, cap, cur, hv, hb, hg, h3, h4, h5, h6⟩
  · omega
  · injection hv with e1 e2 e3
    refine ⟨g, 0, e1, (Array.getElem?_eq_some_iff.1 hg).1, fun j hj => ?_⟩
    rw [Nat.zero_add, Lib.cell_of_heap hg j]
    have e : cur.toList[j]? = (xs.map I)[j]? := by rw [← h6, List.getElem?_take_of_lt (by omega)]
    rw [← Array.getElem?_toList, e, List.getElem?_map, List.getElem?_eq_getElem hj, List.getD_eq_getElem?_getD, List.getElem?_eq_getElem hj]; rfl
theorem own_setc {W : World} {base T z n g o : Nat} {v u : Value} {xs : List Value} {cs : Array Value} {T' : TypeId} (h : W.ownsRow base T z v n xs) (hg : W.heap[g]? = some (.cells cs T')) (hT : T ≠ T') : (W.setCell ⟨g, o, none⟩ u).ownsRow base T z v n xs :=
  ownG_kept h (fun q hv _ => by
    obtain ⟨_, _, cur, h4⟩ := ownG_cells h hv
    exact Below.heap_setCell _ _ _ _ (ne_of_type h4 hg hT))
theorem own_set6 {W : World} {base T z n g : Nat} {v : Value} {xs : List Value} {u0 u1 u2 u3 u4 u5 : Value} (h : W.ownsRow base T z v n xs) (hg : W.heap[g]? = some (.cells #[u0, u1, u2, u3, u4, u5] 37)) (hT : T ≠ 37) (v0 v1 v2 v3 v4 v5 : Value) : (set6 W g v0 v1 v2 v3 v4 v5).ownsRow base T z v n xs :=
  ownG_kept h (fun q hv _ => by
    obtain ⟨_, _, cur, h4⟩ := ownG_cells h hv
    have hne := ne_of_type h4 hg hT
    unfold set6
    rw [Below.heap_setCell _ _ _ _ (by exact hne), Below.heap_setCell _ _ _ _ (by exact hne), Below.heap_setCell _ _ _ _ (by exact hne), Below.heap_setCell _ _ _ _ (by exact hne), Below.heap_setCell _ _ _ _ (by exact hne), Below.heap_setCell _ _ _ _ (by exact hne)])
theorem lens_cnt {sh : List UInt8} {ts : List ByteArray} (h : sh.length = ts.length) : (wordsT sh ts).length = sh.countP (· == 119) ∧ (numsT sh ts).length = sh.countP (· != 119) := by
  induction sh generalizing ts with
  | nil => simp [wordsT, numsT]
  | cons c r ih => cases ts with
    | nil => simp at h
    | cons t u =>
      have := @ih u (by simpa using h)
      rw [wordsT, numsT, List.countP_cons, List.countP_cons]
      by_cases hc : c = 119
      · subst hc; simp [this.1, this.2]
      · simp [hc, this.1, this.2]
theorem kind_lt {l : List UInt8} {k : Nat} (h : kindOf l = some k) : k < 13 := by
  have := List.findIdx?_eq_some_iff_getElem.1 h
  obtain ⟨h1, _⟩ := this
  exact h1
theorem shape_cases (k : Nat) (hk : k < 13) : shapeOf k = [42] ∨ (shapeOf k ≠ [42] ∧ ((shapeOf k).countP (· == 119), (shapeOf k).countP (· != 119)) ∈ [(0, 0), (1, 0), (2, 0), (0, 1), (2, 1), (0, 2)]) := by
  rcases (show k = 0 ∨ k = 1 ∨ k = 2 ∨ k = 3 ∨ k = 4 ∨ k = 5 ∨ k = 6 ∨ k = 7 ∨ k = 8 ∨ k = 9 ∨ k = 10 ∨ k = 11 ∨ k = 12 by omega) with rfl | rfl | rfl | rfl | rfl | rfl | rfl | rfl | rfl | rfl | rfl | rfl | rfl <;> decide
theorem shape_letters (k : Nat) (hk : k < 13) (h : shapeOf k ≠ [42]) (i : Nat) (hi : i < (shapeOf k).length) : (shapeOf k).getD i 0 = 110 ∨ (shapeOf k).getD i 0 = 119 := by
  have key : ∀ k, k < 13 → shapeOf k ≠ [42] → ∀ c ∈ shapeOf k, c = 110 ∨ c = 119 := by
    intro k hk
    rcases (show k = 0 ∨ k = 1 ∨ k = 2 ∨ k = 3 ∨ k = 4 ∨ k = 5 ∨ k = 6 ∨ k = 7 ∨ k = 8 ∨ k = 9 ∨ k = 10 ∨ k = 11 ∨ k = 12 by omega) with rfl | rfl | rfl | rfl | rfl | rfl | rfl | rfl | rfl | rfl | rfl | rfl | rfl <;> decide
  refine key k hk h _ ?_
  rw [List.getD_eq_getElem?_getD, List.getElem?_eq_getElem hi]
  exact List.getElem_mem hi
theorem shape_letters_lt (k : Nat) (hk : k < 13) : (shapeOf k).length ≤ 3 := by
  rcases (show k = 0 ∨ k = 1 ∨ k = 2 ∨ k = 3 ∨ k = 4 ∨ k = 5 ∨ k = 6 ∨ k = 7 ∨ k = 8 ∨ k = 9 ∨ k = 10 ∨ k = 11 ∨ k = 12 by omega) with rfl | rfl | rfl | rfl | rfl | rfl | rfl | rfl | rfl | rfl | rfl | rfl | rfl <;> decide

set_option maxRecDepth 100000 in
set_option maxHeartbeats 1000000 in
theorem lop_any (l : ByteArray) (w : World) (hl : l.size ≤ 1048576) : Calls Tryz.prog 12 #[.string l] w (OpPost l w) := by
  have HC : Hid (∀ W, Calls Tryz.prog 19 #[.string l, .int .u8 32] W fun e w' => ∃ a c, e = .returned (.slice a (cutB 32 l).length c) ∧ (cutB 32 l).length ≤ c ∧ TArg a (cutB 32 l) w' ∧ Below W.heap.size W w') := fun W => cut_any l 32 W hl
  have hsz := cutB_size 32 l
  have hne := cutB_ne 32 l
  have hlo : Hid (lineOp l = match kindOf ((cutB 32 l).getD 0 ⟨#[]⟩).data.toList with
    | none => none
    | some k => if allT (shapeAt k (cutB 32 l).tail.length) (cutB 32 l).tail = true then some (mkOp k (wordsT (shapeAt k (cutB 32 l).tail.length) (cutB 32 l).tail) (numsT (shapeAt k (cutB 32 l).tail.length) (cutB 32 l).tail)) else none) := rfl
  obtain ⟨R, hR⟩ : ∃ R, OpPost l w = R := ⟨_, rfl⟩
  have hRo : Hid (OpPost l w = R) := hR
  rw [hR]
  clear hR
  generalize cutB 32 l = P at HC hsz hne hlo
  obtain ⟨n, hn⟩ : ∃ n, P.length = n + 1 := ⟨P.length - 1, by omega⟩
  have hPn : Hid (P.length = n + 1) := hn
  rw [List.length_tail, hn, Nat.add_sub_cancel] at hlo
  rw [hn] at HC hsz
  have hn2 := hsz.1
  have hps : Hid (∀ x ∈ P, x.size ≤ l.size) := hsz.2
  clear hn hne hsz
  have nA := heap_alloc_new w (.cells (opV 0 ⟨#[]⟩ ⟨#[]⟩ 0 0 none 0 0) 37)
  have bA : Below w.heap.size w (w.alloc (.cells (opV 0 ⟨#[]⟩ ⟨#[]⟩ 0 0 none 0 0) 37)) := (Below.refl _ _).alloc (Nat.le_refl _) _
  unfold opV at nA bA
  go_enter Tryz.func12, Tryz.ntmps12
  go_upto_region 1 with fail
  generalize w.alloc (.cells #[.int .i64 ((0 : Nat) : Int), .string ⟨#[]⟩, .string ⟨#[]⟩, .int .i64 0, .int .i64 0, .slice none 0 0] 37) = W0 at nA bA ⊢
  obtain ⟨g2, hg2⟩ : ∃ g, w.heap.size = g := ⟨_, rfl⟩
  have hg2l : w.heap.size ≤ g2 := Nat.le_of_eq hg2
  rw [hg2] at nA
  try rw [hg2]
  clear hg2
  go_upto_region 2 with (first | (go_at_call 19; refine (HC.out _).mono ?_; rintro e w1 ⟨a1, c1, rfl, hcap, hT1, hb1⟩))
  obtain ⟨b1, off1, rfl, hbl1, hc1⟩ := hT1.at_ (by rw [hPn.out]; omega)
  have d0 := hc1 0 (by rw [hPn.out]; omega)
  rw [Nat.add_zero] at d0
  have hTr := hT1.tail
  have n1 : w1.heap[g2]? = _ := (hb1.block g2 (Array.getElem?_eq_some_iff.1 nA).1).trans nA
  have bw1 := bA.trans (hb1.mono bA.size)
  have hps2 : Hid (∀ x ∈ P.tail, x.size ≤ l.size) := fun x hx => hps.out x (List.mem_of_mem_tail hx)
  have hrl : Hid (P.tail.length = n) := by show _ = _; rw [List.length_tail, hPn.out]; omega
  generalize P.getD 0 ⟨#[]⟩ = y at d0 hlo
  generalize P.tail = rest at hlo hTr hps2 hrl
  clear hc1 hT1 HC hps hPn hb1 nA bA W0
  have HK : Hid (∀ W, Calls Tryz.prog 21 #[.string y] W fun e w' => e = .returned (.tuple #[.int .i64 ((kindS y).1 : Int), .string (kindS y).2]) ∧ Below W.heap.size W w') := fun W => lkind_any y W
  obtain ⟨k1, hk1⟩ : ∃ k1, (kindS y).1 = k1 := ⟨_, rfl⟩
  obtain ⟨ss, hss⟩ : ∃ ss, (kindS y).2 = ss := ⟨_, rfl⟩
  rw [hk1, hss] at HK
  go_upto_region 3 with (first | (go_at_call 21; refine (HK.out _).mono ?_; rintro e w2 ⟨rfl, hb2⟩))
  have n2 : w2.heap[g2]? = _ := (hb2.block g2 (Array.getElem?_eq_some_iff.1 n1).1).trans n1
  have bw2 := bw1.trans (hb2.mono bw1.size)
  have hTr2 := hTr.below hb2
  clear hTr n1 bw1 hb2 d0 HK hbl1
  have n3 := heap_alloc_new w2 (.cells #[.int .i64 (k1 : Int), .string ⟨#[]⟩, .string ⟨#[]⟩, .int .i64 0, .int .i64 0, .slice none 0 0] 37)
  have b3 : Below w2.heap.size w2 (w2.alloc (.cells #[.int .i64 (k1 : Int), .string ⟨#[]⟩, .string ⟨#[]⟩, .int .i64 0, .int .i64 0, .slice none 0 0] 37)) := (Below.refl _ _).alloc (Nat.le_refl _) _
  have n2' : (w2.alloc (.cells #[.int .i64 (k1 : Int), .string ⟨#[]⟩, .string ⟨#[]⟩, .int .i64 0, .int .i64 0, .slice none 0 0] 37)).heap[g2]? = _ := (b3.block g2 (Array.getElem?_eq_some_iff.1 n2).1).trans n2
  have hne2 : w2.heap.size ≠ g2 := fun e => by have := (Array.getElem?_eq_some_iff.1 n2).1; omega
  have hTr3 := hTr2.below b3
  have bw3 := bw2.trans (b3.mono bw2.size)
  have hgal : w.heap.size ≤ w2.heap.size := bw2.size
  go_upto_region 4 with fail
  generalize w2.alloc (.cells #[.int .i64 (k1 : Int), .string ⟨#[]⟩, .string ⟨#[]⟩, .int .i64 0, .int .i64 0, .slice none 0 0] 37) = W3 at n3 n2' hTr3 bw3 b3 ⊢
  generalize w2.heap.size = ga at n3 hne2 hgal ⊢
  clear n2 bw2 hTr2 b3 w2 w1
  have z1 : (1 : Int) ≤ (n : Int) + 1 := by omega
  have z2 : (n : Int) + 1 ≤ (c1 : Int) := by omega
  have ca0 := Lib.cell_of_heap n3 0
  have ca1 := Lib.cell_of_heap n3 1
  have ca2 := Lib.cell_of_heap n3 2
  have ca3 := Lib.cell_of_heap n3 3
  have ca4 := Lib.cell_of_heap n3 4
  have ca5 := Lib.cell_of_heap n3 5
  have cb0 := Lib.cell_of_heap n2' 0
  have cb1 := Lib.cell_of_heap n2' 1
  have cb2 := Lib.cell_of_heap n2' 2
  have cb3 := Lib.cell_of_heap n2' 3
  have cb4 := Lib.cell_of_heap n2' 4
  have cb5 := Lib.cell_of_heap n2' 5
  have fb : ∀ j, W3.frozen? ⟨g2, j, none⟩ = false := fun j => by rw [World.frozen?, n2']; rfl
  have hTar : TArg (if c1 = 1 then some ⟨b1, off1, none⟩ else some ⟨b1, off1 + 1, none⟩) rest W3 := by
    by_cases hc : c1 = 1
    · refine ⟨fun h0 => ?_⟩
      rw [hrl.out] at h0; omega
    · rw [if_neg hc]; exact hTr3
  go_upto_region 5 with fail
  generalize (if c1 = 1 then some (⟨b1, off1, none⟩ : Addr) else some ⟨b1, off1 + 1, none⟩) = ar at hTar ⊢
  generalize c1 - 1 = cr
  clear hTr3 z1 z2 hcap
  cases hk : kindOf y.data.toList with
  | none =>
    have hks : kindS y = (0, ⟨#[]⟩) := by rw [kindS, hk]
    rw [hks] at hk1 hss
    subst hk1 hss
    have hlo2 : Hid (lineOp l = none) := by show _ = _; rw [hlo.out, hk]
    clear hlo hk hks
    go_wp2_with fail
    refine retOp rfl rfl rfl rfl (set6_heap n2' _ _ _ _ _ _) ?_
    rw [← hRo.out]
    unfold OpPost
    rw [hlo2.out]
    exact ⟨⟨0, rfl⟩, set6_below bw3 hg2l _ _ _ _ _ _⟩
  | some k =>
    have hks : kindS y = (k + 1, bs (shapeOf k)) := by rw [kindS, hk]
    rw [hks] at hk1 hss
    simp only at hk1 hss
    have hk13 := kind_lt hk
    have hlo' : Hid (lineOp l = if allT (shapeAt k n) rest = true then some (mkOp k (wordsT (shapeAt k n) rest) (numsT (shapeAt k n) rest)) else none) := by show _ = _; rw [hlo.out, hk]
    have hsl := shape_letters_lt k hk13
    clear hlo hk hks
    subst hk1
    have e0 : ((((k + 1 : Nat) : Int)) == 0) = false := by rw [beq_eq_false_iff_ne]; omega
    have hssl : ss.data.toList = shapeOf k := by rw [← hss]; simp [bs]
    have hsss : ss.size = (shapeOf k).length := by rw [← hssl]; rfl
    have hNB : shapeOf k = [42] ∨ (shapeOf k ≠ [42] ∧ (shapeOf k).length = n) ∨ (shapeOf k ≠ [42] ∧ (shapeOf k).length ≠ n) := by
      by_cases h1 : shapeOf k = [42]
      · exact .inl h1
      · by_cases h2 : (shapeOf k).length = n
        · exact .inr (.inl ⟨h1, h2⟩)
        · exact .inr (.inr ⟨h1, h2⟩)
    rcases hNB with hst | ⟨hst, hlen⟩ | ⟨hst, hlen⟩
    · have e1 : (ss.toList == [42]) = true := by rw [tl_eq, hssl, hst]; rfl
      obtain ⟨sh, hsh⟩ : ∃ sh, shapeAt k n = sh := ⟨_, rfl⟩
      rw [hsh] at hlo'
      rw [shapeAt, if_pos hst] at hsh
      have hshl : sh.length = n := by rw [← hsh, List.length_replicate]
      have hsc0 : ∀ i, i < n → sh.getD i 0 = 110 := fun i hi => by rw [← hsh, List.getD_eq_getElem?_getD, List.getElem?_replicate, if_pos hi]; rfl
      clear hsh
      obtain ⟨i9, hi9, hz0, hz1, hz2⟩ := info_parts2 info9
      obtain ⟨i3, hi3, hy0, hy1, hy2⟩ := info_parts2 info3
      have hbb : Below W3.heap.size W3 ((W3.alloc (.cells #[] 9)).alloc (.cells #[] 3)) := ((Below.refl _ _).alloc (Nat.le_refl _) _).alloc (by simp) _
      have hO9 : OwnV 9 1 W3 [] (some ⟨W3.heap.size, 0, none⟩) 0 0 ((W3.alloc (.cells #[] 9)).alloc (.cells #[] 3)) := ⟨⟨rfl, .inr ⟨_, 0, #[], rfl, Nat.le_refl _, (Below.heap_alloc _ _ _ (by simp)).trans (heap_alloc_new W3 (.cells #[] 9)), by simp⟩⟩, hbb⟩
      have hO10 : OwnV 3 1 W3 [] (some ⟨W3.heap.size + 1, 0, none⟩) 0 0 ((W3.alloc (.cells #[] 9)).alloc (.cells #[] 3)) := ⟨⟨rfl, .inr ⟨_, 0, #[], rfl, by omega, by have := heap_alloc_new (W3.alloc (.cells #[] 9)) (.cells #[] 3); rw [World.size_alloc] at this; exact this, by simp⟩⟩, hbb⟩
      clear hbb
      go_upto_region 9 with fail
      generalize (W3.alloc (.cells #[] 9)).alloc (.cells #[] 3) = W5 at hO9 hO10 ⊢
      generalize (some ⟨W3.heap.size, 0, none⟩ : Option Addr) = a90 at hO9 ⊢
      generalize (some ⟨W3.heap.size + 1, 0, none⟩ : Option Addr) = a100 at hO10 ⊢
      clear ca0 ca1 ca2 ca3 ca4 ca5 cb0 cb1 cb2 cb3 cb4 cb5 fb
      go_wp2_with fail
      go_loopw [9, 10, 11] (fun t9 t10 t11 wr => ∃ (i : Nat) (ws : List ByteArray) (ns : List Int) (a9 : Option Addr) (c9 : Nat) (a10 : Option Addr) (c10 : Nat), i ≤ n ∧ ws.length ≤ i ∧ ns.length ≤ i ∧ t11 = .int .i64 (i : Int) ∧ t9 = .slice a9 ws.length c9 ∧ t10 = .slice a10 ns.length c10 ∧ Hid (allT sh rest = allT (sh.drop i) (rest.drop i)) ∧ Hid (wordsT sh rest = ws ++ wordsT (sh.drop i) (rest.drop i)) ∧ Hid (numsT sh rest = ns ++ numsT (sh.drop i) (rest.drop i)) ∧ OwnV 9 1 W3 (ws.map Value.string) a9 ws.length c9 wr ∧ OwnV 3 1 W3 (ns.map I) a10 ns.length c10 wr) (fun _ _ t _ => n - (intOf t).toNat)
      case atStart => exact ⟨0, [], [], _, _, _, _, by omega, by simp, by simp, rfl, rfl, rfl, rfl, rfl, rfl, hO9, hO10⟩
      case round =>
        obtain ⟨i, ws, ns, a9, c9, a10, c10, hin, hwl, hnl, rfl, rfl, rfl, HA0, HW0, HI0, hT9, hT10⟩ := hrel
        obtain ⟨p, hp'⟩ : ∃ p, ws.length = p := ⟨_, rfl⟩
        obtain ⟨q, hq'⟩ : ∃ q, ns.length = q := ⟨_, rfl⟩
        rw [hp'] at hwl hT9
        rw [hq'] at hnl hT10
        rw [hp', hq']
        have hp : Hid (ws.length = p) := hp'
        have hq : Hid (ns.length = q) := hq'
        clear hp' hq' hO9 hO10
        by_cases hlt : i < n
        · have y1 : (0 : Int) ≤ (i : Int) := by omega
          have y2 : (i : Int) < (n : Int) := by omega
          obtain ⟨br, offr, rfl, hbr, hcr⟩ := (hTar.below hT9.bel).at_ (by rw [hrl.out]; omega)
          have cx := hcr i (by rw [hrl.out]; exact hlt)
          have hx : (rest.getD i ⟨#[]⟩).size ≤ 1048576 := Nat.le_trans (getD_size hps2.out i) hl
          have HAx := HA0.out.trans (all_drop (sh := sh) (ts := rest) (i := i) (by rw [hshl]; exact hlt) (by rw [hrl.out]; exact hlt))
          have HWx := HW0.out
          rw [words_drop (sh := sh) (ts := rest) (i := i) (by rw [hshl]; exact hlt) (by rw [hrl.out]; exact hlt)] at HWx
          have HIx := HI0.out
          rw [nums_drop (sh := sh) (ts := rest) (i := i) (by rw [hshl]; exact hlt) (by rw [hrl.out]; exact hlt)] at HIx
          generalize rest.getD i ⟨#[]⟩ = x at cx hx HAx HWx HIx
          have hsc := hsc0 i hlt
          generalize sh.getD i 0 = sc at HAx HWx HIx hsc
          have HA : Hid _ := HAx
          have HW : Hid _ := HWx
          have HI : Hid _ := HIx
          clear HAx HWx HIx HW0 HI0 hcr
          have hnb := num_both x.data.toList
          have hok : okT sc x = (numS x.data.toList).2 := by rw [hsc, okT_num 110 x (by decide), fit_none, Bool.and_true, hnb.1]
          obtain ⟨xi, hxi⟩ : ∃ xi, (numS x.data.toList).1 = xi := ⟨_, rfl⟩
          obtain ⟨xb, hxb⟩ : ∃ xb, (numS x.data.toList).2 = xb := ⟨_, rfl⟩
          have HNB : Hid (∀ W, Calls Tryz.prog 20 #[.string x] W fun e w' => e = .returned (.tuple #[.int .i64 xi, .bool xb]) ∧ ∃ m, w' = W.drewN m) := fun W => by
            have := lnumber_any x W hx
            rwa [hxi, hxb] at this
          go_upto_region 14 with (first | (go_at_call 20; refine (HNB.out _).mono ?_; rintro e wq ⟨rfl, mq, hwq⟩; have bq : Below wr.heap.size wr wq := (by rw [hwq]; exact dN (Below.refl _ _) _); clear hwq))
          have hT9q := hT9.below bq
          have hT10q := hT10.below bq
          cases xb with
          | false =>
            have hlo2 : Hid (lineOp l = none) := by
              show _ = _
              rw [hlo'.out, if_neg]
              rw [HA.out, hok, hxb]; simp
            have na := (hT9q.bel.block ga (Array.getElem?_eq_some_iff.1 n3).1).trans n3
            have nb := (hT9q.bel.block g2 (Array.getElem?_eq_some_iff.1 n2').1).trans n2'
            have ca0 := Lib.cell_of_heap na 0
            have cb0 := Lib.cell_of_heap nb 0
            have ca1 := Lib.cell_of_heap na 1
            have cb1 := Lib.cell_of_heap nb 1
            have ca2 := Lib.cell_of_heap na 2
            have cb2 := Lib.cell_of_heap nb 2
            have ca3 := Lib.cell_of_heap na 3
            have cb3 := Lib.cell_of_heap nb 3
            have ca4 := Lib.cell_of_heap na 4
            have cb4 := Lib.cell_of_heap nb 4
            have ca5 := Lib.cell_of_heap na 5
            have cb5 := Lib.cell_of_heap nb 5
            have fb : ∀ j, wq.frozen? ⟨g2, j, none⟩ = false := fun j => by rw [World.frozen?, nb]; rfl
            clear HA HW HI HA0
            go_wp2_with fail
            refine retOp rfl rfl rfl rfl (set6_heap nb _ _ _ _ _ _) ?_
            rw [← hRo.out]
            unfold OpPost
            rw [hlo2.out]
            exact ⟨⟨k + 1, rfl⟩, set6_below (bw3.trans (hT9q.bel.mono bw3.size)) hg2l _ _ _ _ _ _⟩
          | true =>
            have hval : (numI x.data.toList).1 = xi := by rw [← hxi]; exact hnb.2 (by rw [hnb.1, hxb])
            have HA' : Hid (allT sh rest = allT (sh.drop (i + 1)) (rest.drop (i + 1))) := by show _ = _; rw [HA.out, hok, hxb, Bool.true_and]
            have HW' : Hid (wordsT sh rest = ws ++ wordsT (sh.drop (i + 1)) (rest.drop (i + 1))) := by show _ = _; rw [HW.out, if_neg (by rw [hsc]; decide)]
            have HI' : Hid (numsT sh rest = (ns ++ [xi]) ++ numsT (sh.drop (i + 1)) (rest.drop (i + 1))) := by show _ = _; rw [HI.out, if_neg (by rw [hsc]; decide), hval, List.append_assoc]; rfl
            have own10 := hT10q.own
            have hbs := hT10q.bel.size
            clear HA HW HI HA0 hnb hok hxi hxb hval HNB bq hT9 hT10
            go_upto_region 11 with (at_builtin; refine wpList_append_lies _ rfl (.tmp 70) (.tmp 72) 35 rfl W3.heap.size 3 i3 (.int .i64 0) 1 8 Tryz.underlying35 hi3 hy0 hy1 hy2 rfl (by decide) (.slice a10 q c10) q (ns.map I) rfl (own10.alloc _) ⟨wq.heap.size, 0, none⟩ 1 1 [.int .i64 xi] rfl rfl (World.news_of_block (heap_alloc_new wq _)) (by simp [Value.oneCell']) (by decide) (by unfold maxLen; omega) (by omega) (by simp; omega) (wq.heap.size + 1) (by simp) ?_; intro g5 c5 w5 hown5 hgrow5 hat5 hlt5)
            have hlq : (ns ++ [xi]).length = q + 1 := by rw [List.length_append, hq.out]; rfl
            go_wp2_with fail
            go_roundw
            case rel =>
              (repeat apply Exists.intro)
              refine ⟨?_, rfl⟩
              refine ⟨i + 1, ws, ns ++ [xi], a9, c9, some ⟨g5, 0, none⟩, c5, by omega, by rw [hp.out]; omega, by rw [hlq]; omega, by go_num, by rw [hp.out], by rw [hlq], HA', HW', HI', ?_, ?_⟩
              · rw [hp.out]; exact hT9q.keep hT10q.own (by decide) hgrow5
              · rw [hlq, List.map_append]; exact hT10q.more hown5 hgrow5
            case measure => simp [intOf]; omega
        · have hin2 : i = n := by omega
          subst hin2
          have hA1 : allT sh rest = true := by rw [HA0.out, List.drop_eq_nil_of_le (by rw [hshl]; exact Nat.le_refl _), List.drop_eq_nil_of_le (by rw [hrl.out]; exact Nat.le_refl _)]; rfl
          have hW1 : wordsT sh rest = ws := by rw [HW0.out, List.drop_eq_nil_of_le (by rw [hshl]; exact Nat.le_refl _)]; simp [wordsT]
          have hI1 : numsT sh rest = ns := by rw [HI0.out, List.drop_eq_nil_of_le (by rw [hshl]; exact Nat.le_refl _)]; simp [numsT]
          have hlo2 : lineOp l = some (mkOp k ws ns) := by rw [hlo'.out, if_pos hA1, hW1, hI1]
          have na := (hT9.bel.block ga (Array.getElem?_eq_some_iff.1 n3).1).trans n3
          have nb := (hT9.bel.block g2 (Array.getElem?_eq_some_iff.1 n2').1).trans n2'
          have bwr := bw3.trans (hT9.bel.mono bw3.size)
          have ca0 := Lib.cell_of_heap na 0
          have cb0 := Lib.cell_of_heap nb 0
          have ca1 := Lib.cell_of_heap na 1
          have cb1 := Lib.cell_of_heap nb 1
          have ca2 := Lib.cell_of_heap na 2
          have cb2 := Lib.cell_of_heap nb 2
          have ca3 := Lib.cell_of_heap na 3
          have cb3 := Lib.cell_of_heap nb 3
          have ca4 := Lib.cell_of_heap na 4
          have cb4 := Lib.cell_of_heap nb 4
          have ca5 := Lib.cell_of_heap na 5
          have cb5 := Lib.cell_of_heap nb 5
          have fb : ∀ j, wr.frozen? ⟨g2, j, none⟩ = false := fun j => by rw [World.frozen?, nb]; rfl
          have fa : ∀ j, wr.frozen? ⟨ga, j, none⟩ = false := fun j => by rw [World.frozen?, na]; rfl
          have hlo3 : Hid (lineOp l = some ⟨k + 1, ⟨#[]⟩, ⟨#[]⟩, 0, 0, ns⟩) := by show _ = _; rw [hlo2, mkOp, if_pos hst]
          have own10 := hT10.own
          have ha2 := heap_setCell_same _ ga 5 _ 37 (.slice a10 q c10) na
          have hb2 : (wr.setCell ⟨ga, 5, none⟩ (.slice a10 q c10)).heap[g2]? = _ := (Below.heap_setCell _ _ _ _ (by exact fun h => hne2 h.symm)).trans nb
          clear HA0 HW0 HI0 hlo2 hW1 hI1 hA1 hlo' hst
          go_wp2_with fail
          refine retOp rfl rfl rfl rfl (set6_heap hb2 _ _ _ _ _ _) ?_
          rw [← hRo.out]
          unfold OpPost
          rw [hlo3.out]
          refine ⟨a10, c10, ?_, ?_, ?_⟩
          · rw [hq.out]; rfl
          · show World.ownsRow _ _ 3 1 (.slice a10 ns.length c10) ns.length (ns.map I)
            rw [hq.out]; exact ownG_mono (own_set6 (own_setc own10 na (by decide)) hb2 (by decide) _ _ _ _ _ _) bw3.size
          · exact set6_below (bwr.setCell (p := ⟨ga, 5, none⟩) hgal _) hg2l _ _ _ _ _ _
    · have e1 : (ss.toList == [42]) = false := by rw [tl_eq, hssl, beq_eq_false_iff_ne]; exact hst
      have e2 : ((n : Int) != (ss.size : Int)) = false := by
        have : (n : Int) = (ss.size : Int) := by omega
        rw [this]; simp
      obtain ⟨sh, hsh⟩ : ∃ sh, shapeAt k n = sh := ⟨_, rfl⟩
      rw [hsh] at hlo'
      rw [shapeAt, if_neg hst] at hsh
      have hshk : shapeOf k = sh := hsh
      have hshl : sh.length = n := by rw [← hsh]; exact hlen
      have hsn : ss.size = n := by omega
      clear hsh hlen hsss hsl hss
      obtain ⟨i9, hi9, hz0, hz1, hz2⟩ := info_parts2 info9
      obtain ⟨i3, hi3, hy0, hy1, hy2⟩ := info_parts2 info3
      have hbb : Below W3.heap.size W3 ((W3.alloc (.cells #[] 9)).alloc (.cells #[] 3)) := ((Below.refl _ _).alloc (Nat.le_refl _) _).alloc (by simp) _
      have hO9 : OwnV 9 1 W3 [] (some ⟨W3.heap.size, 0, none⟩) 0 0 ((W3.alloc (.cells #[] 9)).alloc (.cells #[] 3)) := ⟨⟨rfl, .inr ⟨_, 0, #[], rfl, Nat.le_refl _, (Below.heap_alloc _ _ _ (by simp)).trans (heap_alloc_new W3 (.cells #[] 9)), by simp⟩⟩, hbb⟩
      have hO10 : OwnV 3 1 W3 [] (some ⟨W3.heap.size + 1, 0, none⟩) 0 0 ((W3.alloc (.cells #[] 9)).alloc (.cells #[] 3)) := ⟨⟨rfl, .inr ⟨_, 0, #[], rfl, by omega, by have := heap_alloc_new (W3.alloc (.cells #[] 9)) (.cells #[] 3); rw [World.size_alloc] at this; exact this, by simp⟩⟩, hbb⟩
      clear hbb
      go_upto_region 9 with fail
      generalize (W3.alloc (.cells #[] 9)).alloc (.cells #[] 3) = W5 at hO9 hO10 ⊢
      generalize (some ⟨W3.heap.size, 0, none⟩ : Option Addr) = a90 at hO9 ⊢
      generalize (some ⟨W3.heap.size + 1, 0, none⟩ : Option Addr) = a100 at hO10 ⊢
      clear ca0 ca1 ca2 ca3 ca4 ca5 cb0 cb1 cb2 cb3 cb4 cb5 fb
      go_wp2_with fail
      go_loopw [9, 10, 11] (fun t9 t10 t11 wr => ∃ (i : Nat) (ws : List ByteArray) (ns : List Int) (a9 : Option Addr) (c9 : Nat) (a10 : Option Addr) (c10 : Nat), i ≤ n ∧ ws.length ≤ i ∧ ns.length ≤ i ∧ t11 = .int .i64 (i : Int) ∧ t9 = .slice a9 ws.length c9 ∧ t10 = .slice a10 ns.length c10 ∧ Hid (allT sh rest = allT (sh.drop i) (rest.drop i)) ∧ Hid (wordsT sh rest = ws ++ wordsT (sh.drop i) (rest.drop i)) ∧ Hid (numsT sh rest = ns ++ numsT (sh.drop i) (rest.drop i)) ∧ OwnV 9 1 W3 (ws.map Value.string) a9 ws.length c9 wr ∧ OwnV 3 1 W3 (ns.map I) a10 ns.length c10 wr) (fun _ _ t _ => n - (intOf t).toNat)
      case atStart => exact ⟨0, [], [], _, _, _, _, by omega, by simp, by simp, rfl, rfl, rfl, rfl, rfl, rfl, hO9, hO10⟩
      case round =>
        obtain ⟨i, ws, ns, a9, c9, a10, c10, hin, hwl, hnl, rfl, rfl, rfl, HA0, HW0, HI0, hT9, hT10⟩ := hrel
        obtain ⟨p, hp'⟩ : ∃ p, ws.length = p := ⟨_, rfl⟩
        obtain ⟨q, hq'⟩ : ∃ q, ns.length = q := ⟨_, rfl⟩
        rw [hp'] at hwl hT9
        rw [hq'] at hnl hT10
        rw [hp', hq']
        have hp : Hid (ws.length = p) := hp'
        have hq : Hid (ns.length = q) := hq'
        clear hp' hq' hO9 hO10
        by_cases hlt : i < n
        · have y1 : (0 : Int) ≤ (i : Int) := by omega
          have y2 : (i : Int) < (n : Int) := by omega
          obtain ⟨br, offr, rfl, hbr, hcr⟩ := (hTar.below hT9.bel).at_ (by rw [hrl.out]; omega)
          have cx := hcr i (by rw [hrl.out]; exact hlt)
          have hx : (rest.getD i ⟨#[]⟩).size ≤ 1048576 := Nat.le_trans (getD_size hps2.out i) hl
          have HAx := HA0.out.trans (all_drop (sh := sh) (ts := rest) (i := i) (by rw [hshl]; exact hlt) (by rw [hrl.out]; exact hlt))
          have HWx := HW0.out
          rw [words_drop (sh := sh) (ts := rest) (i := i) (by rw [hshl]; exact hlt) (by rw [hrl.out]; exact hlt)] at HWx
          have HIx := HI0.out
          rw [nums_drop (sh := sh) (ts := rest) (i := i) (by rw [hshl]; exact hlt) (by rw [hrl.out]; exact hlt)] at HIx
          generalize rest.getD i ⟨#[]⟩ = x at cx hx HAx HWx HIx
          have hscd := shape_letters k hk13 hst i (by rw [hshk]; omega)
          have hch := bget ss i (by omega)
          rw [hssl, hshk] at hch
          rw [hshk] at hscd
          have y3 : (i : Int) < (ss.size : Int) := by omega
          generalize sh.getD i 0 = sc at HAx HWx HIx hscd hch
          have HA : Hid _ := HAx
          have HW : Hid _ := HWx
          have HI : Hid _ := HIx
          clear HAx HWx HIx HW0 HI0 hcr
          rcases hscd with hsc | hsc
          · have c1 : ((sc.toNat : Int) == 110) = true := by rw [hsc]; rfl
            have hnb := num_both x.data.toList
            have hok : okT sc x = (numS x.data.toList).2 := by rw [hsc, okT_num 110 x (by decide), fit_none, Bool.and_true, hnb.1]
            obtain ⟨xi, hxi⟩ : ∃ xi, (numS x.data.toList).1 = xi := ⟨_, rfl⟩
            obtain ⟨xb, hxb⟩ : ∃ xb, (numS x.data.toList).2 = xb := ⟨_, rfl⟩
            have HNB : Hid (∀ W, Calls Tryz.prog 20 #[.string x] W fun e w' => e = .returned (.tuple #[.int .i64 xi, .bool xb]) ∧ ∃ m, w' = W.drewN m) := fun W => by
              have := lnumber_any x W hx
              rwa [hxi, hxb] at this
            go_upto_region 14 with (first | (go_at_call 20; refine (HNB.out _).mono ?_; rintro e wq ⟨rfl, mq, hwq⟩; have bq : Below wr.heap.size wr wq := (by rw [hwq]; exact dN (Below.refl _ _) _); clear hwq))
            have hT9q := hT9.below bq
            have hT10q := hT10.below bq
            cases xb with
            | false =>
              have hlo2 : Hid (lineOp l = none) := by
                show _ = _
                rw [hlo'.out, if_neg]
                rw [HA.out, hok, hxb]; simp
              have na := (hT9q.bel.block ga (Array.getElem?_eq_some_iff.1 n3).1).trans n3
              have nb := (hT9q.bel.block g2 (Array.getElem?_eq_some_iff.1 n2').1).trans n2'
              have ca0 := Lib.cell_of_heap na 0
              have cb0 := Lib.cell_of_heap nb 0
              have ca1 := Lib.cell_of_heap na 1
              have cb1 := Lib.cell_of_heap nb 1
              have ca2 := Lib.cell_of_heap na 2
              have cb2 := Lib.cell_of_heap nb 2
              have ca3 := Lib.cell_of_heap na 3
              have cb3 := Lib.cell_of_heap nb 3
              have ca4 := Lib.cell_of_heap na 4
              have cb4 := Lib.cell_of_heap nb 4
              have ca5 := Lib.cell_of_heap na 5
              have cb5 := Lib.cell_of_heap nb 5
              have fb : ∀ j, wq.frozen? ⟨g2, j, none⟩ = false := fun j => by rw [World.frozen?, nb]; rfl
              clear HA HW HI HA0
              go_wp2_with fail
              refine retOp rfl rfl rfl rfl (set6_heap nb _ _ _ _ _ _) ?_
              rw [← hRo.out]
              unfold OpPost
              rw [hlo2.out]
              exact ⟨⟨k + 1, rfl⟩, set6_below (bw3.trans (hT9q.bel.mono bw3.size)) hg2l _ _ _ _ _ _⟩
            | true =>
              have hval : (numI x.data.toList).1 = xi := by rw [← hxi]; exact hnb.2 (by rw [hnb.1, hxb])
              have HA' : Hid (allT sh rest = allT (sh.drop (i + 1)) (rest.drop (i + 1))) := by show _ = _; rw [HA.out, hok, hxb, Bool.true_and]
              have HW' : Hid (wordsT sh rest = ws ++ wordsT (sh.drop (i + 1)) (rest.drop (i + 1))) := by show _ = _; rw [HW.out, if_neg (by rw [hsc]; decide)]
              have HI' : Hid (numsT sh rest = (ns ++ [xi]) ++ numsT (sh.drop (i + 1)) (rest.drop (i + 1))) := by show _ = _; rw [HI.out, if_neg (by rw [hsc]; decide), hval, List.append_assoc]; rfl
              have own10 := hT10q.own
              have hbs := hT10q.bel.size
              clear HA HW HI HA0 hnb hok hxi hxb hval HNB bq hT9 hT10
              go_upto_region 11 with (at_builtin; refine wpList_append_lies _ rfl (.tmp 70) (.tmp 72) 35 rfl W3.heap.size 3 i3 (.int .i64 0) 1 8 Tryz.underlying35 hi3 hy0 hy1 hy2 rfl (by decide) (.slice a10 q c10) q (ns.map I) rfl (own10.alloc _) ⟨wq.heap.size, 0, none⟩ 1 1 [.int .i64 xi] rfl rfl (World.news_of_block (heap_alloc_new wq _)) (by simp [Value.oneCell']) (by decide) (by unfold maxLen; omega) (by omega) (by simp; omega) (wq.heap.size + 1) (by simp) ?_; intro g5 c5 w5 hown5 hgrow5 hat5 hlt5)
              have hlq : (ns ++ [xi]).length = q + 1 := by rw [List.length_append, hq.out]; rfl
              go_wp2_with fail
              go_roundw
              case rel =>
                (repeat apply Exists.intro)
                refine ⟨?_, rfl⟩
                refine ⟨i + 1, ws, ns ++ [xi], a9, c9, some ⟨g5, 0, none⟩, c5, by omega, by rw [hp.out]; omega, by rw [hlq]; omega, by go_num, by rw [hp.out], by rw [hlq], HA', HW', HI', ?_, ?_⟩
                · rw [hp.out]; exact hT9q.keep hT10q.own (by decide) hgrow5
                · rw [hlq, List.map_append]; exact hT10q.more hown5 hgrow5
              case measure => simp [intOf]; omega
          · have c1 : ((sc.toNat : Int) == 110) = false := by rw [hsc]; rfl
            have hok : okT sc x = isW x := by rw [hsc, okT, if_pos rfl]
            obtain ⟨xb, hxb⟩ : ∃ xb, isW x = xb := ⟨_, rfl⟩
            have HNB : Hid (∀ W, Calls Tryz.prog 22 #[.string x] W fun e w' => e = .returned (.tuple #[.string (wordT x), .bool xb]) ∧ ∃ m, w' = W.drewN m) := fun W => by
              have := lword_any x W hx
              rwa [hxb] at this
            go_upto_region 18 with (first | (go_at_call 22; refine (HNB.out _).mono ?_; rintro e wq ⟨rfl, mq, hwq⟩; have bq : Below wr.heap.size wr wq := (by rw [hwq]; exact dN (Below.refl _ _) _); clear hwq))
            have hT9q := hT9.below bq
            have hT10q := hT10.below bq
            cases xb with
            | false =>
              have hlo2 : Hid (lineOp l = none) := by
                show _ = _
                rw [hlo'.out, if_neg]
                rw [HA.out, hok, hxb]; simp
              have na := (hT9q.bel.block ga (Array.getElem?_eq_some_iff.1 n3).1).trans n3
              have nb := (hT9q.bel.block g2 (Array.getElem?_eq_some_iff.1 n2').1).trans n2'
              have ca0 := Lib.cell_of_heap na 0
              have cb0 := Lib.cell_of_heap nb 0
              have ca1 := Lib.cell_of_heap na 1
              have cb1 := Lib.cell_of_heap nb 1
              have ca2 := Lib.cell_of_heap na 2
              have cb2 := Lib.cell_of_heap nb 2
              have ca3 := Lib.cell_of_heap na 3
              have cb3 := Lib.cell_of_heap nb 3
              have ca4 := Lib.cell_of_heap na 4
              have cb4 := Lib.cell_of_heap nb 4
              have ca5 := Lib.cell_of_heap na 5
              have cb5 := Lib.cell_of_heap nb 5
              have fb : ∀ j, wq.frozen? ⟨g2, j, none⟩ = false := fun j => by rw [World.frozen?, nb]; rfl
              clear HA HW HI HA0
              go_wp2_with fail
              refine retOp rfl rfl rfl rfl (set6_heap nb _ _ _ _ _ _) ?_
              rw [← hRo.out]
              unfold OpPost
              rw [hlo2.out]
              exact ⟨⟨k + 1, rfl⟩, set6_below (bw3.trans (hT9q.bel.mono bw3.size)) hg2l _ _ _ _ _ _⟩
            | true =>
              have hval : meanW x = wordT x := by rw [wordT, if_pos hxb]
              have HA' : Hid (allT sh rest = allT (sh.drop (i + 1)) (rest.drop (i + 1))) := by show _ = _; rw [HA.out, hok, hxb, Bool.true_and]
              have HW' : Hid (wordsT sh rest = (ws ++ [wordT x]) ++ wordsT (sh.drop (i + 1)) (rest.drop (i + 1))) := by show _ = _; rw [HW.out, if_pos hsc, hval, List.append_assoc]; rfl
              have HI' : Hid (numsT sh rest = ns ++ numsT (sh.drop (i + 1)) (rest.drop (i + 1))) := by show _ = _; rw [HI.out, if_pos hsc]
              have own9 := hT9q.own
              have hbs := hT9q.bel.size
              clear HA HW HI HA0 hok hxb hval HNB bq hT9 hT10
              go_upto_region 11 with (at_builtin; refine wpList_append_lies _ rfl (.tmp 85) (.tmp 87) 30 rfl W3.heap.size 9 i9 (.string ⟨#[]⟩) 1 16 Tryz.underlying30 hi9 hz0 hz1 hz2 rfl (by decide) (.slice a9 p c9) p (ws.map Value.string) rfl (own9.alloc _) ⟨wq.heap.size, 0, none⟩ 1 1 [.string (wordT x)] rfl rfl (World.news_of_block (heap_alloc_new wq _)) (by simp [Value.oneCell']) (by decide) (by unfold maxLen; omega) (by omega) (by simp; omega) (wq.heap.size + 1) (by simp) ?_; intro g5 c5 w5 hown5 hgrow5 hat5 hlt5)
              have hlq : (ws ++ [wordT x]).length = p + 1 := by rw [List.length_append, hp.out]; rfl
              go_wp2_with fail
              go_roundw
              case rel =>
                (repeat apply Exists.intro)
                refine ⟨?_, rfl⟩
                refine ⟨i + 1, ws ++ [wordT x], ns, some ⟨g5, 0, none⟩, c5, a10, c10, by omega, by rw [hlq]; omega, by rw [hq.out]; omega, by go_num, by rw [hlq], by rw [hq.out], HA', HW', HI', ?_, ?_⟩
                · rw [hlq, List.map_append]; exact hT9q.more hown5 hgrow5
                · rw [hq.out]; exact hT10q.keep hT9q.own (by decide) hgrow5
              case measure => simp [intOf]; omega
        · have hin2 : i = n := by omega
          subst hin2
          have hA1 : allT sh rest = true := by rw [HA0.out, List.drop_eq_nil_of_le (by rw [hshl]; exact Nat.le_refl _), List.drop_eq_nil_of_le (by rw [hrl.out]; exact Nat.le_refl _)]; rfl
          have hW1 : wordsT sh rest = ws := by rw [HW0.out, List.drop_eq_nil_of_le (by rw [hshl]; exact Nat.le_refl _)]; simp [wordsT]
          have hI1 : numsT sh rest = ns := by rw [HI0.out, List.drop_eq_nil_of_le (by rw [hshl]; exact Nat.le_refl _)]; simp [numsT]
          have hlo2 : lineOp l = some (mkOp k ws ns) := by rw [hlo'.out, if_pos hA1, hW1, hI1]
          have na := (hT9.bel.block ga (Array.getElem?_eq_some_iff.1 n3).1).trans n3
          have nb := (hT9.bel.block g2 (Array.getElem?_eq_some_iff.1 n2').1).trans n2'
          have bwr := bw3.trans (hT9.bel.mono bw3.size)
          have ca0 := Lib.cell_of_heap na 0
          have cb0 := Lib.cell_of_heap nb 0
          have ca1 := Lib.cell_of_heap na 1
          have cb1 := Lib.cell_of_heap nb 1
          have ca2 := Lib.cell_of_heap na 2
          have cb2 := Lib.cell_of_heap nb 2
          have ca3 := Lib.cell_of_heap na 3
          have cb3 := Lib.cell_of_heap nb 3
          have ca4 := Lib.cell_of_heap na 4
          have cb4 := Lib.cell_of_heap nb 4
          have ca5 := Lib.cell_of_heap na 5
          have cb5 := Lib.cell_of_heap nb 5
          have fb : ∀ j, wr.frozen? ⟨g2, j, none⟩ = false := fun j => by rw [World.frozen?, nb]; rfl
          have fa : ∀ j, wr.frozen? ⟨ga, j, none⟩ = false := fun j => by rw [World.frozen?, na]; rfl
          have hlc := lens_cnt (sh := sh) (ts := rest) (by rw [hshl, hrl.out])
          rw [hW1, hI1, hp.out, hq.out] at hlc
          have hcs := (shape_cases k hk13).resolve_left hst
          rw [hshk] at hcs
          have hlo3 : lineOp l = some ⟨k + 1, ws.getD 0 ⟨#[]⟩, ws.getD 1 ⟨#[]⟩, ns.getD 0 0, ns.getD 1 0, []⟩ := by rw [hlo2, mkOp, if_neg hst]
          rw [← hlc.1, ← hlc.2] at hcs
          have hpq := hcs.2
          simp only [List.mem_cons, Prod.mk.injEq, List.not_mem_nil, or_false] at hpq
          clear HA0 HW0 HI0 hlo2 hW1 hI1 hA1 hlo' hst hcs hlc hshk
          rcases hpq with ⟨rfl, rfl⟩ | ⟨rfl, rfl⟩ | ⟨rfl, rfl⟩ | ⟨rfl, rfl⟩ | ⟨rfl, rfl⟩ | ⟨rfl, rfl⟩
          · have o0 : ws.getD 0 ⟨#[]⟩ = ⟨#[]⟩ := by rw [List.getD_eq_getElem?_getD, List.getElem?_eq_none (by rw [hp.out]; omega)]; rfl
            have o1 : ws.getD 1 ⟨#[]⟩ = ⟨#[]⟩ := by rw [List.getD_eq_getElem?_getD, List.getElem?_eq_none (by rw [hp.out]; omega)]; rfl
            have o2 : ns.getD 0 0 = 0 := by rw [List.getD_eq_getElem?_getD, List.getElem?_eq_none (by rw [hq.out]; omega)]; rfl
            have o3 : ns.getD 1 0 = 0 := by rw [List.getD_eq_getElem?_getD, List.getElem?_eq_none (by rw [hq.out]; omega)]; rfl
            rw [o0, o1, o2, o3] at hlo3
            have hlo4 : Hid _ := hlo3
            clear hlo3 o0 o1 o2 o3 
            go_wp2_with fail
            refine retOp rfl rfl rfl rfl (set6_heap nb _ _ _ _ _ _) ?_
            rw [← hRo.out]
            unfold OpPost
            rw [hlo4.out]
            exact ⟨none, 0, rfl, World.ownsRow_nil _ _ _ _, set6_below bwr hg2l _ _ _ _ _ _⟩
          · obtain ⟨bw, ow, rfl, hbw, hcw⟩ := hT9.targ.at_ (by rw [hp.out]; omega)
            have kw0 := hcw 0 (by rw [hp.out]; omega)
            rw [Nat.add_zero] at kw0
            have v1 : bw ≠ ga := by
              obtain ⟨_, _, cur, h4⟩ := ownG_cells hT9.own rfl
              exact ne_of_type h4 na (by decide)
            have v2 : ga ≠ bw := fun h => v1 h.symm
            have o1 : ws.getD 1 ⟨#[]⟩ = ⟨#[]⟩ := by rw [List.getD_eq_getElem?_getD, List.getElem?_eq_none (by rw [hp.out]; omega)]; rfl
            have o2 : ns.getD 0 0 = 0 := by rw [List.getD_eq_getElem?_getD, List.getElem?_eq_none (by rw [hq.out]; omega)]; rfl
            have o3 : ns.getD 1 0 = 0 := by rw [List.getD_eq_getElem?_getD, List.getElem?_eq_none (by rw [hq.out]; omega)]; rfl
            rw [o1, o2, o3] at hlo3
            generalize ws.getD 0 ⟨#[]⟩ = K0 at kw0 hlo3
            have hlo4 : Hid _ := hlo3
            clear hlo3 o1 o2 o3 hcw 
            have nb1 : (wr.setCell ⟨ga, 1, none⟩ (.string K0)).heap[g2]? = _ := (Below.heap_setCell _ _ _ _ (by exact fun h => hne2 h.symm)).trans nb
            go_wp2_with fail
            refine retOp rfl rfl rfl rfl (set6_heap nb1 _ _ _ _ _ _) ?_
            rw [← hRo.out]
            unfold OpPost
            rw [hlo4.out]
            exact ⟨none, 0, rfl, World.ownsRow_nil _ _ _ _, set6_below (bwr.setCell (p := ⟨ga, 1, none⟩) hgal _) hg2l _ _ _ _ _ _⟩
          · obtain ⟨bw, ow, rfl, hbw, hcw⟩ := hT9.targ.at_ (by rw [hp.out]; omega)
            have kw0 := hcw 0 (by rw [hp.out]; omega)
            rw [Nat.add_zero] at kw0
            have kw1 := hcw 1 (by rw [hp.out]; omega)
            have v1 : bw ≠ ga := by
              obtain ⟨_, _, cur, h4⟩ := ownG_cells hT9.own rfl
              exact ne_of_type h4 na (by decide)
            have v2 : ga ≠ bw := fun h => v1 h.symm
            have o2 : ns.getD 0 0 = 0 := by rw [List.getD_eq_getElem?_getD, List.getElem?_eq_none (by rw [hq.out]; omega)]; rfl
            have o3 : ns.getD 1 0 = 0 := by rw [List.getD_eq_getElem?_getD, List.getElem?_eq_none (by rw [hq.out]; omega)]; rfl
            rw [o2, o3] at hlo3
            generalize ws.getD 0 ⟨#[]⟩ = K0 at kw0 hlo3
            generalize ws.getD 1 ⟨#[]⟩ = K1 at kw1 hlo3
            have hlo4 : Hid _ := hlo3
            clear hlo3 o2 o3 hcw 
            have nb1 : (wr.setCell ⟨ga, 1, none⟩ (.string K0)).heap[g2]? = _ := (Below.heap_setCell _ _ _ _ (by exact fun h => hne2 h.symm)).trans nb
            have nb2 : ((wr.setCell ⟨ga, 1, none⟩ (.string K0)).setCell ⟨ga, 2, none⟩ (.string K1)).heap[g2]? = _ := (Below.heap_setCell _ _ _ _ (by exact fun h => hne2 h.symm)).trans nb1
            go_wp2_with fail
            refine retOp rfl rfl rfl rfl (set6_heap nb2 _ _ _ _ _ _) ?_
            rw [← hRo.out]
            unfold OpPost
            rw [hlo4.out]
            exact ⟨none, 0, rfl, World.ownsRow_nil _ _ _ _, set6_below ((bwr.setCell (p := ⟨ga, 1, none⟩) hgal _).setCell (p := ⟨ga, 2, none⟩) hgal _) hg2l _ _ _ _ _ _⟩
          · obtain ⟨bq, oq, rfl, hbq, hcq⟩ := hT10.iarg.at_ (by rw [hq.out]; omega)
            have kn0 := hcq 0 (by rw [hq.out]; omega)
            rw [Nat.add_zero] at kn0
            have v3 : bq ≠ ga := by
              obtain ⟨_, _, cur, h4⟩ := ownG_cells hT10.own rfl
              exact ne_of_type h4 na (by decide)
            have v4 : ga ≠ bq := fun h => v3 h.symm
            have o0 : ws.getD 0 ⟨#[]⟩ = ⟨#[]⟩ := by rw [List.getD_eq_getElem?_getD, List.getElem?_eq_none (by rw [hp.out]; omega)]; rfl
            have o1 : ws.getD 1 ⟨#[]⟩ = ⟨#[]⟩ := by rw [List.getD_eq_getElem?_getD, List.getElem?_eq_none (by rw [hp.out]; omega)]; rfl
            have o3 : ns.getD 1 0 = 0 := by rw [List.getD_eq_getElem?_getD, List.getElem?_eq_none (by rw [hq.out]; omega)]; rfl
            rw [o0, o1, o3] at hlo3
            generalize ns.getD 0 0 = N0 at kn0 hlo3
            have hlo4 : Hid _ := hlo3
            clear hlo3 o0 o1 o3 hcq
            have nb1 : (wr.setCell ⟨ga, 3, none⟩ (.int .i64 N0)).heap[g2]? = _ := (Below.heap_setCell _ _ _ _ (by exact fun h => hne2 h.symm)).trans nb
            go_wp2_with fail
            refine retOp rfl rfl rfl rfl (set6_heap nb1 _ _ _ _ _ _) ?_
            rw [← hRo.out]
            unfold OpPost
            rw [hlo4.out]
            exact ⟨none, 0, rfl, World.ownsRow_nil _ _ _ _, set6_below (bwr.setCell (p := ⟨ga, 3, none⟩) hgal _) hg2l _ _ _ _ _ _⟩
          · obtain ⟨bw, ow, rfl, hbw, hcw⟩ := hT9.targ.at_ (by rw [hp.out]; omega)
            have kw0 := hcw 0 (by rw [hp.out]; omega)
            rw [Nat.add_zero] at kw0
            have kw1 := hcw 1 (by rw [hp.out]; omega)
            obtain ⟨bq, oq, rfl, hbq, hcq⟩ := hT10.iarg.at_ (by rw [hq.out]; omega)
            have kn0 := hcq 0 (by rw [hq.out]; omega)
            rw [Nat.add_zero] at kn0
            have v1 : bw ≠ ga := by
              obtain ⟨_, _, cur, h4⟩ := ownG_cells hT9.own rfl
              exact ne_of_type h4 na (by decide)
            have v2 : ga ≠ bw := fun h => v1 h.symm
            have v3 : bq ≠ ga := by
              obtain ⟨_, _, cur, h4⟩ := ownG_cells hT10.own rfl
              exact ne_of_type h4 na (by decide)
            have v4 : ga ≠ bq := fun h => v3 h.symm
            have o3 : ns.getD 1 0 = 0 := by rw [List.getD_eq_getElem?_getD, List.getElem?_eq_none (by rw [hq.out]; omega)]; rfl
            rw [o3] at hlo3
            generalize ws.getD 0 ⟨#[]⟩ = K0 at kw0 hlo3
            generalize ws.getD 1 ⟨#[]⟩ = K1 at kw1 hlo3
            generalize ns.getD 0 0 = N0 at kn0 hlo3
            have hlo4 : Hid _ := hlo3
            clear hlo3 o3 hcw hcq
            have nb1 : (wr.setCell ⟨ga, 3, none⟩ (.int .i64 N0)).heap[g2]? = _ := (Below.heap_setCell _ _ _ _ (by exact fun h => hne2 h.symm)).trans nb
            have nb2 : ((wr.setCell ⟨ga, 3, none⟩ (.int .i64 N0)).setCell ⟨ga, 1, none⟩ (.string K0)).heap[g2]? = _ := (Below.heap_setCell _ _ _ _ (by exact fun h => hne2 h.symm)).trans nb1
            have nb3 : (((wr.setCell ⟨ga, 3, none⟩ (.int .i64 N0)).setCell ⟨ga, 1, none⟩ (.string K0)).setCell ⟨ga, 2, none⟩ (.string K1)).heap[g2]? = _ := (Below.heap_setCell _ _ _ _ (by exact fun h => hne2 h.symm)).trans nb2
            go_wp2_with fail
            refine retOp rfl rfl rfl rfl (set6_heap nb3 _ _ _ _ _ _) ?_
            rw [← hRo.out]
            unfold OpPost
            rw [hlo4.out]
            exact ⟨none, 0, rfl, World.ownsRow_nil _ _ _ _, set6_below (((bwr.setCell (p := ⟨ga, 3, none⟩) hgal _).setCell (p := ⟨ga, 1, none⟩) hgal _).setCell (p := ⟨ga, 2, none⟩) hgal _) hg2l _ _ _ _ _ _⟩
          · obtain ⟨bq, oq, rfl, hbq, hcq⟩ := hT10.iarg.at_ (by rw [hq.out]; omega)
            have kn0 := hcq 0 (by rw [hq.out]; omega)
            rw [Nat.add_zero] at kn0
            have kn1 := hcq 1 (by rw [hq.out]; omega)
            have v3 : bq ≠ ga := by
              obtain ⟨_, _, cur, h4⟩ := ownG_cells hT10.own rfl
              exact ne_of_type h4 na (by decide)
            have v4 : ga ≠ bq := fun h => v3 h.symm
            have o0 : ws.getD 0 ⟨#[]⟩ = ⟨#[]⟩ := by rw [List.getD_eq_getElem?_getD, List.getElem?_eq_none (by rw [hp.out]; omega)]; rfl
            have o1 : ws.getD 1 ⟨#[]⟩ = ⟨#[]⟩ := by rw [List.getD_eq_getElem?_getD, List.getElem?_eq_none (by rw [hp.out]; omega)]; rfl
            rw [o0, o1] at hlo3
            generalize ns.getD 0 0 = N0 at kn0 hlo3
            generalize ns.getD 1 0 = N1 at kn1 hlo3
            have hlo4 : Hid _ := hlo3
            clear hlo3 o0 o1 hcq
            have nb1 : (wr.setCell ⟨ga, 3, none⟩ (.int .i64 N0)).heap[g2]? = _ := (Below.heap_setCell _ _ _ _ (by exact fun h => hne2 h.symm)).trans nb
            have nb2 : ((wr.setCell ⟨ga, 3, none⟩ (.int .i64 N0)).setCell ⟨ga, 4, none⟩ (.int .i64 N1)).heap[g2]? = _ := (Below.heap_setCell _ _ _ _ (by exact fun h => hne2 h.symm)).trans nb1
            go_wp2_with fail
            refine retOp rfl rfl rfl rfl (set6_heap nb2 _ _ _ _ _ _) ?_
            rw [← hRo.out]
            unfold OpPost
            rw [hlo4.out]
            exact ⟨none, 0, rfl, World.ownsRow_nil _ _ _ _, set6_below ((bwr.setCell (p := ⟨ga, 3, none⟩) hgal _).setCell (p := ⟨ga, 4, none⟩) hgal _) hg2l _ _ _ _ _ _⟩
    · have e1 : (ss.toList == [42]) = false := by rw [tl_eq, hssl, beq_eq_false_iff_ne]; exact hst
      have e2 : ((n : Int) != (ss.size : Int)) = true := by rw [bne_iff_ne]; omega
      have hlo2 : Hid (lineOp l = none) := by
        show _ = _
        rw [hlo'.out, if_neg]
        intro h
        have := all_len h
        rw [hrl.out, shapeAt, if_neg hst] at this
        exact hlen this
      clear hlo' hssl hss hsss
      go_wp2_with fail
      refine retOp rfl rfl rfl rfl (set6_heap n2' _ _ _ _ _ _) ?_
      rw [← hRo.out]
      unfold OpPost
      rw [hlo2.out]
      exact ⟨⟨k + 1, rfl⟩, set6_below bw3 hg2l _ _ _ _ _ _⟩
end Go.Proofs.YthklibioolnggaaGreatDoor
