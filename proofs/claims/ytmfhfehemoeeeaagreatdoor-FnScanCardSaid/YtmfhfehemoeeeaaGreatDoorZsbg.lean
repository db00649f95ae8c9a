import Derived.Test.YtmfhfehemoeeeaaGreatDoorZsbc
import Derived.Test.YtmfhfehemoeeeaaGreatDoorZsbf
import Derived.Deep.RegionHeld3
import Derived.Deep.Cut
import Derived.Lib.Builder
import Derived.Test.YtmfhfehemoeeeaaGreatDoorZsab
set_option maxRecDepth 100000
set_option maxHeartbeats 2000000
namespace Go.Proofs.YtmfhfehemoeeeaaGreatDoor
open Go.RowKit Go.Proofs.Sha

/-- A pointer that may be compared: none, or the beginning of a block. -/
def PtrT (p : Option Addr) (w : World) : Prop := p = none ∨ ∃ (x : Nat) (cs : Array Value) (u : TypeId), p = some ⟨x, 0, none⟩ ∧ w.heap[x]? = some (.cells cs u (0, 0))
theorem size52 : (Tryz.prog.info? 125).map (·.size) = some 33 := by kernel_rfl
theorem size37 : (Tryz.prog.info? 56).map (·.size) = some 2 := by kernel_rfl
theorem size54 : (Tryz.prog.info? 127).map (·.size) = some 39 := by kernel_rfl
theorem info54 : ∃ j, Tryz.prog.info? 127 = some j ∧ j.size ≠ 0 := by
  obtain ⟨j, h1, h2⟩ := Option.map_eq_some_iff.1 size54
  exact ⟨j, h1, by rw [h2]; decide⟩
theorem yieldsIf_build {P : Program} {ops : Array Oper} {S : World → Prop} {o : Oper} {a : Act} (hw : Region.wanted o (yielded ops a.tmps) = true) (t : TypeId) (parts : Array (Nat × Operand)) (ho : o.op = .build t parts) (cells : Array Value)
    (hb : P.built t (parts.toList.map fun (i, x) => (i, a.eval x)) = some cells) : YieldsIf P ops S o (.agg cells) a := by
  refine .inl ⟨hw, fun w _ => ?_⟩
  rw [← Array.toList_map] at hb
  unfold execOp
  simp only [ho, Sem.run_bind, run_build w t _ cells hb, Result.andThen_ok, Sem.run_pure]
theorem wp_box_row {P : Program} {o : Oper} {a : Act} {w : World} {K : Act → World → Prop} {Q : Exit → Act → World → Prop} (ty : TypeId) (x : Operand) (ho : o.op = .box ty x) (cs : Array Value) (hx : a.eval x = .agg cs)
    (h : K (a.put o.dst (.pointer (some ⟨w.heap.size, 0, none⟩))) (w.alloc (.cells cs ty))) : o.wp P a w K Q := by
  unfold Oper.wp execOp
  simp only [ho, hx]
  exact h
theorem rank_size (X : List UInt8) (h : X.length = 32) (k : ByteArray) : (Tryz.prog.info? 125).map (·.size) = some (rankL X k).length := by
  have e : (rankL X k).length = 33 := by unfold rankL; rw [List.length_append, List.length_map, h]; rfl
  rw [e]; exact size52
theorem ptr_eql (a b : Option Addr) (w : World) (ha : PtrT a w) (hb : PtrT b w) : (binOp .eql 61 (.pointer a) (.pointer b)).run Tryz.prog w = .ok (.bool (decide (a = b))) w := by
  obtain ⟨j, h1, h2⟩ := info54
  exact run_eql_ptr 61 127 j Tryz.underlying61 h1 h2 a b w ha hb
theorem tree_get (X : List UInt8) (hX : X.length = 32) (k v : ByteArray) (pl pr : Option Addr) (enc h : ByteArray) :
    (treeL X k v pl pr enc h)[35]? = some (.pointer pl) ∧ (treeL X k v pl pr enc h)[36]? = some (.pointer pr) ∧ (treeL X k v pl pr enc h)[37]? = some (.string enc) ∧ (treeL X k v pl pr enc h)[38]? = some (.string h) ∧ (treeL X k v pl pr enc h)[0]? = some (.string k) ∧ (treeL X k v pl pr enc h)[1]? = some (.string v) := by
  have hl : (X.map B).length = 32 := by rw [List.length_map, hX]
  have e : treeL X k v pl pr enc h = ([.string k, .string v] ++ (X.map B ++ [Value.string k])) ++ [.pointer pl, .pointer pr, .string enc, .string h] := by unfold treeL rankL; simp
  have hl2 : ([Value.string k, .string v] ++ (X.map B ++ [Value.string k])).length = 35 := by simp [hX]
  refine ⟨?_, ?_, ?_, ?_, rfl, rfl⟩ <;> (rw [e, List.getElem?_append_right (by omega), hl2]; rfl)
theorem tree_rank (X : List UInt8) (_hX : X.length = 32) (k v : ByteArray) (pl pr : Option Addr) (enc h : ByteArray) (j : Nat) (u : Value) (hj : (rankL X k)[j]? = some u) : (treeL X k v pl pr enc h)[2 + j]? = some u := by
  have hlt : j < (rankL X k).length := (List.getElem?_eq_some_iff.1 hj).1
  have e : treeL X k v pl pr enc h = [.string k, .string v] ++ (rankL X k ++ [.pointer pl, .pointer pr, .string enc, .string h]) := by unfold treeL; simp
  rw [e, List.getElem?_append_right (by simp), List.getElem?_append_left (by simpa using hlt)]
  simpa using hj

theorem withT_any (b : Nat) (X : List UInt8) (hX : X.length = 32) (k v : ByteArray) (pl pr l r : Option Addr) (enc h : ByteArray) (w : World) (hb : w.heap[b]? = some (.cells (treeL X k v pl pr enc h).toArray 127))
    (p1 : PtrT pl w) (p2 : PtrT pr w) (p3 : PtrT l w) (p4 : PtrT r w) (hne : ¬ (l = pl ∧ r = pr)) :
    Calls Tryz.prog 76 #[.pointer (some ⟨b, 0, none⟩), .pointer l, .pointer r] w fun e w' => ∃ g, e = .returned (.pointer (some ⟨g, 0, none⟩)) ∧ w.heap.size ≤ g ∧ w'.heap[g]? = some (.cells (treeL X k v l r ⟨#[]⟩ ⟨#[]⟩).toArray 127) ∧ Below w.heap.size w w' := by
  have q1 := ptr_eql l pl w p3 p1
  have q2 := ptr_eql r pr w p4 p2
  have hlen : (X.map B).length = 32 := by rw [List.length_map, hX]
  obtain ⟨g35, g36, g37, g38, g0, g1⟩ := tree_get X hX k v pl pr enc h
  have c35 : w.cell? ⟨b, 35, none⟩ = some (.pointer pl) := (Lib.cell_of_heap hb 35).trans (by simpa using g35)
  have c36 : w.cell? ⟨b, 36, none⟩ = some (.pointer pr) := (Lib.cell_of_heap hb 36).trans (by simpa using g36)
  have hr2 : w.rangeAt b 2 (rankL X k) := fun j u hj => (Lib.cell_of_heap hb (2 + j)).trans (by simpa using tree_rank X hX k v pl pr enc h j u hj)
  have hr0 : w.rangeAt b 0 [.string k, .string v] := fun j u hj => (Lib.cell_of_heap hb (0 + j)).trans (by
    match j, hj with
    | 0, hj => simpa using g0.trans hj
    | 1, hj => simpa using g1.trans hj)
  clear g35 g36 g37 g38 g0 g1 hlen
  clear p1 p2 p3 p4
  have hd : decide (l = pl) = false ∨ (decide (l = pl) = true ∧ decide (r = pr) = false) := by
    by_cases e1 : l = pl
    · exact .inr ⟨decide_eq_true e1, decide_eq_false fun e2 => hne ⟨e1, e2⟩⟩
    · exact .inl (decide_eq_false e1)
  have nT := heap_alloc_new w.drew (.cells (treeL X k v l r ⟨#[]⟩ ⟨#[]⟩).toArray 127)
  have hT : Below w.heap.size w (w.drew.alloc (.cells (treeL X k v l r ⟨#[]⟩ ⟨#[]⟩).toArray 127)) := ((Below.refl _ _).drew).alloc (Nat.le_refl _) _
  clear hne
  rcases hd with d1 | ⟨d1, d2⟩
  · rw [d1] at q1
    clear d1 q2
    go_enter Tryz.func76, Tryz.ntmps76
    go_upto_region 3 with fail
    refine wp_region_held_drew (S := fun W => W.rangeAt b 0 [.string k, .string v] ∧ W.rangeAt b 2 (rankL X k)) (by kernel_rfl) ⟨hr0, hr2⟩ (fun hHeld => ?_)
    refine tkI 0 ?_
    simp only [Act.put, zq]
    refine tkI 1 ?_
    simp only [Act.put, zq]
    refine tkI 2 ?_
    simp only [Act.put, zq]
    refine tkH (i := 3) (v := _) rfl (yieldsIf_load_mid (by rfl) _ _ rfl _ _ rfl _ _ (fun w h => h.1) Tryz.underlying56 rfl size37) ?_
    simp only [Act.put, zq]
    refine tkI 4 ?_
    simp only [Act.put, zq]
    refine tkI 5 ?_
    simp only [Act.put, zq]
    refine tkI 6 ?_
    simp only [Act.put, zq]
    refine tkH (i := 7) (v := _) rfl (yieldsIf_load_mid (by rfl) _ _ rfl _ _ rfl _ _ (fun w h => h.2) Tryz.underlying125 rfl (rank_size X hX k)) ?_
    simp only [Act.put, zq]
    refine tkI 8 ?_
    simp only [Act.put, zq]
    refine tkI 9 ?_
    simp only [Act.put, zq]
    refine tkH (i := 10) (v := _) rfl (yieldsIf_build (by rfl) 127 #[(0, .tmp 25), (1, .tmp 29), (2, .tmp 30), (3, .tmp 31)] rfl (treeL X k v l r ⟨#[]⟩ ⟨#[]⟩).toArray (by exact built4 X hX k v l r)) ?_
    simp only [Act.put, zq]
    refine rdH 11 (fun K hK => ?_)
    rw [if_pos (by rfl)]
    refine wp_box_row 127 _ rfl _ rfl ?_
    refine hK.out _ _ ⟨(World.rangeAt_alloc hHeld.1 _), (World.rangeAt_alloc hHeld.2 _)⟩ (fun hHeld => ?_)
    clear hK K
    simp only [Act.put, zq]
    refine tkI 12 ?_
    simp only [Act.put, zq]
    refine wpAnyH_done (by kernel_rfl) ?_ _
    go_wp2_with fail
    go_ret
    exact ⟨w.heap.size, rfl, Nat.le_refl _, nT, hT⟩
  · rw [d1] at q1
    rw [d2] at q2
    clear d1 d2
    go_enter Tryz.func76, Tryz.ntmps76
    go_upto_region 3 with fail
    refine wp_region_held_drew (S := fun W => W.rangeAt b 0 [.string k, .string v] ∧ W.rangeAt b 2 (rankL X k)) (by kernel_rfl) ⟨hr0, hr2⟩ (fun hHeld => ?_)
    refine tkI 0 ?_
    simp only [Act.put, zq]
    refine tkI 1 ?_
    simp only [Act.put, zq]
    refine tkI 2 ?_
    simp only [Act.put, zq]
    refine tkH (i := 3) (v := _) rfl (yieldsIf_load_mid (by rfl) _ _ rfl _ _ rfl _ _ (fun w h => h.1) Tryz.underlying56 rfl size37) ?_
    simp only [Act.put, zq]
    refine tkI 4 ?_
    simp only [Act.put, zq]
    refine tkI 5 ?_
    simp only [Act.put, zq]
    refine tkI 6 ?_
    simp only [Act.put, zq]
    refine tkH (i := 7) (v := _) rfl (yieldsIf_load_mid (by rfl) _ _ rfl _ _ rfl _ _ (fun w h => h.2) Tryz.underlying125 rfl (rank_size X hX k)) ?_
    simp only [Act.put, zq]
    refine tkI 8 ?_
    simp only [Act.put, zq]
    refine tkI 9 ?_
    simp only [Act.put, zq]
    refine tkH (i := 10) (v := _) rfl (yieldsIf_build (by rfl) 127 #[(0, .tmp 25), (1, .tmp 29), (2, .tmp 30), (3, .tmp 31)] rfl (treeL X k v l r ⟨#[]⟩ ⟨#[]⟩).toArray (by exact built4 X hX k v l r)) ?_
    simp only [Act.put, zq]
    refine rdH 11 (fun K hK => ?_)
    rw [if_pos (by rfl)]
    refine wp_box_row 127 _ rfl _ rfl ?_
    refine hK.out _ _ ⟨(World.rangeAt_alloc hHeld.1 _), (World.rangeAt_alloc hHeld.2 _)⟩ (fun hHeld => ?_)
    clear hK K
    simp only [Act.put, zq]
    refine tkI 12 ?_
    simp only [Act.put, zq]
    refine wpAnyH_done (by kernel_rfl) ?_ _
    go_wp2_with fail
    go_ret
    exact ⟨w.heap.size, rfl, Nat.le_refl _, nT, hT⟩
theorem with_same (b : Nat) (X : List UInt8) (hX : X.length = 32) (k v : ByteArray) (pl pr : Option Addr) (enc h : ByteArray) (w : World) (hb : w.heap[b]? = some (.cells (treeL X k v pl pr enc h).toArray 127))
    (p1 : PtrT pl w) (p2 : PtrT pr w) :
    Calls Tryz.prog 76 #[.pointer (some ⟨b, 0, none⟩), .pointer pl, .pointer pr] w fun e w' => e = .returned (.pointer (some ⟨b, 0, none⟩)) ∧ w' = w := by
  have q1 := ptr_eql pl pl w p1 p1
  have q2 := ptr_eql pr pr w p2 p2
  rw [decide_eq_true rfl] at q1 q2
  obtain ⟨g35, g36, g37, g38, g0, g1⟩ := tree_get X hX k v pl pr enc h
  have c35 : w.cell? ⟨b, 35, none⟩ = some (.pointer pl) := (Lib.cell_of_heap hb 35).trans (by simpa using g35)
  have c36 : w.cell? ⟨b, 36, none⟩ = some (.pointer pr) := (Lib.cell_of_heap hb 36).trans (by simpa using g36)
  clear g35 g36 g37 g38 g0 g1 hb p1 p2
  go_enter Tryz.func76, Tryz.ntmps76
  go_wp2_with fail
  go_ret
  exact ⟨rfl, rfl⟩
theorem sha_len32 (l : List UInt8) : (sha l).length = 32 := by unfold sha; rw [outTo_length]
/-- A node of a tree in its block. -/
def TB (b : Nat) (x : ByteArray × ByteArray) (l r : Option Addr) (e : ByteArray × ByteArray) (w : World) : Prop := w.heap[b]? = some (.cells (treeL (sha x.1.data.toList) x.1 x.2 l r e.1 e.2).toArray 127)
/-- A tree in memory; what its nodes have of encodings and hashes is told by 'f'. -/
def TA (n0 : Nat) (f : Tr (ByteArray × ByteArray) → ByteArray × ByteArray) : Tr (ByteArray × ByteArray) → Option Addr → World → Prop
  | .nil, p, _ => p = none
  | .node l x r, p, w => ∃ (b : Nat) (pl pr : Option Addr), p = some ⟨b, 0, none⟩ ∧ n0 ≤ b ∧ TB b x pl pr (f (.node l x r)) w ∧ TA n0 f l pl w ∧ TA n0 f r pr w
/-- With no hashes yet. -/
def bare : Tr (ByteArray × ByteArray) → ByteArray × ByteArray := fun _ => (⟨#[]⟩, ⟨#[]⟩)
section
variable {n0 : Nat} {f : Tr (ByteArray × ByteArray) → ByteArray × ByteArray}
theorem TB.lt {b : Nat} {x : ByteArray × ByteArray} {l r : Option Addr} {e : ByteArray × ByteArray} {w : World} (h : TB b x l r e w) : b < w.heap.size := (Array.getElem?_eq_some_iff.1 h).1
theorem TB.below {b n : Nat} {x : ByteArray × ByteArray} {l r : Option Addr} {e : ByteArray × ByteArray} {w w' : World} (h : TB b x l r e w) (hb : Below n w w') (hn : w.heap.size ≤ n) : TB b x l r e w' :=
  (hb.block b (Nat.lt_of_lt_of_le h.lt hn)).trans h
theorem TA.below {n : Nat} {w w' : World} (hb : Below n w w') (hn : w.heap.size ≤ n) : ∀ {t : Tr (ByteArray × ByteArray)} {p : Option Addr}, TA n0 f t p w → TA n0 f t p w'
  | .nil, _, h => h
  | .node _ _ _, _, ⟨b, pl, pr, h1, h0, h2, h3, h4⟩ => ⟨b, pl, pr, h1, h0, h2.below hb hn, h3.below hb hn, h4.below hb hn⟩
theorem TA.ptr {t : Tr (ByteArray × ByteArray)} {p : Option Addr} {w : World} (h : TA n0 f t p w) : PtrT p w := by
  cases t with
  | nil => exact .inl h
  | node l x r =>
    obtain ⟨b, pl, pr, h1, _, h2, _, _⟩ := h
    exact .inr ⟨b, _, _, h1, h2⟩
end
/-- What 'above' says, by itself. -/
def AboveSaid (ab : ByteArray × ByteArray → ByteArray × ByteArray → Bool) : Prop := ∀ (p q : ByteArray × ByteArray) (w : World), Calls Tryz.prog 75 #[.agg (rankL (sha p.1.data.toList) p.1).toArray, .agg (rankL (sha q.1.data.toList) q.1).toArray] w fun e w' => e = .returned (.bool (ab p q)) ∧ Below w.heap.size w w'
theorem with_bare (b : Nat) (x : ByteArray × ByteArray) (pl pr l r : Option Addr) (w : World) (hb : TB b x pl pr (⟨#[]⟩, ⟨#[]⟩) w) (p1 : PtrT pl w) (p2 : PtrT pr w) (p3 : PtrT l w) (p4 : PtrT r w) :
    Calls Tryz.prog 76 #[.pointer (some ⟨b, 0, none⟩), .pointer l, .pointer r] w fun e w' => ∃ g, e = .returned (.pointer (some ⟨g, 0, none⟩)) ∧ (g = b ∨ w.heap.size ≤ g) ∧ TB g x l r (⟨#[]⟩, ⟨#[]⟩) w' ∧ Below w.heap.size w w' := by
  by_cases hne : l = pl ∧ r = pr
  · obtain ⟨rfl, rfl⟩ := hne
    refine (with_same b _ (sha_len32 _) x.1 x.2 l r _ _ w hb p1 p2).mono ?_
    rintro e w' ⟨he, rfl⟩
    exact ⟨b, he, .inl rfl, hb, Below.refl _ _⟩
  · refine (withT_any b _ (sha_len32 _) x.1 x.2 pl pr l r _ _ w hb p1 p2 p3 p4 hne).mono ?_
    rintro e w' ⟨g, he, hge, hg, hbl⟩
    exact ⟨g, he, .inr hge, hg, hbl⟩
theorem TB.c35 {b : Nat} {x : ByteArray × ByteArray} {l r : Option Addr} {e : ByteArray × ByteArray} {w : World} (h : TB b x l r e w) : w.cell? ⟨b, 35, none⟩ = some (.pointer l) := (Lib.cell_of_heap h 35).trans (by simpa using (tree_get _ (sha_len32 _) x.1 x.2 l r e.1 e.2).1)
theorem TB.c36 {b : Nat} {x : ByteArray × ByteArray} {l r : Option Addr} {e : ByteArray × ByteArray} {w : World} (h : TB b x l r e w) : w.cell? ⟨b, 36, none⟩ = some (.pointer r) := (Lib.cell_of_heap h 36).trans (by simpa using (tree_get _ (sha_len32 _) x.1 x.2 l r e.1 e.2).2.1)
theorem TB.c37 {b : Nat} {x : ByteArray × ByteArray} {l r : Option Addr} {e : ByteArray × ByteArray} {w : World} (h : TB b x l r e w) : w.cell? ⟨b, 37, none⟩ = some (.string e.1) := (Lib.cell_of_heap h 37).trans (by simpa using (tree_get _ (sha_len32 _) x.1 x.2 l r e.1 e.2).2.2.1)
theorem TB.c38 {b : Nat} {x : ByteArray × ByteArray} {l r : Option Addr} {e : ByteArray × ByteArray} {w : World} (h : TB b x l r e w) : w.cell? ⟨b, 38, none⟩ = some (.string e.2) := (Lib.cell_of_heap h 38).trans (by simpa using (tree_get _ (sha_len32 _) x.1 x.2 l r e.1 e.2).2.2.2.1)
theorem TB.c0 {b : Nat} {x : ByteArray × ByteArray} {l r : Option Addr} {e : ByteArray × ByteArray} {w : World} (h : TB b x l r e w) : w.cell? ⟨b, 0, none⟩ = some (.string x.1) := (Lib.cell_of_heap h 0).trans (by simpa using (tree_get _ (sha_len32 _) x.1 x.2 l r e.1 e.2).2.2.2.2.1)
theorem TB.c1 {b : Nat} {x : ByteArray × ByteArray} {l r : Option Addr} {e : ByteArray × ByteArray} {w : World} (h : TB b x l r e w) : w.cell? ⟨b, 1, none⟩ = some (.string x.2) := (Lib.cell_of_heap h 1).trans (by simpa using (tree_get _ (sha_len32 _) x.1 x.2 l r e.1 e.2).2.2.2.2.2)
theorem TB.rank {b : Nat} {x : ByteArray × ByteArray} {l r : Option Addr} {e : ByteArray × ByteArray} {w : World} (h : TB b x l r e w) : w.rangeAt b 2 (rankL (sha x.1.data.toList) x.1) := fun j u hj => (Lib.cell_of_heap h (2 + j)).trans (by simpa using tree_rank _ (sha_len32 _) x.1 x.2 l r e.1 e.2 j u hj)
theorem ptr_nil (w : World) : (binOp .eql 61 (.pointer none) (.pointer none)).run Tryz.prog w = .ok (.bool true) w := by
  rw [ptr_eql none none w (.inl rfl) (.inl rfl)]; rfl
theorem ptr_some (b : Addr) (w : World) (h : PtrT (some b) w) : (binOp .eql 61 (.pointer (some b)) (.pointer none)).run Tryz.prog w = .ok (.bool false) w := by
  rw [ptr_eql (some b) none w h (.inl rfl)]; rfl

theorem merge_any {ab : ByteArray × ByteArray → ByteArray × ByteArray → Bool} (HA : Hid (AboveSaid ab)) (n0 n : Nat) : ∀ (s t : Tr (ByteArray × ByteArray)) (ps pt : Option Addr) (w : World), s.size + t.size ≤ n → n0 ≤ w.heap.size → TA n0 bare s ps w → TA n0 bare t pt w →
    Calls Tryz.prog 54 #[.pointer ps, .pointer pt] w fun e w' => ∃ p, e = .returned (.pointer p) ∧ TA n0 bare (Tr.merge ab s t) p w' ∧ Below w.heap.size w w' := by
  induction n with
  | zero =>
    intro s t ps pt w hn h0 hs ht
    cases s with
    | node l x r => simp [Tr.size] at hn
    | nil =>
      obtain rfl : ps = none := hs
      have q := ptr_nil w
      rw [Tr.merge]
      have HT : Hid (TA n0 bare t pt w) := ht
      clear ht hn
      go_enter Tryz.func54, Tryz.ntmps54
      go_wp2_with fail
      go_ret
      exact ⟨pt, rfl, HT.out, Below.refl _ _⟩
  | succ n ih =>
    intro s t ps pt w hn h0 hs ht
    cases s with
    | nil =>
      obtain rfl : ps = none := hs
      have q := ptr_nil w
      rw [Tr.merge]
      have HT : Hid (TA n0 bare t pt w) := ht
      clear ht hn ih
      go_enter Tryz.func54, Tryz.ntmps54
      go_wp2_with fail
      go_ret
      exact ⟨pt, rfl, HT.out, Below.refl _ _⟩
    | node l x r =>
      have hps := hs.ptr
      obtain ⟨b, pl, pr, rfl, hge, hb, hl, hr⟩ := id hs
      have q1 := ptr_some _ w hps
      cases t with
      | nil =>
        obtain rfl : pt = none := ht
        have q := ptr_nil w
        rw [Tr.merge]
        have HT : Hid (TA n0 bare (.node l x r) (some ⟨b, 0, none⟩) w) := hs
        clear hs hn ih hb hl hr hps
        go_enter Tryz.func54, Tryz.ntmps54
        go_wp2_with fail
        go_ret
        exact ⟨_, rfl, HT.out, Below.refl _ _⟩
      | node l2 y r2 =>
        have hpt := ht.ptr
        obtain ⟨b2, pl2, pr2, rfl, hge2, hb2, hl2, hr2⟩ := id ht
        have q2 := ptr_some _ w hpt
        have hk1 := hb.rank
        have hk2 := hb2.rank
        have HAB : Hid (∀ w', Calls Tryz.prog 75 #[.agg (rankL (sha x.1.data.toList) x.1).toArray, .agg (rankL (sha y.1.data.toList) y.1).toArray] w' fun e w'' => e = .returned (.bool (ab x y)) ∧ Below w'.heap.size w' w'') := fun w' => HA.out x y w'
        obtain ⟨T, hT⟩ : ∃ T, Tr.merge ab (.node l x r) (.node l2 y r2) = T := ⟨_, rfl⟩
        rw [hT]
        rw [Tr.merge] at hT
        have HT : Hid ((if ab x y = true then Tr.node l x (Tr.merge ab r (.node l2 y r2)) else Tr.node (Tr.merge ab (.node l x r) l2) y r2) = T) := hT
        clear hT
        have hn' : r.size + (Tr.node l2 y r2).size ≤ n := by simp only [Tr.size] at hn ⊢; omega
        have hn2 : (Tr.node l x r).size + l2.size ≤ n := by simp only [Tr.size] at hn ⊢; omega
        clear hn
        go_enter Tryz.func54, Tryz.ntmps54
        go_upto_region 5 with fail
        refine wp_region_held_drew (S := fun W => W.rangeAt b 2 (rankL (sha x.1.data.toList) x.1) ∧ W.rangeAt b2 2 (rankL (sha y.1.data.toList) y.1)) (by kernel_rfl) ⟨hk1, hk2⟩ (fun hHeld => ?_)
        refine tkI 0 ?_
        simp only [Act.put, zq]
        refine tkI 1 ?_
        simp only [Act.put, zq]
        refine tkI 2 ?_
        simp only [Act.put, zq]
        refine tkH (i := 3) (v := _) rfl (yieldsIf_load_mid (by rfl) _ _ rfl _ _ rfl _ _ (fun w h => h.1) Tryz.underlying125 rfl (rank_size _ (sha_len32 _) _)) ?_
        simp only [Act.put, zq]
        refine tkI 4 ?_
        simp only [Act.put, zq]
        refine tkI 5 ?_
        simp only [Act.put, zq]
        refine tkI 6 ?_
        simp only [Act.put, zq]
        refine tkH (i := 7) (v := _) rfl (yieldsIf_load_mid (by rfl) _ _ rfl _ _ rfl _ _ (fun w h => h.2) Tryz.underlying125 rfl (rank_size _ (sha_len32 _) _)) ?_
        simp only [Act.put, zq]
        refine rdH 8 (fun K hK => ?_)
        go_simp
        refine (HAB.out _).mono ?_
        rintro e w1 ⟨rfl, hb1'⟩
        have hbw1 : Below w.heap.size w w1 := ((Below.refl w.heap.size w).drew).trans hb1'
        clear hb1'
        refine hK.out _ _ ⟨(hb.below hbw1 (Nat.le_refl _)).rank, (hb2.below hbw1 (Nat.le_refl _)).rank⟩ (fun hHeld => ?_)
        clear hK K
        refine wpAnyH_done (by kernel_rfl) ?_ _
        have hs1 := hbw1.size
        cases hv : ab x y with
        | true =>
          have hif : Hid (T = Tr.node l x (Tr.merge ab r (.node l2 y r2))) := by show _ = _; rw [← HT.out, if_pos hv]
          clear HT
          have HI : Hid (∀ w', Below w.heap.size w w' → Calls Tryz.prog 54 #[.pointer pr, .pointer (some ⟨b2, 0, none⟩)] w' fun e w'' => ∃ p, e = .returned (.pointer p) ∧ TA n0 bare (Tr.merge ab r (.node l2 y r2)) p w'' ∧ Below w'.heap.size w' w'') := fun w' h => ih r (.node l2 y r2) pr (some ⟨b2, 0, none⟩) w' hn' (Nat.le_trans h0 h.size) (hr.below h (Nat.le_refl _)) (ht.below h (Nat.le_refl _))
          have HW : Hid (∀ w' r', Below w.heap.size w w' → PtrT r' w' → Calls Tryz.prog 76 #[.pointer (some ⟨b, 0, none⟩), .pointer pl, .pointer r'] w' fun e w'' => ∃ g, e = .returned (.pointer (some ⟨g, 0, none⟩)) ∧ (g = b ∨ w'.heap.size ≤ g) ∧ TB g x pl r' (⟨#[]⟩, ⟨#[]⟩) w'' ∧ Below w'.heap.size w' w'') := fun w' r' h hp => with_bare b x pl pr pl r' w' (hb.below h (Nat.le_refl _)) (hl.below h (Nat.le_refl _)).ptr (hr.below h (Nat.le_refl _)).ptr (hl.below h (Nat.le_refl _)).ptr hp
          have HC : Hid (∀ w', Below w.heap.size w w' → w'.cell? ⟨b, 35, none⟩ = some (.pointer pl) ∧ w'.cell? ⟨b, 36, none⟩ = some (.pointer pr)) := fun w' h => ⟨(hb.below h (Nat.le_refl _)).c35, (hb.below h (Nat.le_refl _)).c36⟩
          have HL : Hid (TA n0 bare l pl w) := hl
          clear ih hn' hn2 hHeld hb hb2 hl hr hl2 hr2 hs ht hps hpt hk1 hk2 HAB hv q1 q2 HA
          go_upto_region 6 with fail
          go_region_held3 (fun W => W.cell? ⟨b, 35, none⟩ = some (.pointer pl) ∧ W.cell? ⟨b, 36, none⟩ = some (.pointer pr)) (first | exact HC.out _ hbw1.drew | exact HC.out _ hbw2 | exact HC.out _ hbw3) (first | (go_at_call 54; refine (HI.out _ hbw1.drew).mono ?_; rintro e w2 ⟨p, rfl, hp, hb2'⟩; have hbw2 : Below w.heap.size w w2 := hbw1.drew.trans (hb2'.mono hs1); have hs2 := hbw2.size; clear hb2') | (go_at_call 76; refine (HW.out _ _ hbw2 hp.ptr).mono ?_; rintro e w3 ⟨g, rfl, hgo, hg, hb3'⟩; have hbw3 : Below w.heap.size w w3 := hbw2.trans (hb3'.mono hs2)))
          go_wp2_with fail
          go_ret
          rw [hif.out]
          exact ⟨_, rfl, ⟨g, pl, p, rfl, (by rcases hgo with q | q <;> omega), hg, HL.out.below hbw3 (Nat.le_refl _), hp.below hb3' (Nat.le_refl _)⟩, hbw3⟩
        | false =>
          have hif : Hid (T = Tr.node (Tr.merge ab (.node l x r) l2) y r2) := by show _ = _; rw [← HT.out, if_neg (by rw [hv]; decide)]
          clear HT
          have HI : Hid (∀ w', Below w.heap.size w w' → Calls Tryz.prog 54 #[.pointer (some ⟨b, 0, none⟩), .pointer pl2] w' fun e w'' => ∃ p, e = .returned (.pointer p) ∧ TA n0 bare (Tr.merge ab (.node l x r) l2) p w'' ∧ Below w'.heap.size w' w'') := fun w' h => ih (.node l x r) l2 (some ⟨b, 0, none⟩) pl2 w' hn2 (Nat.le_trans h0 h.size) (hs.below h (Nat.le_refl _)) (hl2.below h (Nat.le_refl _))
          have HW : Hid (∀ w' l', Below w.heap.size w w' → PtrT l' w' → Calls Tryz.prog 76 #[.pointer (some ⟨b2, 0, none⟩), .pointer l', .pointer pr2] w' fun e w'' => ∃ g, e = .returned (.pointer (some ⟨g, 0, none⟩)) ∧ (g = b2 ∨ w'.heap.size ≤ g) ∧ TB g y l' pr2 (⟨#[]⟩, ⟨#[]⟩) w'' ∧ Below w'.heap.size w' w'') := fun w' l' h hp => with_bare b2 y pl2 pr2 l' pr2 w' (hb2.below h (Nat.le_refl _)) (hl2.below h (Nat.le_refl _)).ptr (hr2.below h (Nat.le_refl _)).ptr hp (hr2.below h (Nat.le_refl _)).ptr
          have HC : Hid (∀ w', Below w.heap.size w w' → w'.cell? ⟨b2, 35, none⟩ = some (.pointer pl2) ∧ w'.cell? ⟨b2, 36, none⟩ = some (.pointer pr2)) := fun w' h => ⟨(hb2.below h (Nat.le_refl _)).c35, (hb2.below h (Nat.le_refl _)).c36⟩
          have HL : Hid (TA n0 bare r2 pr2 w) := hr2
          clear ih hn' hn2 hHeld hb hb2 hl hr hl2 hr2 hs ht hps hpt hk1 hk2 HAB hv q1 q2 HA
          go_upto_region 7 with fail
          go_region_held3 (fun W => W.cell? ⟨b2, 35, none⟩ = some (.pointer pl2) ∧ W.cell? ⟨b2, 36, none⟩ = some (.pointer pr2)) (first | exact HC.out _ hbw1.drew | exact HC.out _ hbw2 | exact HC.out _ hbw3) (first | (go_at_call 54; refine (HI.out _ hbw1.drew).mono ?_; rintro e w2 ⟨p, rfl, hp, hb2'⟩; have hbw2 : Below w.heap.size w w2 := hbw1.drew.trans (hb2'.mono hs1); have hs2 := hbw2.size; clear hb2') | (go_at_call 76; refine (HW.out _ _ hbw2 hp.ptr).mono ?_; rintro e w3 ⟨g, rfl, hgo, hg, hb3'⟩; have hbw3 : Below w.heap.size w w3 := hbw2.trans (hb3'.mono hs2)))
          go_wp2_with fail
          go_ret
          rw [hif.out]
          exact ⟨_, rfl, ⟨g, p, pr2, rfl, (by rcases hgo with q | q <;> omega), hg, hp.below hb3' (Nat.le_refl _), HL.out.below hbw3 (Nat.le_refl _)⟩, hbw3⟩
end Go.Proofs.YtmfhfehemoeeeaaGreatDoor
