import Derived.Test.YtibjhkpgaaapaaaGreatDoorZgbf
set_option maxRecDepth 100000
set_option maxHeartbeats 2000000
namespace Go.Proofs.YtibjhkpgaaapaaaGreatDoor
open Go.RowKit Go.Proofs.Sha

/-- An F's block: its children, its encoding. -/
def QB (b : Nat) (lv rv : Value) (E : ByteArray) (w : World) : Prop := ∃ k v : Value, w.heap[b]? = some (.cells #[k, v, lv, rv, .string E] 151)
theorem QB.below {b : Nat} {lv rv : Value} {E : ByteArray} {w w' : World} (h : QB b lv rv E w) (hb : Below w.heap.size w w') : QB b lv rv E w' := by
  obtain ⟨k, v, h⟩ := h
  exact ⟨k, v, below_cells hb h⟩
abbrev Uc (ca cb : Nat) : World → World → Prop := Upd (fun k => k = ca ∨ k = cb)
theorem ab_keep {ca cb b : Nat} {sa sb : ByteArray} {w w' : World} {cs : Array Value} (h : w.heap[b]? = some (.cells cs 151)) (hab : AB ca cb sa sb w) (hu : Uc ca cb w w') : w'.heap[b]? = some (.cells cs 151) :=
  (hu.block b (Array.getElem?_eq_some_iff.1 h).1 (fun q => by
    rcases q with q | q
    · exact ne_of_type h hab.ha (by decide) q
    · exact ne_of_type h hab.hb (by decide) q)).trans h
theorem QB.upd {ca cb b : Nat} {sa sb : ByteArray} {lv rv : Value} {E : ByteArray} {w w' : World} (h : QB b lv rv E w) (hab : AB ca cb sa sb w) (hu : Uc ca cb w w') : QB b lv rv E w' := by
  obtain ⟨k, v, h⟩ := h
  exact ⟨k, v, ab_keep h hab hu⟩
theorem PA.upd {ca cb wd n0 : Nat} {sa sb : ByteArray} {t : PT} {x : Value} {w w' : World} (h : PA wd n0 t x w) (hab : AB ca cb sa sb w) (hu : Uc ca cb w w') : PA wd n0 t x w' := h.keep (fun _ _ _ h3 => ab_keep h3 hab hu)
theorem encOf5_any (b : Nat) (lv rv : Value) (E : ByteArray) (w : World) (h : QB b lv rv E w) : Calls Tryz.prog 220 #[.pointer (some ⟨b, 0, none⟩)] w fun y w' => y = .returned (.string E) ∧ w' = w := by
  obtain ⟨k, v, h⟩ := h
  have c := Lib.cell_of_heap h 4
  clear h
  go_enter Tryz.func220, Tryz.ntmps220
  go_wp2_with fail
  go_ret
  exact ⟨rfl, rfl⟩
theorem subs5_any (wd n0 b : Nat) (l r : PT) (lv rv : Value) (E : ByteArray) (w : World) (h : QB b lv rv E w) (hl : PA wd n0 l lv w) (hr : PA wd n0 r rv w) :
    Calls Tryz.prog 222 #[.pointer (some ⟨b, 0, none⟩)] w fun e w' => e = .returned (.tuple #[.pointer (ptrV lv), .pointer (ptrV rv)]) ∧ Below w.heap.size w w' := by
  obtain ⟨k, v, h⟩ := h
  exact subsP_any wd n0 b l r lv rv _ _ _ w h hl hr
theorem PB.below {wd n0 : Nat} {t : PT} {p : Option Addr} {w w' : World} (h : PB wd n0 t p w) (hb : Below w.heap.size w w') : PB wd n0 t p w' := by
  cases t with
  | e => exact h
  | s _ => exact h
  | f k v l r =>
    obtain ⟨b, lv, rv, h1, h2, h3, h4, h5⟩ := h
    exact ⟨b, lv, rv, h1, h2, below_cells hb h3, h4.below hb, h5.below hb⟩
theorem areFull_any (wd n0 : Nat) (s t : PT) (p q : Option Addr) (w : World) (hs : PB wd n0 s p w) (ht : PB wd n0 t q w) : Calls Tryz.prog 46 #[.agg #[.pointer p, .pointer q]] w fun e w' => e = .returned (.bool (isF s && isF t)) ∧ Below w.heap.size w w' := by
  have H1 : Hid (∀ w', Below w.heap.size w w' → Calls Tryz.prog 99 #[.pointer p] w' fun e w'' => e = .returned (.bool (isF s)) ∧ w' = w'') := fun w' hb => isFull_any wd n0 s p w' (hs.below hb)
  have H2 : Hid (∀ w', Below w.heap.size w w' → Calls Tryz.prog 99 #[.pointer q] w' fun e w'' => e = .returned (.bool (isF t)) ∧ w' = w'') := fun w' hb => isFull_any wd n0 t q w' (ht.below hb)
  have hbA : Below w.heap.size w (w.alloc (.cells #[.pointer p, .pointer q] 87)) := (Below.refl _ _).alloc (Nat.le_refl _) _
  have nA := heap_alloc_new w (.cells #[.pointer p, .pointer q] 87)
  have k0 := Lib.cell_of_heap nA 0
  have k1 := Lib.cell_of_heap nA 1
  generalize isF s = x at H1 ⊢
  generalize isF t = y at H2 ⊢
  clear hs ht nA
  cases x with
  | false =>
    go_enter Tryz.func46, Tryz.ntmps46
    go_wp2_with (first | (go_at_call 99; refine (H1.out _ hbA).mono ?_; rintro e w1 ⟨rfl, rfl⟩))
    go_ret
    exact ⟨rfl, hbA⟩
  | true =>
    go_enter Tryz.func46, Tryz.ntmps46
    go_wp2_with (first | (go_at_call_of 99 (Value.pointer p); refine (H1.out _ hbA).mono ?_; rintro e w1 ⟨rfl, rfl⟩) | (go_at_call_of 99 (Value.pointer q); refine (H2.out _ hbA).mono ?_; rintro e w1 ⟨rfl, rfl⟩))
    go_ret
    exact ⟨rfl, hbA⟩
theorem bsubs5_any (b1 b2 : Nat) (wd n0 : Nat) (la ra lb rb : PT) (lv1 rv1 lv2 rv2 : Value) (e1 e2 : ByteArray) (w : World) (h1 : QB b1 lv1 rv1 e1 w) (h2 : QB b2 lv2 rv2 e2 w) (a1 : PA wd n0 la lv1 w) (a2 : PA wd n0 ra rv1 w) (a3 : PA wd n0 lb lv2 w) (a4 : PA wd n0 rb rv2 w) (l1 r1 l2 r2 : Option Addr) (q1 : ptrV lv1 = l1) (q2 : ptrV rv1 = r1) (q3 : ptrV lv2 = l2) (q4 : ptrV rv2 = r2) :
    Calls Tryz.prog 225 #[.agg #[.pointer (some ⟨b1, 0, none⟩), .pointer (some ⟨b2, 0, none⟩)]] w fun e w' => e = .returned (.tuple #[.agg #[.pointer l1, .pointer l2], .agg #[.pointer r1, .pointer r2]]) ∧ Below w.heap.size w w' := by
  have hm1 : ∀ w' : World, (method 427 84 (.pointer (some ⟨b1, 0, none⟩)) "loop.example/s03048/impl.subtrees").run Tryz.prog w' = .ok (222, .pointer (some ⟨b1, 0, none⟩)) w' := fun _ => by kernel_rfl
  have hm2 : ∀ w' : World, (method 427 84 (.pointer (some ⟨b2, 0, none⟩)) "loop.example/s03048/impl.subtrees").run Tryz.prog w' = .ok (222, .pointer (some ⟨b2, 0, none⟩)) w' := fun _ => by kernel_rfl
  have H1 : Hid (∀ w', Below w.heap.size w w' → Calls Tryz.prog 222 #[.pointer (some ⟨b1, 0, none⟩)] w' fun e w'' => e = .returned (.tuple #[.pointer l1, .pointer r1]) ∧ Below w'.heap.size w' w'') := fun w' h => by rw [← q1, ← q2]; exact subs5_any wd n0 b1 la ra lv1 rv1 e1 w' (h1.below h) (a1.below h) (a2.below h)
  have H2 : Hid (∀ w', Below w.heap.size w w' → Calls Tryz.prog 222 #[.pointer (some ⟨b2, 0, none⟩)] w' fun e w'' => e = .returned (.tuple #[.pointer l2, .pointer r2]) ∧ Below w'.heap.size w' w'') := fun w' h => by rw [← q3, ← q4]; exact subs5_any wd n0 b2 lb rb lv2 rv2 e2 w' (h2.below h) (a3.below h) (a4.below h)
  clear h1 h2 a1 a2 a3 a4 q1 q2 q3 q4
  obtain ⟨W, hW⟩ : ∃ W, ((w.alloc (.cells #[.pointer (some ⟨b1, 0, none⟩), .pointer (some ⟨b2, 0, none⟩)] 87)).alloc (.cells #[.pointer none, .pointer none] 87)).alloc (.cells #[.pointer none, .pointer none] 87) = W := ⟨_, rfl⟩
  have hbA : Below w.heap.size w W := by rw [← hW]; exact (((Below.refl _ _).alloc (Nat.le_refl _) _).alloc (by simp) _).alloc (by simp; omega) _
  have n0 : W.heap[w.heap.size]? = some (.cells #[.pointer (some ⟨b1, 0, none⟩), .pointer (some ⟨b2, 0, none⟩)] 87) := by
    rw [← hW, Below.heap_alloc _ _ _ (by simp; omega), Below.heap_alloc _ _ _ (by simp)]; exact heap_alloc_new w _
  have n1 : W.heap[w.heap.size + 1]? = some (.cells #[.pointer none, .pointer none] 87) := by
    have := heap_alloc_new (w.alloc (.cells #[.pointer (some ⟨b1, 0, none⟩), .pointer (some ⟨b2, 0, none⟩)] 87)) (.cells #[.pointer none, .pointer none] 87)
    rw [← hW, Below.heap_alloc _ _ _ (by simp)]; simpa using this
  have n2 : W.heap[w.heap.size + 1 + 1]? = some (.cells #[.pointer none, .pointer none] 87) := by
    have := heap_alloc_new ((w.alloc (.cells #[.pointer (some ⟨b1, 0, none⟩), .pointer (some ⟨b2, 0, none⟩)] 87)).alloc (.cells #[.pointer none, .pointer none] 87)) (.cells #[.pointer none, .pointer none] 87)
    rw [← hW]; simpa using this
  have hsz : W.heap.size = w.heap.size + 1 + 1 + 1 := by rw [← hW]; simp
  go_enter Tryz.func225, Tryz.ntmps225
  go_upto_region 1 with fail
  try rw [hW]
  clear hW
  obtain ⟨ga, hga⟩ : ∃ ga, w.heap.size = ga := ⟨_, rfl⟩
  rw [hga] at n0 n1 n2 hsz ⊢
  have k0 := Lib.cell_of_heap n0 0
  go_wp2_with (first | (go_at_call_of 222 (Value.pointer (some ⟨b1, 0, none⟩)); refine (H1.out _ hbA).mono ?_; rintro e w1 ⟨rfl, hb1'⟩; have k1 := Lib.cell_of_heap ((hb1'.block ga (by omega)).trans n0) 1) | (go_at_call_of 222 (Value.pointer (some ⟨b2, 0, none⟩)); refine (H2.out _ (hbA.trans (hb1'.mono hbA.size))).mono ?_; rintro e w2 ⟨rfl, hb2'⟩; have hb2 : Below W.heap.size W w2 := hb1'.trans (hb2'.mono hb1'.size); have m1 := (hb2.block (ga + 1) (by omega)).trans n1; have m2 := (hb2.block (ga + 1 + 1) (by omega)).trans n2; have d10 := Lib.cell_of_heap m1 0; have d11 := Lib.cell_of_heap m1 1; have d20 := Lib.cell_of_heap m2 0; have d21 := Lib.cell_of_heap m2 1; have f10 : ∀ j, w2.frozen? ⟨ga + 1, j, none⟩ = false := fun j => by { rw [World.frozen?, m1]; rfl }; have f20 : ∀ j, w2.frozen? ⟨ga + 1 + 1, j, none⟩ = false := fun j => by { rw [World.frozen?, m2]; rfl }))
  have hb3 : Below ga w ((((w2.setCell ⟨ga + 1, 0, none⟩ (.pointer l1)).setCell ⟨ga + 1, 1, none⟩ (.pointer l2)).setCell ⟨ga + 1 + 1, 0, none⟩ (.pointer r1)).setCell ⟨ga + 1 + 1, 1, none⟩ (.pointer r2)) := ((((hbA.trans (hb2.mono hbA.size)).mono (by omega)).setCell (by show ga ≤ ga + 1; omega) _).setCell (by show ga ≤ ga + 1; omega) _).setCell (by show ga ≤ ga + 1 + 1; omega) _ |>.setCell (by show ga ≤ ga + 1 + 1; omega) _
  have e1 : ((((w2.setCell ⟨ga + 1, 0, none⟩ (.pointer l1)).setCell ⟨ga + 1, 1, none⟩ (.pointer l2)).setCell ⟨ga + 1 + 1, 0, none⟩ (.pointer r1)).setCell ⟨ga + 1 + 1, 1, none⟩ (.pointer r2)).heap[ga + 1]? = some (.cells #[.pointer l1, .pointer l2] 87) := by
    rw [Below.heap_setCell _ _ _ _ (by show ga + 1 ≠ ga + 1 + 1; omega), Below.heap_setCell _ _ _ _ (by show ga + 1 ≠ ga + 1 + 1; omega)]
    exact heap_setCell_same _ (ga + 1) 1 _ 87 _ (heap_setCell_same w2 (ga + 1) 0 _ 87 (.pointer l1) m1)
  have e2 : ((((w2.setCell ⟨ga + 1, 0, none⟩ (.pointer l1)).setCell ⟨ga + 1, 1, none⟩ (.pointer l2)).setCell ⟨ga + 1 + 1, 0, none⟩ (.pointer r1)).setCell ⟨ga + 1 + 1, 1, none⟩ (.pointer r2)).heap[ga + 1 + 1]? = some (.cells #[.pointer r1, .pointer r2] 87) := by
    refine heap_setCell_same _ (ga + 1 + 1) 1 _ 87 _ (heap_setCell_same _ (ga + 1 + 1) 0 #[.pointer none, .pointer none] 87 (.pointer r1) ?_)
    rw [Below.heap_setCell _ _ _ _ (by show ga + 1 + 1 ≠ ga + 1; omega), Below.heap_setCell _ _ _ _ (by show ga + 1 + 1 ≠ ga + 1; omega)]
    exact m2
  generalize (((w2.setCell ⟨ga + 1, 0, none⟩ (.pointer l1)).setCell ⟨ga + 1, 1, none⟩ (.pointer l2)).setCell ⟨ga + 1 + 1, 0, none⟩ (.pointer r1)).setCell ⟨ga + 1 + 1, 1, none⟩ (.pointer r2) = w5 at hb3 e1 e2 ⊢
  have q1 := Lib.cell_of_heap e1 0
  have q2 := Lib.cell_of_heap e1 1
  have q3 := Lib.cell_of_heap e2 0
  have q4 := Lib.cell_of_heap e2 1
  refine bodyPost_ret (v := .tuple #[.agg #[.pointer l1, .pointer l2], .agg #[.pointer r1, .pointer r2]]) ?_ rfl ⟨rfl, ?_⟩
  · simp [results, Tryz.results225, go_sem, q1, q2, q3, q4]
  · rw [hga]; exact hb3
theorem tw_same5 (b1 b2 : Nat) (l1 r1 l2 r2 : Value) (E : ByteArray) (ca cb : Nat) (i : Int) (w : World) (t1 : QB b1 l1 r1 E w) (t2 : QB b2 l2 r2 E w) (hab : AB ca cb ⟨#[]⟩ ⟨#[]⟩ w) :
    Calls Tryz.prog 103 #[.agg #[.pointer (some ⟨b1, 0, none⟩), .pointer (some ⟨b2, 0, none⟩)], .int .i64 i, .pointer (some ⟨ca, 0, none⟩), .pointer (some ⟨cb, 0, none⟩)] w fun e w' => e = .returned (.bool true) ∧ Below w.heap.size w w' := by
  have hm1 : ∀ w' : World, (method 427 84 (.pointer (some ⟨b1, 0, none⟩)) "loop.example/s03048/impl.encoding").run Tryz.prog w' = .ok (220, .pointer (some ⟨b1, 0, none⟩)) w' := fun _ => by kernel_rfl
  have hm2 : ∀ w' : World, (method 427 84 (.pointer (some ⟨b2, 0, none⟩)) "loop.example/s03048/impl.encoding").run Tryz.prog w' = .ok (220, .pointer (some ⟨b2, 0, none⟩)) w' := fun _ => by kernel_rfl
  have H1 : Hid (∀ w', Below w.heap.size w w' → Calls Tryz.prog 220 #[.pointer (some ⟨b1, 0, none⟩)] w' fun e w'' => e = .returned (.string E) ∧ w'' = w') := fun w' h => encOf5_any b1 l1 r1 _ w' (t1.below h)
  have H2 : Hid (∀ w', Below w.heap.size w w' → Calls Tryz.prog 220 #[.pointer (some ⟨b2, 0, none⟩)] w' fun e w'' => e = .returned (.string E) ∧ w'' = w') := fun w' h => encOf5_any b2 l2 r2 _ w' (t2.below h)
  have hbA : Below w.heap.size w (w.alloc (.cells #[.pointer (some ⟨b1, 0, none⟩), .pointer (some ⟨b2, 0, none⟩)] 87)) := (Below.refl _ _).alloc (Nat.le_refl _) _
  have nA := heap_alloc_new w (.cells #[.pointer (some ⟨b1, 0, none⟩), .pointer (some ⟨b2, 0, none⟩)] 87)
  have hca := Lib.cell_of_heap (hab.below hbA).ha 0
  obtain ⟨ga, hga⟩ : ∃ ga, w.heap.size = ga := ⟨_, rfl⟩
  rw [hga] at nA
  clear t1 t2 hab
  go_enter Tryz.func103, Tryz.ntmps103
  go_upto_region 1 with fail
  try rw [hga]
  have k0 := Lib.cell_of_heap nA 0
  have k1 := Lib.cell_of_heap nA 1
  generalize w.alloc (.cells #[.pointer (some ⟨b1, 0, none⟩), .pointer (some ⟨b2, 0, none⟩)] 87) = wa at hbA nA hca k0 k1 ⊢
  go_region_held3 (fun W => W.cell? ⟨ga, 0, none⟩ = some (.pointer (some ⟨b1, 0, none⟩)) ∧ W.cell? ⟨ga, 1, none⟩ = some (.pointer (some ⟨b2, 0, none⟩))) (first | exact ⟨k0, k1⟩) (first | (go_at_call_of 220 (Value.pointer (some ⟨b1, 0, none⟩)); refine (H1.out _ hbA.drew).mono ?_; rintro e w1 ⟨rfl, rfl⟩) | (go_at_call_of 220 (Value.pointer (some ⟨b2, 0, none⟩)); refine (H2.out _ hbA.drew).mono ?_; rintro e w1 ⟨rfl, rfl⟩))
  go_wp2_with fail
  go_ret
  exact ⟨rfl, hbA.drew⟩
theorem tw_diff5 (b1 b2 : Nat) (l1 r1 l2 r2 : Value) (E F sa sb : ByteArray) (hEF : E ≠ F) (hE : E.size ≤ 1048576) (hF : F.size ≤ 1048576) (ca cb : Nat) (i : Int) (w : World) (t1 : QB b1 l1 r1 E w) (t2 : QB b2 l2 r2 F w) (hab : AB ca cb sa sb w) :
    Calls Tryz.prog 103 #[.agg #[.pointer (some ⟨b1, 0, none⟩), .pointer (some ⟨b2, 0, none⟩)], .int .i64 i, .pointer (some ⟨ca, 0, none⟩), .pointer (some ⟨cb, 0, none⟩)] w fun e w' => e = .returned (.bool false) ∧ AB ca cb (txt E) (txt F) w' ∧ Upd (fun k => k = ca ∨ k = cb) w w' := by
  have hm1 : ∀ w' : World, (method 427 84 (.pointer (some ⟨b1, 0, none⟩)) "loop.example/s03048/impl.encoding").run Tryz.prog w' = .ok (220, .pointer (some ⟨b1, 0, none⟩)) w' := fun _ => by kernel_rfl
  have hm2 : ∀ w' : World, (method 427 84 (.pointer (some ⟨b2, 0, none⟩)) "loop.example/s03048/impl.encoding").run Tryz.prog w' = .ok (220, .pointer (some ⟨b2, 0, none⟩)) w' := fun _ => by kernel_rfl
  have H1 : Hid (∀ w', Below w.heap.size w w' → Calls Tryz.prog 220 #[.pointer (some ⟨b1, 0, none⟩)] w' fun e w'' => e = .returned (.string E) ∧ w'' = w') := fun w' h => encOf5_any b1 l1 r1 _ w' (t1.below h)
  have H2 : Hid (∀ w', Below w.heap.size w w' → Calls Tryz.prog 220 #[.pointer (some ⟨b2, 0, none⟩)] w' fun e w'' => e = .returned (.string F) ∧ w'' = w') := fun w' h => encOf5_any b2 l2 r2 _ w' (t2.below h)
  have HX : Hid (∀ w', Calls Tryz.prog 104 #[.string E] w' fun e w'' => e = .returned (.string (txt E)) ∧ w'' = w') := fun w' => textOf_any E w' hE
  have HY : Hid (∀ w', Calls Tryz.prog 104 #[.string F] w' fun e w'' => e = .returned (.string (txt F)) ∧ w'' = w') := fun w' => textOf_any F w' hF
  have hne : (E.toList == F.toList) = false := str_ne hEF
  have hte := txt_ne E
  have hbA : Below w.heap.size w (w.alloc (.cells #[.pointer (some ⟨b1, 0, none⟩), .pointer (some ⟨b2, 0, none⟩)] 87)) := (Below.refl _ _).alloc (Nat.le_refl _) _
  have nA := heap_alloc_new w (.cells #[.pointer (some ⟨b1, 0, none⟩), .pointer (some ⟨b2, 0, none⟩)] 87)
  have hA := (hab.below hbA)
  have hla := (Array.getElem?_eq_some_iff.1 hab.ha).1
  have hlb := (Array.getElem?_eq_some_iff.1 hab.hb).1
  obtain ⟨ga, hga⟩ : ∃ ga, w.heap.size = ga := ⟨_, rfl⟩
  rw [hga] at nA hla hlb
  clear t1 t2 hab hEF
  generalize txt E = X at HX hte ⊢
  generalize txt F = Y at HY ⊢
  go_enter Tryz.func103, Tryz.ntmps103
  go_upto_region 1 with fail
  try rw [hga]
  have k0 := Lib.cell_of_heap nA 0
  have k1 := Lib.cell_of_heap nA 1
  generalize w.alloc (.cells #[.pointer (some ⟨b1, 0, none⟩), .pointer (some ⟨b2, 0, none⟩)] 87) = wa at hbA nA hA k0 k1 ⊢
  go_region_held3 (fun W => W.cell? ⟨ga, 0, none⟩ = some (.pointer (some ⟨b1, 0, none⟩)) ∧ W.cell? ⟨ga, 1, none⟩ = some (.pointer (some ⟨b2, 0, none⟩))) (first | exact ⟨k0, k1⟩) (first | (go_at_call_of 220 (Value.pointer (some ⟨b1, 0, none⟩)); refine (H1.out _ hbA.drew).mono ?_; rintro e w1 ⟨rfl, rfl⟩) | (go_at_call_of 220 (Value.pointer (some ⟨b2, 0, none⟩)); refine (H2.out _ hbA.drew).mono ?_; rintro e w1 ⟨rfl, rfl⟩))
  go_upto_region 2 with fail
  have hb1 : Below w.heap.size w wa.drew := hbA.drew
  have hA1 : AB ca cb sa sb wa.drew := ⟨hA.ha, hA.hb, hA.ne⟩
  have nA1 : wa.drew.heap[ga]? = some (.cells #[.pointer (some ⟨b1, 0, none⟩), .pointer (some ⟨b2, 0, none⟩)] 87) := nA
  clear hbA hA nA k0 k1
  generalize wa.drew = wb at hb1 hA1 nA1 ⊢
  have k0 := Lib.cell_of_heap nA1 0
  have k1 := Lib.cell_of_heap nA1 1
  have ka := Lib.cell_of_heap hA1.ha 0
  have kb := Lib.cell_of_heap hA1.hb 0
  have fa : wb.frozen? ⟨ca, 0, none⟩ = false := by rw [World.frozen?, hA1.ha]; rfl
  have fb : wb.frozen? ⟨cb, 0, none⟩ = false := by rw [World.frozen?, hA1.hb]; rfl
  have hcc := hA1.ne
  have hs1 : Hid (∀ va, (wb.setCell ⟨ca, 0, none⟩ va).cell? ⟨ga, 0, none⟩ = some (.pointer (some ⟨b1, 0, none⟩)) ∧ (wb.setCell ⟨ca, 0, none⟩ va).cell? ⟨ga, 1, none⟩ = some (.pointer (some ⟨b2, 0, none⟩))) := fun va => ⟨(cell_set_far wb ca 0 ga 0 va (by omega)).trans k0, (cell_set_far wb ca 0 ga 1 va (by omega)).trans k1⟩
  have hs2 : Hid (∀ va vb, ((wb.setCell ⟨ca, 0, none⟩ va).setCell ⟨cb, 0, none⟩ vb).cell? ⟨ga, 0, none⟩ = some (.pointer (some ⟨b1, 0, none⟩)) ∧ ((wb.setCell ⟨ca, 0, none⟩ va).setCell ⟨cb, 0, none⟩ vb).cell? ⟨ga, 1, none⟩ = some (.pointer (some ⟨b2, 0, none⟩))) := fun va vb => ⟨(cell_set_far _ cb 0 ga 0 vb (by omega)).trans (hs1.out va).1, (cell_set_far _ cb 0 ga 1 vb (by omega)).trans (hs1.out va).2⟩
  go_region_held3 (fun W => W.cell? ⟨ga, 0, none⟩ = some (.pointer (some ⟨b1, 0, none⟩)) ∧ W.cell? ⟨ga, 1, none⟩ = some (.pointer (some ⟨b2, 0, none⟩))) (first | exact ⟨k0, k1⟩ | exact hs1.out _ | exact hs2.out _ _) (first | (go_at_call_of 220 (Value.pointer (some ⟨b1, 0, none⟩)); refine (H1.out _ hb1.drew).mono ?_; rintro e w1 ⟨rfl, rfl⟩) | (go_at_call_of 220 (Value.pointer (some ⟨b2, 0, none⟩)); refine (H2.out _ hb1.drew).mono ?_; rintro e w1 ⟨rfl, rfl⟩) | (go_at_call_of 104 (Value.string E); refine (HX.out _).mono ?_; rintro e w1 ⟨rfl, rfl⟩) | (go_at_call_of 104 (Value.string F); refine (HY.out _).mono ?_; rintro e w1 ⟨rfl, rfl⟩))
  have hU : Upd (fun k => k = ca ∨ k = cb) w ((wb.setCell ⟨ca, 0, none⟩ (.string X)).setCell ⟨cb, 0, none⟩ (.string Y)).drew := (((Upd.of_below hb1).setCell ca 0 _ (.inl rfl)).setCell cb 0 _ (.inr rfl)).drew
  have hF : AB ca cb X Y ((wb.setCell ⟨ca, 0, none⟩ (.string X)).setCell ⟨cb, 0, none⟩ (.string Y)).drew := by
    refine ⟨?_, ?_, hcc⟩
    · show ((wb.setCell ⟨ca, 0, none⟩ (.string X)).setCell ⟨cb, 0, none⟩ (.string Y)).heap[ca]? = _
      rw [Below.heap_setCell _ _ _ _ (by exact hcc)]
      exact heap_setCell_same wb ca 0 _ 9 _ hA1.ha
    · show ((wb.setCell ⟨ca, 0, none⟩ (.string X)).setCell ⟨cb, 0, none⟩ (.string Y)).heap[cb]? = _
      refine heap_setCell_same _ cb 0 #[.string sb] 9 _ ?_
      rw [Below.heap_setCell _ _ _ _ (by exact hcc.symm)]
      exact hA1.hb
  clear hs1 hs2 k0 k1 ka kb fa fb nA1 hA1 hb1
  generalize ((wb.setCell ⟨ca, 0, none⟩ (.string X)).setCell ⟨cb, 0, none⟩ (.string Y)).drew = w5 at hU hF ⊢
  have qa := Lib.cell_of_heap hF.ha 0
  go_wp2_with fail
  go_ret
  exact ⟨rfl, hF, hU⟩
end Go.Proofs.YtibjhkpgaaapaaaGreatDoor
