import Derived.Test.YtfmpjlpakldheaaGreatDoorZcbc
namespace Go.Proofs.YtfmpjlpakldheaaGreatDoor
open Go.RowKit Go.Proofs.Sha

/-- The two texts that a walk looks for, in captured variables. -/
structure AB (ca cb : Nat) (sa sb : ByteArray) (w : World) : Prop where
  ha : w.heap[ca]? = some (.cells #[.string sa] 9)
  hb : w.heap[cb]? = some (.cells #[.string sb] 9)
  ne : ca ≠ cb
theorem AB.below {ca cb : Nat} {sa sb : ByteArray} {w w' : World} (h : AB ca cb sa sb w) (hb : Below w.heap.size w w') : AB ca cb sa sb w' :=
  ⟨(hb.block ca (Array.getElem?_eq_some_iff.1 h.ha).1).trans h.ha, (hb.block cb (Array.getElem?_eq_some_iff.1 h.hb).1).trans h.hb, h.ne⟩
theorem txt_ne (e : ByteArray) : (txt e).toList.isEmpty = false := by
  rw [ByteArray.toList_eq]
  unfold txt
  rw [ByteArray.data_append]
  simp

set_option maxRecDepth 100000 in
set_option maxHeartbeats 1000000 in
theorem tw_same (b1 b2 : Nat) (x y : PairT) (l1 r1 l2 r2 : Option Addr) (E h1 h2 : ByteArray) (ca cb : Nat) (i : Int) (w : World) (t1 : TB b1 x l1 r1 (E, h1) w) (t2 : TB b2 y l2 r2 (E, h2) w) (hab : AB ca cb ⟨#[]⟩ ⟨#[]⟩ w) :
    Calls Tryz.prog 101 #[.agg #[.pointer (some ⟨b1, 0, none⟩), .pointer (some ⟨b2, 0, none⟩)], .int .i64 i, .pointer (some ⟨ca, 0, none⟩), .pointer (some ⟨cb, 0, none⟩)] w fun e w' => e = .returned (.bool true) ∧ Below w.heap.size w w' := by
  have hm1 : ∀ w' : World, (method 388 79 (.pointer (some ⟨b1, 0, none⟩)) "loop.example/s03048/impl.encoding").run Tryz.prog w' = .ok (203, .pointer (some ⟨b1, 0, none⟩)) w' := fun _ => by kernel_rfl
  have hm2 : ∀ w' : World, (method 388 79 (.pointer (some ⟨b2, 0, none⟩)) "loop.example/s03048/impl.encoding").run Tryz.prog w' = .ok (203, .pointer (some ⟨b2, 0, none⟩)) w' := fun _ => by kernel_rfl
  have H1 : Hid (∀ w', Below w.heap.size w w' → Calls Tryz.prog 203 #[.pointer (some ⟨b1, 0, none⟩)] w' fun e w'' => e = .returned (.string E) ∧ w'' = w') := fun w' h => encOf_any b1 x l1 r1 _ w' (t1.below h (Nat.le_refl _))
  have H2 : Hid (∀ w', Below w.heap.size w w' → Calls Tryz.prog 203 #[.pointer (some ⟨b2, 0, none⟩)] w' fun e w'' => e = .returned (.string E) ∧ w'' = w') := fun w' h => encOf_any b2 y l2 r2 _ w' (t2.below h (Nat.le_refl _))
  have hbA : Below w.heap.size w (w.alloc (.cells #[.pointer (some ⟨b1, 0, none⟩), .pointer (some ⟨b2, 0, none⟩)] 82)) := (Below.refl _ _).alloc (Nat.le_refl _) _
  have nA := heap_alloc_new w (.cells #[.pointer (some ⟨b1, 0, none⟩), .pointer (some ⟨b2, 0, none⟩)] 82)
  have hca := Lib.cell_of_heap (hab.below hbA).ha 0
  obtain ⟨ga, hga⟩ : ∃ ga, w.heap.size = ga := ⟨_, rfl⟩
  rw [hga] at nA
  clear t1 t2 hab
  go_enter Tryz.func101, Tryz.ntmps101
  go_upto_region 1 with fail
  try rw [hga]
  have k0 := Lib.cell_of_heap nA 0
  have k1 := Lib.cell_of_heap nA 1
  generalize w.alloc (.cells #[.pointer (some ⟨b1, 0, none⟩), .pointer (some ⟨b2, 0, none⟩)] 82) = wa at hbA nA hca k0 k1 ⊢
  go_region_held3 (fun W => W.cell? ⟨ga, 0, none⟩ = some (.pointer (some ⟨b1, 0, none⟩)) ∧ W.cell? ⟨ga, 1, none⟩ = some (.pointer (some ⟨b2, 0, none⟩))) (first | exact ⟨k0, k1⟩) (first | (go_at_call_of 203 (Value.pointer (some ⟨b1, 0, none⟩)); refine (H1.out _ hbA.drew).mono ?_; rintro e w1 ⟨rfl, rfl⟩) | (go_at_call_of 203 (Value.pointer (some ⟨b2, 0, none⟩)); refine (H2.out _ hbA.drew).mono ?_; rintro e w1 ⟨rfl, rfl⟩))
  go_wp2_with fail
  go_ret
  exact ⟨rfl, hbA.drew⟩

set_option maxRecDepth 100000 in
set_option maxHeartbeats 2000000 in
theorem tw_diff (b1 b2 : Nat) (x y : PairT) (l1 r1 l2 r2 : Option Addr) (E F h1 h2 sa sb : ByteArray) (hEF : E ≠ F) (hE : E.size ≤ 1048576) (hF : F.size ≤ 1048576) (ca cb : Nat) (i : Int) (w : World) (t1 : TB b1 x l1 r1 (E, h1) w) (t2 : TB b2 y l2 r2 (F, h2) w) (hab : AB ca cb sa sb w) :
    Calls Tryz.prog 101 #[.agg #[.pointer (some ⟨b1, 0, none⟩), .pointer (some ⟨b2, 0, none⟩)], .int .i64 i, .pointer (some ⟨ca, 0, none⟩), .pointer (some ⟨cb, 0, none⟩)] w fun e w' => e = .returned (.bool false) ∧ AB ca cb (txt E) (txt F) w' ∧ Upd (fun k => k = ca ∨ k = cb) w w' := by
  have hm1 : ∀ w' : World, (method 388 79 (.pointer (some ⟨b1, 0, none⟩)) "loop.example/s03048/impl.encoding").run Tryz.prog w' = .ok (203, .pointer (some ⟨b1, 0, none⟩)) w' := fun _ => by kernel_rfl
  have hm2 : ∀ w' : World, (method 388 79 (.pointer (some ⟨b2, 0, none⟩)) "loop.example/s03048/impl.encoding").run Tryz.prog w' = .ok (203, .pointer (some ⟨b2, 0, none⟩)) w' := fun _ => by kernel_rfl
  have H1 : Hid (∀ w', Below w.heap.size w w' → Calls Tryz.prog 203 #[.pointer (some ⟨b1, 0, none⟩)] w' fun e w'' => e = .returned (.string E) ∧ w'' = w') := fun w' h => encOf_any b1 x l1 r1 _ w' (t1.below h (Nat.le_refl _))
  have H2 : Hid (∀ w', Below w.heap.size w w' → Calls Tryz.prog 203 #[.pointer (some ⟨b2, 0, none⟩)] w' fun e w'' => e = .returned (.string F) ∧ w'' = w') := fun w' h => encOf_any b2 y l2 r2 _ w' (t2.below h (Nat.le_refl _))
  have HX : Hid (∀ w', Calls Tryz.prog 102 #[.string E] w' fun e w'' => e = .returned (.string (txt E)) ∧ w'' = w') := fun w' => textOf_any E w' hE
  have HY : Hid (∀ w', Calls Tryz.prog 102 #[.string F] w' fun e w'' => e = .returned (.string (txt F)) ∧ w'' = w') := fun w' => textOf_any F w' hF
  have hne : (E.toList == F.toList) = false := str_ne hEF
  have hte := txt_ne E
  have hbA : Below w.heap.size w (w.alloc (.cells #[.pointer (some ⟨b1, 0, none⟩), .pointer (some ⟨b2, 0, none⟩)] 82)) := (Below.refl _ _).alloc (Nat.le_refl _) _
  have nA := heap_alloc_new w (.cells #[.pointer (some ⟨b1, 0, none⟩), .pointer (some ⟨b2, 0, none⟩)] 82)
  have hA := (hab.below hbA)
  have hla := (Array.getElem?_eq_some_iff.1 hab.ha).1
  have hlb := (Array.getElem?_eq_some_iff.1 hab.hb).1
  obtain ⟨ga, hga⟩ : ∃ ga, w.heap.size = ga := ⟨_, rfl⟩
  rw [hga] at nA hla hlb
  clear t1 t2 hab hEF
  generalize txt E = X at HX hte ⊢
  generalize txt F = Y at HY ⊢
  go_enter Tryz.func101, Tryz.ntmps101
  go_upto_region 1 with fail
  try rw [hga]
  have k0 := Lib.cell_of_heap nA 0
  have k1 := Lib.cell_of_heap nA 1
  generalize w.alloc (.cells #[.pointer (some ⟨b1, 0, none⟩), .pointer (some ⟨b2, 0, none⟩)] 82) = wa at hbA nA hA k0 k1 ⊢
  go_region_held3 (fun W => W.cell? ⟨ga, 0, none⟩ = some (.pointer (some ⟨b1, 0, none⟩)) ∧ W.cell? ⟨ga, 1, none⟩ = some (.pointer (some ⟨b2, 0, none⟩))) (first | exact ⟨k0, k1⟩) (first | (go_at_call_of 203 (Value.pointer (some ⟨b1, 0, none⟩)); refine (H1.out _ hbA.drew).mono ?_; rintro e w1 ⟨rfl, rfl⟩) | (go_at_call_of 203 (Value.pointer (some ⟨b2, 0, none⟩)); refine (H2.out _ hbA.drew).mono ?_; rintro e w1 ⟨rfl, rfl⟩))
  go_upto_region 2 with fail
  have hb1 : Below w.heap.size w wa.drew := hbA.drew
  have hA1 : AB ca cb sa sb wa.drew := ⟨hA.ha, hA.hb, hA.ne⟩
  have nA1 : wa.drew.heap[ga]? = some (.cells #[.pointer (some ⟨b1, 0, none⟩), .pointer (some ⟨b2, 0, none⟩)] 82) := nA
  clear hbA hA nA k0 k1
  generalize wa.drew = wb at hb1 hA1 nA1 ⊢
  have k0 := Lib.cell_of_heap nA1 0
  have k1 := Lib.cell_of_heap nA1 1
  have ka := Lib.cell_of_heap hA1.ha 0
  have kb := Lib.cell_of_heap hA1.hb 0
  have fa : wb.frozen? ⟨ca, 0, none⟩ = false := by rw [World.frozen?, hA1.ha]; rfl
  have fb : wb.frozen? ⟨cb, 0, none⟩ = false := by rw [World.frozen?, hA1.hb]; rfl
  have hcc := hA1.ne
  have hs1 : Hid (∀ va, (wb.setCell ⟨ca, 0, none⟩ va).cell? ⟨ga, 0, none⟩ = some (.pointer (some ⟨b1, 0, none⟩)) ∧ (wb.setCell ⟨ca, 0, none⟩ va).cell? ⟨ga, 1, none⟩ = some (.pointer (some ⟨b2, 0, none⟩))) := fun va => ⟨(cell_set_far wb ca 0 ga 0 va (by omega)).trans k0, (cell_set_far wb ca 0 ga 1 va (by omega)).trans k1⟩
  have hs2 : Hid (∀ va vb, ((wb.setCell ⟨ca, 0, none⟩ va).setCell ⟨cb, 0, none⟩ vb).cell? ⟨ga, 0, none⟩ = some (.pointer (some ⟨b1, 0, none⟩)) ∧ ((wb.setCell ⟨ca, 0, none⟩ va).setCell ⟨cb, 0, none⟩ vb).cell? ⟨ga, 1, none⟩ = some (.pointer (some ⟨b2, 0, none⟩))) := fun va vb => ⟨(cell_set_far _ cb 0 ga 0 vb (by omega)).trans (hs1.out va).1, (cell_set_far _ cb 0 ga 1 vb (by omega)).trans (hs1.out va).2⟩
  go_region_held3 (fun W => W.cell? ⟨ga, 0, none⟩ = some (.pointer (some ⟨b1, 0, none⟩)) ∧ W.cell? ⟨ga, 1, none⟩ = some (.pointer (some ⟨b2, 0, none⟩))) (first | exact ⟨k0, k1⟩ | exact hs1.out _ | exact hs2.out _ _) (first | (go_at_call_of 203 (Value.pointer (some ⟨b1, 0, none⟩)); refine (H1.out _ hb1.drew).mono ?_; rintro e w1 ⟨rfl, rfl⟩) | (go_at_call_of 203 (Value.pointer (some ⟨b2, 0, none⟩)); refine (H2.out _ hb1.drew).mono ?_; rintro e w1 ⟨rfl, rfl⟩) | (go_at_call_of 102 (Value.string E); refine (HX.out _).mono ?_; rintro e w1 ⟨rfl, rfl⟩) | (go_at_call_of 102 (Value.string F); refine (HY.out _).mono ?_; rintro e w1 ⟨rfl, rfl⟩))
  have hU : Upd (fun k => k = ca ∨ k = cb) w ((wb.setCell ⟨ca, 0, none⟩ (.string X)).setCell ⟨cb, 0, none⟩ (.string Y)).drew := (((Upd.of_below hb1).setCell ca 0 _ (.inl rfl)).setCell cb 0 _ (.inr rfl)).drew
  have hF : AB ca cb X Y ((wb.setCell ⟨ca, 0, none⟩ (.string X)).setCell ⟨cb, 0, none⟩ (.string Y)).drew := by
    refine ⟨?_, ?_, hcc⟩
    · show ((wb.setCell ⟨ca, 0, none⟩ (.string X)).setCell ⟨cb, 0, none⟩ (.string Y)).heap[ca]? = _
      rw [Below.heap_setCell _ _ _ _ (by exact hcc)]
      exact heap_setCell_same wb ca 0 _ 9 _ hA1.ha
    · show ((wb.setCell ⟨ca, 0, none⟩ (.string X)).setCell ⟨cb, 0, none⟩ (.string Y)).heap[cb]? = _
      refine heap_setCell_same _ cb 0 #[.string sb] 9 _ ?_
      rw [Below.heap_setCell _ _ _ _ (by exact hcc.symm)]
      exact hA1.hb
  clear hs1 hs2 k0 k1 ka kb fa fb nA1 hA1 hb1
  generalize ((wb.setCell ⟨ca, 0, none⟩ (.string X)).setCell ⟨cb, 0, none⟩ (.string Y)).drew = w5 at hU hF ⊢
  have qa := Lib.cell_of_heap hF.ha 0
  go_wp2_with fail
  go_ret
  exact ⟨rfl, hF, hU⟩
end Go.Proofs.YtfmpjlpakldheaaGreatDoor
namespace Go.Proofs.YtfmpjlpakldheaaGreatDoor
open Go.RowKit Go.Proofs.Sha

theorem TB.ne9 {b k : Nat} {x : PairT} {l r : Option Addr} {e : ByteArray × ByteArray} {w : World} {cs : Array Value} (h : TB b x l r e w) (hk : w.heap[k]? = some (.cells cs 9)) : b ≠ k := fun q => by
  subst q
  unfold TB at h
  rw [hk] at h
  cases h
/-- A tree that does not lie in the two variables. -/
def TAc (ca cb : Nat) (f : Tr PairT → ByteArray × ByteArray) (t : Tr PairT) (p : Option Addr) (w : World) : Prop := ∃ bs, TAL 0 f t p bs w ∧ ∀ b ∈ bs, b ≠ ca ∧ b ≠ cb
abbrev Uc (ca cb : Nat) : World → World → Prop := Upd (fun k => k = ca ∨ k = cb)
theorem TAc.upd {ca cb : Nat} {f : Tr PairT → ByteArray × ByteArray} {t : Tr PairT} {p : Option Addr} {w w' : World} (h : TAc ca cb f t p w) (hu : Uc ca cb w w') : TAc ca cb f t p w' := by
  obtain ⟨bs, h1, h2⟩ := h
  exact ⟨bs, h1.upd hu (fun b hb q => by have := h2 b hb; omega), h2⟩
theorem TAc.ta {ca cb : Nat} {f : Tr PairT → ByteArray × ByteArray} {t : Tr PairT} {p : Option Addr} {w : World} (h : TAc ca cb f t p w) : TA 0 f t p w := by
  obtain ⟨bs, h1, h2⟩ := h
  exact h1.ta
theorem TAc.of {ca cb : Nat} {sa sb : ByteArray} {f : Tr PairT → ByteArray × ByteArray} {t : Tr PairT} {p : Option Addr} {w : World} (h : TA 0 f t p w) (hab : AB ca cb sa sb w) : TAc ca cb f t p w := by
  obtain ⟨bs, h1⟩ := h.list
  refine ⟨bs, h1, fun b hb => ?_⟩
  obtain ⟨x, _, l, r, e, hT⟩ := h1.mem b hb
  exact ⟨hT.ne9 hab.ha, hT.ne9 hab.hb⟩
def resT : Option (ByteArray × ByteArray) → ByteArray × ByteArray
  | none => (⟨#[]⟩, ⟨#[]⟩)
  | some q => (txt q.1, txt q.2)
/-- What is asked of two trees that are walked together. -/
structure Pre (m : Nat) (s t : Tr PairT) : Prop where
  root : rootT m s = rootT m t
  oks : ∀ x ∈ s.inord, Okp x
  okt : ∀ x ∈ t.inord, Okp x
  ns : s.size ≤ 100000
  nt : t.size ≤ 100000
theorem Okp.small {ps : List PairT} (h : ∀ x ∈ ps, Okp x) (hn : ps.length ≤ 1048576) : SmallP ps := by
  refine ⟨hn, fun j => ?_⟩
  by_cases hj : j < ps.length
  · rw [getD_lt ps j hj]
    obtain ⟨h1, h2⟩ := h _ (List.getElem_mem hj)
    unfold okKey at h1
    unfold okVal at h2
    rw [decide_eq_true_eq] at h1 h2
    omega
  · rw [pget_out ps j (by omega)]; exact ⟨Nat.zero_le _, Nat.zero_le _⟩
theorem Pre.ss {m : Nat} {s t : Tr PairT} (h : Pre m s t) : SmallP s.inord := Okp.small h.oks (by rw [Tr.inord_len]; have := h.ns; omega)
theorem Pre.st {m : Nat} {s t : Tr PairT} (h : Pre m s t) : SmallP t.inord := Okp.small h.okt (by rw [Tr.inord_len]; have := h.nt; omega)
/-- What the walk of two trees does. -/
def WBc (m ca cb : Nat) (s t : Tr PairT) (w : World) (e : Ending) (w' : World) : Prop := e = .returned (.bool (twinT m s t).isNone) ∧ AB ca cb (resT (twinT m s t)).1 (resT (twinT m s t)).2 w' ∧ Uc ca cb w w'
def wbArgs (ca cb : Nat) (p q : Option Addr) : Array Value := #[.agg #[.pointer p, .pointer q], .func (.func 58) #[] #[], .func (.func 101) #[] #[.pointer (some ⟨ca, 0, none⟩), .pointer (some ⟨cb, 0, none⟩)]]

theorem wb_same (m ca cb : Nat) (s t : Tr PairT) (p q : Option Addr) (w : World) (hs : TAc ca cb (hf m) s p w) (ht : TAc ca cb (hf m) t q w) (hp : Pre m s t) (hab : AB ca cb ⟨#[]⟩ ⟨#[]⟩ w) (he : s.inord = t.inord) : Calls Tryz.prog 100 (wbArgs ca cb p q) w (WBc m ca cb s t w) := by
  have hbA : Below w.heap.size w (w.alloc (.cells #[.pointer p, .pointer q] 82)) := (Below.refl _ _).alloc (Nat.le_refl _) _
  have HD := differ_any (hf m) s t p q _ (hs.ta.below hbA (Nat.le_refl _)) (ht.ta.below hbA (Nat.le_refl _)) hp.ns hp.nt hp.ss hp.st
  rw [decide_eq_true he] at HD
  have hAB : Hid (AB ca cb ⟨#[]⟩ ⟨#[]⟩ w) := hab
  unfold WBc
  rw [twinT_same m s t he]
  unfold wbArgs
  clear hs ht hp hab he
  go_enter Tryz.func100, Tryz.ntmps100
  go_wp2_with (go_at_call 58; refine HD.mono ?_; rintro e w1 ⟨rfl, hb1⟩)
  go_ret
  have hb2 : Below w.heap.size w w1 := hbA.trans (hb1.mono hbA.size)
  exact ⟨rfl, hAB.out.below hb2, Upd.of_below hb2⟩

set_option maxRecDepth 100000 in
set_option maxHeartbeats 1000000 in
theorem wb_enc (m ca cb : Nat) (_h1 : 1 ≤ m) (_h2 : m ≤ 32) (l r l2 r2 : Tr PairT) (x y : PairT) (p q : Option Addr) (w : World) (hs : TAc ca cb (hf m) (.node l x r) p w) (ht : TAc ca cb (hf m) (.node l2 y r2) q w) (hp : Pre m (.node l x r) (.node l2 y r2)) (hab : AB ca cb ⟨#[]⟩ ⟨#[]⟩ w) (he : (Tr.node l x r).inord ≠ (Tr.node l2 y r2).inord)
    (hne : encT m (.node l x r) ≠ encT m (.node l2 y r2)) : Calls Tryz.prog 100 (wbArgs ca cb p q) w (WBc m ca cb (.node l x r) (.node l2 y r2) w) := by
  have hbA : Below w.heap.size w (w.alloc (.cells #[.pointer p, .pointer q] 82)) := (Below.refl _ _).alloc (Nat.le_refl _) _
  have HD := differ_any (hf m) _ _ p q _ (hs.ta.below hbA (Nat.le_refl _)) (ht.ta.below hbA (Nat.le_refl _)) hp.ns hp.nt hp.ss hp.st
  rw [decide_eq_false he] at HD
  have hsz : ∀ (u : Tr PairT) (z : PairT) (v : Tr PairT), (encT m (.node u z v)).size ≤ 1048576 := fun u z v => by
    have := (encS_size z.1 z.2 (rootT m u) (rootT m v) m).1
    show (encS z.1 z.2 (rootT m u) (rootT m v) m).size ≤ 1048576
    omega
  obtain ⟨b1, pl1, pr1, rfl, _, t1, _, _⟩ := hs.ta
  obtain ⟨b2, pl2, pr2, rfl, _, t2, _, _⟩ := ht.ta
  have HX : Hid (∀ w', Below w.heap.size w w' → Calls Tryz.prog 101 #[.agg #[.pointer (some ⟨b1, 0, none⟩), .pointer (some ⟨b2, 0, none⟩)], .int .i64 0, .pointer (some ⟨ca, 0, none⟩), .pointer (some ⟨cb, 0, none⟩)] w' fun e w'' => e = .returned (.bool false) ∧ AB ca cb (txt (encT m (.node l x r))) (txt (encT m (.node l2 y r2))) w'' ∧ Uc ca cb w' w'') := fun w' hb => tw_diff b1 b2 x y pl1 pr1 pl2 pr2 _ _ _ _ _ _ hne (hsz _ _ _) (hsz _ _ _) ca cb 0 w' (t1.below hb (Nat.le_refl _)) (t2.below hb (Nat.le_refl _)) (hab.below hb)
  have htw : twinT m (.node l x r) (.node l2 y r2) = some (encT m (.node l x r), encT m (.node l2 y r2)) := by rw [twinT, if_neg he, if_pos hne]
  unfold WBc
  rw [htw]
  unfold wbArgs
  simp only [resT, Option.isNone_some]
  have nA := heap_alloc_new w (.cells #[.pointer (some ⟨b1, 0, none⟩), .pointer (some ⟨b2, 0, none⟩)] 82)
  obtain ⟨ga, hga⟩ : ∃ ga, w.heap.size = ga := ⟨_, rfl⟩
  rw [hga] at nA
  have hlt : ga < (w.alloc (.cells #[.pointer (some ⟨b1, 0, none⟩), .pointer (some ⟨b2, 0, none⟩)] 82)).heap.size := by simp; omega
  clear htw hs ht hp hab he hne hsz t1 t2
  generalize encT m (.node l x r) = E1 at HX ⊢
  generalize encT m (.node l2 y r2) = E2 at HX ⊢
  go_enter Tryz.func100, Tryz.ntmps100
  try rw [hga]
  go_wp2_with (first | (go_at_call 58; refine HD.mono ?_; rintro e w1 ⟨rfl, hb1⟩; have n1 := (hb1.block ga hlt).trans nA; have k0 := Lib.cell_of_heap n1 0; have k1 := Lib.cell_of_heap n1 1; have hb2 : Below w.heap.size w w1 := hbA.trans (hb1.mono hbA.size)) | (go_at_call 101; refine (HX.out _ hb2).mono ?_; rintro e w3 ⟨rfl, hA3, hu3⟩))
  go_ret
  exact ⟨rfl, hA3, (Upd.of_below hb2).trans hu3⟩
end Go.Proofs.YtfmpjlpakldheaaGreatDoor
