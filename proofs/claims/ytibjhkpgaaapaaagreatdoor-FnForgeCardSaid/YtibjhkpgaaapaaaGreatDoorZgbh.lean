import Derived.Test.YtibjhkpgaaapaaaGreatDoorZgbg
set_option maxRecDepth 100000
set_option maxHeartbeats 4000000
namespace Go.Proofs.YtibjhkpgaaapaaaGreatDoor
open Go.RowKit Go.Proofs.Sha

def encF (wd : Nat) (k v : ByteArray) (l r : PT) : ByteArray := encS k v (hashP wd l) (hashP wd r) wd
/-- The first two encodings that differ. -/
def twinP (wd : Nat) : PT → PT → Option (ByteArray × ByteArray)
  | .f k v l r, .f k2 v2 l2 r2 => if encF wd k v l r ≠ encF wd k2 v2 l2 r2 then some (encF wd k v l r, encF wd k2 v2 l2 r2) else match twinP wd l l2 with | some q => some q | none => twinP wd r r2
  | _, _ => none
theorem twinP_no (wd : Nat) (s t : PT) (h : (isF s && isF t) = false) : twinP wd s t = none := by
  cases s <;> cases t <;> first | rfl | cases h
theorem encF_size (wd : Nat) (k v : ByteArray) (l r : PT) : (encF wd k v l r).size ≤ 1048576 := by
  have := (encS_size k v (hashP wd l) (hashP wd r) wd).1
  unfold encF
  omega
def WBp (m ca cb : Nat) (s t : PT) (w : World) (e : Ending) (w' : World) : Prop := e = .returned (.bool (twinP m s t).isNone) ∧ AB ca cb (resT (twinP m s t)).1 (resT (twinP m s t)).2 w' ∧ Uc ca cb w w'
def wbArgs5 (ca cb : Nat) (p q : Option Addr) : Array Value := #[.agg #[.pointer p, .pointer q], .func (.func 46) #[] #[], .func (.func 103) #[] #[.pointer (some ⟨ca, 0, none⟩), .pointer (some ⟨cb, 0, none⟩)]]
theorem wb_same5 (m ca cb n0 : Nat) (s t : PT) (p q : Option Addr) (w : World) (hs : PB m n0 s p w) (ht : PB m n0 t q w) (hab : AB ca cb ⟨#[]⟩ ⟨#[]⟩ w) (he : (isF s && isF t) = false) : Calls Tryz.prog 102 (wbArgs5 ca cb p q) w (WBp m ca cb s t w) := by
  have hbA : Below w.heap.size w (w.alloc (.cells #[.pointer p, .pointer q] 87)) := (Below.refl _ _).alloc (Nat.le_refl _) _
  have HD := areFull_any m n0 s t p q _ (hs.below hbA) (ht.below hbA)
  rw [he] at HD
  have hAB : Hid (AB ca cb ⟨#[]⟩ ⟨#[]⟩ w) := hab
  unfold WBp
  rw [twinP_no m s t he]
  unfold wbArgs5
  clear hs ht hab he
  go_enter Tryz.func102, Tryz.ntmps102
  go_wp2_with (go_at_call 46; refine HD.mono ?_; rintro e w1 ⟨rfl, hb1⟩)
  go_ret
  have hb2 : Below w.heap.size w w1 := hbA.trans (hb1.mono hbA.size)
  exact ⟨rfl, hAB.out.below hb2, Upd.of_below hb2⟩
theorem wb_enc5 (m ca cb n0 : Nat) (k v k2 v2 : ByteArray) (l r l2 r2 : PT) (p q : Option Addr) (w : World) (hs : PB m n0 (.f k v l r) p w) (ht : PB m n0 (.f k2 v2 l2 r2) q w) (hab : AB ca cb ⟨#[]⟩ ⟨#[]⟩ w)
    (hne : encF m k v l r ≠ encF m k2 v2 l2 r2) : Calls Tryz.prog 102 (wbArgs5 ca cb p q) w (WBp m ca cb (.f k v l r) (.f k2 v2 l2 r2) w) := by
  have hbA : Below w.heap.size w (w.alloc (.cells #[.pointer p, .pointer q] 87)) := (Below.refl _ _).alloc (Nat.le_refl _) _
  have HD := areFull_any m n0 _ _ p q _ (hs.below hbA) (ht.below hbA)
  rw [show (isF (.f k v l r) && isF (.f k2 v2 l2 r2)) = true from rfl] at HD
  obtain ⟨b1, lv1, rv1, rfl, _, t1', _, _⟩ := hs
  obtain ⟨b2, lv2, rv2, rfl, _, t2', _, _⟩ := ht
  have t1 : QB b1 lv1 rv1 (encF m k v l r) w := ⟨_, _, t1'⟩
  have t2 : QB b2 lv2 rv2 (encF m k2 v2 l2 r2) w := ⟨_, _, t2'⟩
  have HX : Hid (∀ w', Below w.heap.size w w' → Calls Tryz.prog 103 #[.agg #[.pointer (some ⟨b1, 0, none⟩), .pointer (some ⟨b2, 0, none⟩)], .int .i64 0, .pointer (some ⟨ca, 0, none⟩), .pointer (some ⟨cb, 0, none⟩)] w' fun e w'' => e = .returned (.bool false) ∧ AB ca cb (txt (encF m k v l r)) (txt (encF m k2 v2 l2 r2)) w'' ∧ Uc ca cb w' w'') := fun w' hb => tw_diff5 b1 b2 lv1 rv1 lv2 rv2 _ _ _ _ hne (encF_size _ _ _ _ _) (encF_size _ _ _ _ _) ca cb 0 w' (t1.below hb) (t2.below hb) (hab.below hb)
  have htw : twinP m (.f k v l r) (.f k2 v2 l2 r2) = some (encF m k v l r, encF m k2 v2 l2 r2) := by rw [twinP, if_pos hne]
  unfold WBp
  rw [htw]
  unfold wbArgs5
  simp only [resT, Option.isNone_some]
  have nA := heap_alloc_new w (.cells #[.pointer (some ⟨b1, 0, none⟩), .pointer (some ⟨b2, 0, none⟩)] 87)
  obtain ⟨ga, hga⟩ : ∃ ga, w.heap.size = ga := ⟨_, rfl⟩
  rw [hga] at nA
  have hlt : ga < (w.alloc (.cells #[.pointer (some ⟨b1, 0, none⟩), .pointer (some ⟨b2, 0, none⟩)] 87)).heap.size := by simp; omega
  clear htw hab hne t1 t2 t1' t2'
  generalize encF m k v l r = E1 at HX ⊢
  generalize encF m k2 v2 l2 r2 = E2 at HX ⊢
  go_enter Tryz.func102, Tryz.ntmps102
  try rw [hga]
  go_wp2_with (first | (go_at_call 46; refine HD.mono ?_; rintro e w1 ⟨rfl, hb1⟩; have n1 := (hb1.block ga hlt).trans nA; have k0 := Lib.cell_of_heap n1 0; have k1 := Lib.cell_of_heap n1 1; have hb2 : Below w.heap.size w w1 := hbA.trans (hb1.mono hbA.size)) | (go_at_call 103; refine (HX.out _ hb2).mono ?_; rintro e w3 ⟨rfl, hA3, hu3⟩))
  go_ret
  exact ⟨rfl, hA3, (Upd.of_below hb2).trans hu3⟩
theorem wb_go5 (m ca cb n0 : Nat) (k v k2 v2 : ByteArray) (l r l2 r2 : PT) (p q : Option Addr) (w : World) (hs : PB m n0 (.f k v l r) p w) (ht : PB m n0 (.f k2 v2 l2 r2) q w) (hab : AB ca cb ⟨#[]⟩ ⟨#[]⟩ w)
    (heq : encF m k v l r = encF m k2 v2 l2 r2)
    (ihl : ∀ (p q : Option Addr) (w : World), PB m n0 l p w → PB m n0 l2 q w → AB ca cb ⟨#[]⟩ ⟨#[]⟩ w → Calls Tryz.prog 102 (wbArgs5 ca cb p q) w (WBp m ca cb l l2 w))
    (ihr : ∀ (p q : Option Addr) (w : World), PB m n0 r p w → PB m n0 r2 q w → AB ca cb ⟨#[]⟩ ⟨#[]⟩ w → Calls Tryz.prog 102 (wbArgs5 ca cb p q) w (WBp m ca cb r r2 w)) :
    Calls Tryz.prog 102 (wbArgs5 ca cb p q) w (WBp m ca cb (.f k v l r) (.f k2 v2 l2 r2) w) := by
  have hbA : Below w.heap.size w (w.alloc (.cells #[.pointer p, .pointer q] 87)) := (Below.refl _ _).alloc (Nat.le_refl _) _
  have HD := areFull_any m n0 _ _ p q _ (hs.below hbA) (ht.below hbA)
  rw [show (isF (.f k v l r) && isF (.f k2 v2 l2 r2)) = true from rfl] at HD
  obtain ⟨b1, lv1, rv1, rfl, _, t1', cl1, cr1⟩ := hs
  obtain ⟨b2, lv2, rv2, rfl, _, t2', cl2, cr2⟩ := ht
  have t1 : QB b1 lv1 rv1 (encF m k v l r) w := ⟨_, _, t1'⟩
  have t2 : QB b2 lv2 rv2 (encF m k2 v2 l2 r2) w := ⟨_, _, t2'⟩
  rw [heq] at t1
  obtain ⟨pl1, hpl1⟩ : ∃ x, ptrV lv1 = x := ⟨_, rfl⟩
  obtain ⟨pl2, hpl2⟩ : ∃ x, ptrV lv2 = x := ⟨_, rfl⟩
  obtain ⟨pr1, hpr1⟩ : ∃ x, ptrV rv1 = x := ⟨_, rfl⟩
  obtain ⟨pr2, hpr2⟩ : ∃ x, ptrV rv2 = x := ⟨_, rfl⟩
  have HX : Hid (∀ i w', Uc ca cb w w' → AB ca cb ⟨#[]⟩ ⟨#[]⟩ w' → Calls Tryz.prog 103 #[.agg #[.pointer (some ⟨b1, 0, none⟩), .pointer (some ⟨b2, 0, none⟩)], .int .i64 i, .pointer (some ⟨ca, 0, none⟩), .pointer (some ⟨cb, 0, none⟩)] w' fun e w'' => e = .returned (.bool true) ∧ Below w'.heap.size w' w'') := fun i w' hu ha => tw_same5 b1 b2 lv1 rv1 lv2 rv2 _ ca cb i w' (t1.upd hab hu) (t2.upd hab hu) ha
  have HS : Hid (∀ w', Below w.heap.size w w' → Calls Tryz.prog 225 #[.agg #[.pointer (some ⟨b1, 0, none⟩), .pointer (some ⟨b2, 0, none⟩)]] w' fun e w'' => e = .returned (.tuple #[.agg #[.pointer pl1, .pointer pl2], .agg #[.pointer pr1, .pointer pr2]]) ∧ Below w'.heap.size w' w'') := fun w' hb => bsubs5_any b1 b2 m n0 l r l2 r2 lv1 rv1 lv2 rv2 _ _ w' (t1.below hb) (t2.below hb) (cl1.below hb) (cr1.below hb) (cl2.below hb) (cr2.below hb) pl1 pr1 pl2 pr2 hpl1 hpr1 hpl2 hpr2
  have HL : Hid (∀ w', Uc ca cb w w' → AB ca cb ⟨#[]⟩ ⟨#[]⟩ w' → Calls Tryz.prog 102 (wbArgs5 ca cb pl1 pl2) w' (WBp m ca cb l l2 w')) := fun w' hu ha => ihl pl1 pl2 w' (by rw [← hpl1]; exact (cl1.upd hab hu).pb) (by rw [← hpl2]; exact (cl2.upd hab hu).pb) ha
  have HR : Hid (∀ w', Uc ca cb w w' → AB ca cb ⟨#[]⟩ ⟨#[]⟩ w' → Calls Tryz.prog 102 (wbArgs5 ca cb pr1 pr2) w' (WBp m ca cb r r2 w')) := fun w' hu ha => ihr pr1 pr2 w' (by rw [← hpr1]; exact (cr1.upd hab hu).pb) (by rw [← hpr2]; exact (cr2.upd hab hu).pb) ha
  have htw : twinP m (.f k v l r) (.f k2 v2 l2 r2) = match twinP m l l2 with | some q => some q | none => twinP m r r2 := by
    rw [twinP, if_neg (by simp [heq])]
  unfold WBp at HL HR ⊢
  rw [htw]
  unfold wbArgs5 at HL HR ⊢
  have hm : ∀ w' : World, (method 427 87 (.agg #[.pointer (some ⟨b1, 0, none⟩), .pointer (some ⟨b2, 0, none⟩)]) "loop.example/s03048/impl.subtrees").run Tryz.prog w' = .ok (225, .agg #[.pointer (some ⟨b1, 0, none⟩), .pointer (some ⟨b2, 0, none⟩)]) w' := fun _ => by kernel_rfl
  have nA := heap_alloc_new w (.cells #[.pointer (some ⟨b1, 0, none⟩), .pointer (some ⟨b2, 0, none⟩)] 87)
  obtain ⟨ga, hga⟩ : ∃ ga, w.heap.size = ga := ⟨_, rfl⟩
  rw [hga] at nA
  have hlt : ga < (w.alloc (.cells #[.pointer (some ⟨b1, 0, none⟩), .pointer (some ⟨b2, 0, none⟩)] 87)).heap.size := by simp; omega
  have hla := (Array.getElem?_eq_some_iff.1 hab.ha).1
  have hlb := (Array.getElem?_eq_some_iff.1 hab.hb).1
  rw [hga] at hla hlb
  clear htw heq cl1 cr1 cl2 cr2 t1 t2 t1' t2' ihl ihr hpl1 hpl2 hpr1 hpr2
  generalize twinP m l l2 = r1 at HL ⊢
  generalize twinP m r r2 = r2' at HR ⊢
  have hAB : Hid (AB ca cb ⟨#[]⟩ ⟨#[]⟩ w) := hab
  clear hab
  cases r1 with
  | some q1 =>
    simp only [Option.isNone_some] at HL ⊢
    go_enter Tryz.func102, Tryz.ntmps102
    go_upto_region 6 with (first | (go_at_call 46; refine HD.mono ?_; rintro e w1 ⟨rfl, hb1⟩; have n1 := (hb1.block ga hlt).trans nA; have k0 := Lib.cell_of_heap n1 0; have k1 := Lib.cell_of_heap n1 1; have hb2 : Below w.heap.size w w1 := hbA.trans (hb1.mono hbA.size)) | (go_at_call 103; refine (HX.out _ _ (Upd.of_below hb2) (hAB.out.below hb2)).mono ?_; rintro e w2 ⟨rfl, hb3'⟩; have n2 := (hb3'.block ga (Array.getElem?_eq_some_iff.1 n1).1).trans n1; have j0 := Lib.cell_of_heap n2 0; have j1 := Lib.cell_of_heap n2 1; have hb3 : Below w.heap.size w w2 := hb2.trans (hb3'.mono hb2.size)) | (go_at_call 225; refine (HS.out _ hb3).mono ?_; rintro e w3 ⟨rfl, hb4'⟩; have n3 := (hb4'.block ga (Array.getElem?_eq_some_iff.1 n2).1).trans n2; have hb4 : Below w.heap.size w w3 := hb3.trans (hb4'.mono hb3.size)))
    have hb5 : Below w.heap.size w ((w3.alloc (.cells #[.pointer pl1, .pointer pl2] 87)).alloc (.cells #[.pointer pr1, .pointer pr2] 87)) := (hb4.alloc hb4.size _).alloc (by simp; have := hb4.size; omega) _
    have hga3 := (Array.getElem?_eq_some_iff.1 n3).1
    have m0 : ((w3.alloc (.cells #[.pointer pl1, .pointer pl2] 87)).alloc (.cells #[.pointer pr1, .pointer pr2] 87)).heap[ga]? = some (.cells #[.pointer (some ⟨b1, 0, none⟩), .pointer (some ⟨b2, 0, none⟩)] 87) := by
      rw [Below.heap_alloc _ _ _ (by simp; omega), Below.heap_alloc _ _ _ hga3]; exact n3
    have m7 : ((w3.alloc (.cells #[.pointer pl1, .pointer pl2] 87)).alloc (.cells #[.pointer pr1, .pointer pr2] 87)).heap[w3.heap.size]? = some (.cells #[.pointer pl1, .pointer pl2] 87) := by
      rw [Below.heap_alloc _ _ _ (by simp)]; exact heap_alloc_new w3 _
    have m8 : ((w3.alloc (.cells #[.pointer pl1, .pointer pl2] 87)).alloc (.cells #[.pointer pr1, .pointer pr2] 87)).heap[w3.heap.size + 1]? = some (.cells #[.pointer pr1, .pointer pr2] 87) := by
      have := heap_alloc_new (w3.alloc (.cells #[.pointer pl1, .pointer pl2] 87)) (.cells #[.pointer pr1, .pointer pr2] 87)
      simpa using this
    have hsz4 : w.heap.size ≤ w3.heap.size := hb4.size
    generalize (w3.alloc (.cells #[.pointer pl1, .pointer pl2] 87)).alloc (.cells #[.pointer pr1, .pointer pr2] 87) = w4 at hb5 m0 m7 m8 ⊢
    obtain ⟨g7, hg7⟩ : ∃ g7, w3.heap.size = g7 := ⟨_, rfl⟩
    rw [hg7] at m7 m8 hsz4 hga3 ⊢
    have q0 := Lib.cell_of_heap m7 0
    have q1' := Lib.cell_of_heap m7 1
    have hA4 := hAB.out.below hb5
    clear n1 n2 n3 k0 k1 j0 j1 hb1 hb2 hb3 hb3' hb4 hb4' hg7
    go_wp2_with (first | (go_at_call 102; refine (HL.out _ (Upd.of_below hb5) hA4).mono ?_; rintro e w5 ⟨rfl, hA5, hu5⟩))
    go_ret
    exact ⟨rfl, hA5, (Upd.of_below hb5).trans hu5⟩
  | none =>
    simp only [Option.isNone_none] at HL
    have HL' : Hid (∀ w', Uc ca cb w w' → AB ca cb ⟨#[]⟩ ⟨#[]⟩ w' → Calls Tryz.prog 102 #[.agg #[.pointer pl1, .pointer pl2], .func (.func 46) #[] #[], .func (.func 103) #[] #[.pointer (some ⟨ca, 0, none⟩), .pointer (some ⟨cb, 0, none⟩)]] w' fun e w'' => e = .returned (.bool true) ∧ AB ca cb ⟨#[]⟩ ⟨#[]⟩ w'' ∧ Uc ca cb w' w'') := HL.out
    clear HL
    cases r2' with
    | some q2 =>
      simp only [Option.isNone_some] at HR ⊢
      go_enter Tryz.func102, Tryz.ntmps102
      go_upto_region 6 with (first | (go_at_call 46; refine HD.mono ?_; rintro e w1 ⟨rfl, hb1⟩; have n1 := (hb1.block ga hlt).trans nA; have k0 := Lib.cell_of_heap n1 0; have k1 := Lib.cell_of_heap n1 1; have hb2 : Below w.heap.size w w1 := hbA.trans (hb1.mono hbA.size)) | (go_at_call 103; refine (HX.out _ _ (Upd.of_below hb2) (hAB.out.below hb2)).mono ?_; rintro e w2 ⟨rfl, hb3'⟩; have n2 := (hb3'.block ga (Array.getElem?_eq_some_iff.1 n1).1).trans n1; have j0 := Lib.cell_of_heap n2 0; have j1 := Lib.cell_of_heap n2 1; have hb3 : Below w.heap.size w w2 := hb2.trans (hb3'.mono hb2.size)) | (go_at_call 225; refine (HS.out _ hb3).mono ?_; rintro e w3 ⟨rfl, hb4'⟩; have n3 := (hb4'.block ga (Array.getElem?_eq_some_iff.1 n2).1).trans n2; have hb4 : Below w.heap.size w w3 := hb3.trans (hb4'.mono hb3.size)))
      have hb5 : Below w.heap.size w ((w3.alloc (.cells #[.pointer pl1, .pointer pl2] 87)).alloc (.cells #[.pointer pr1, .pointer pr2] 87)) := (hb4.alloc hb4.size _).alloc (by simp; have := hb4.size; omega) _
      have hga3 := (Array.getElem?_eq_some_iff.1 n3).1
      have m0 : ((w3.alloc (.cells #[.pointer pl1, .pointer pl2] 87)).alloc (.cells #[.pointer pr1, .pointer pr2] 87)).heap[ga]? = some (.cells #[.pointer (some ⟨b1, 0, none⟩), .pointer (some ⟨b2, 0, none⟩)] 87) := by
        rw [Below.heap_alloc _ _ _ (by simp; omega), Below.heap_alloc _ _ _ hga3]; exact n3
      have m7 : ((w3.alloc (.cells #[.pointer pl1, .pointer pl2] 87)).alloc (.cells #[.pointer pr1, .pointer pr2] 87)).heap[w3.heap.size]? = some (.cells #[.pointer pl1, .pointer pl2] 87) := by
        rw [Below.heap_alloc _ _ _ (by simp)]; exact heap_alloc_new w3 _
      have m8 : ((w3.alloc (.cells #[.pointer pl1, .pointer pl2] 87)).alloc (.cells #[.pointer pr1, .pointer pr2] 87)).heap[w3.heap.size + 1]? = some (.cells #[.pointer pr1, .pointer pr2] 87) := by
        have := heap_alloc_new (w3.alloc (.cells #[.pointer pl1, .pointer pl2] 87)) (.cells #[.pointer pr1, .pointer pr2] 87)
        simpa using this
      have hsz4 : w.heap.size ≤ w3.heap.size := hb4.size
      generalize (w3.alloc (.cells #[.pointer pl1, .pointer pl2] 87)).alloc (.cells #[.pointer pr1, .pointer pr2] 87) = w4 at hb5 m0 m7 m8 ⊢
      obtain ⟨g7, hg7⟩ : ∃ g7, w3.heap.size = g7 := ⟨_, rfl⟩
      rw [hg7] at m7 m8 hsz4 hga3 ⊢
      have q0 := Lib.cell_of_heap m7 0
      have q1' := Lib.cell_of_heap m7 1
      have hA4 := hAB.out.below hb5
      clear n1 n2 n3 k0 k1 j0 j1 hb1 hb2 hb3 hb3' hb4 hb4' hg7
      go_wp2_with (first | (go_at_call_of 102 (Value.agg #[.pointer pl1, .pointer pl2]); refine (HL'.out _ (Upd.of_below hb5) hA4).mono ?_; rintro e w5 ⟨rfl, hA5, hu5⟩; have hu5w : Uc ca cb w w5 := (Upd.of_below hb5).trans hu5; have x0 := (hu5.block ga (Array.getElem?_eq_some_iff.1 m0).1 (fun q => by omega)).trans m0; have x8 := (hu5.block (g7 + 1) (Array.getElem?_eq_some_iff.1 m8).1 (fun q => by omega)).trans m8; have i0 := Lib.cell_of_heap x0 0; have i1 := Lib.cell_of_heap x0 1) | (go_at_call_of 103 (Value.int .i64 1); refine (HX.out _ _ hu5w hA5).mono ?_; rintro e w6 ⟨rfl, hb6⟩; have hA6 := hA5.below hb6; have hu6w : Uc ca cb w w6 := hu5w.trans (Upd.of_below hb6); have y8 := (hb6.block (g7 + 1) (Array.getElem?_eq_some_iff.1 x8).1).trans x8; have y0 := (hb6.block ga (Array.getElem?_eq_some_iff.1 x0).1).trans x0; have o0 := Lib.cell_of_heap y8 0; have o1 := Lib.cell_of_heap y8 1) | (go_at_call_of 102 (Value.agg #[.pointer pr1, .pointer pr2]); refine (HR.out _ hu6w hA6).mono ?_; rintro e w7 ⟨rfl, hA7, hu7⟩; have hu7w : Uc ca cb w w7 := hu6w.trans hu7; have u0 := (hu7.block ga (Array.getElem?_eq_some_iff.1 y0).1 (fun q => by omega)).trans y0; have v0 := Lib.cell_of_heap u0 0; have v1 := Lib.cell_of_heap u0 1))
      go_ret
      exact ⟨rfl, hA7, hu7w⟩
    | none =>
      simp only [Option.isNone_none] at HR ⊢
      go_enter Tryz.func102, Tryz.ntmps102
      go_upto_region 6 with (first | (go_at_call 46; refine HD.mono ?_; rintro e w1 ⟨rfl, hb1⟩; have n1 := (hb1.block ga hlt).trans nA; have k0 := Lib.cell_of_heap n1 0; have k1 := Lib.cell_of_heap n1 1; have hb2 : Below w.heap.size w w1 := hbA.trans (hb1.mono hbA.size)) | (go_at_call 103; refine (HX.out _ _ (Upd.of_below hb2) (hAB.out.below hb2)).mono ?_; rintro e w2 ⟨rfl, hb3'⟩; have n2 := (hb3'.block ga (Array.getElem?_eq_some_iff.1 n1).1).trans n1; have j0 := Lib.cell_of_heap n2 0; have j1 := Lib.cell_of_heap n2 1; have hb3 : Below w.heap.size w w2 := hb2.trans (hb3'.mono hb2.size)) | (go_at_call 225; refine (HS.out _ hb3).mono ?_; rintro e w3 ⟨rfl, hb4'⟩; have n3 := (hb4'.block ga (Array.getElem?_eq_some_iff.1 n2).1).trans n2; have hb4 : Below w.heap.size w w3 := hb3.trans (hb4'.mono hb3.size)))
      have hb5 : Below w.heap.size w ((w3.alloc (.cells #[.pointer pl1, .pointer pl2] 87)).alloc (.cells #[.pointer pr1, .pointer pr2] 87)) := (hb4.alloc hb4.size _).alloc (by simp; have := hb4.size; omega) _
      have hga3 := (Array.getElem?_eq_some_iff.1 n3).1
      have m0 : ((w3.alloc (.cells #[.pointer pl1, .pointer pl2] 87)).alloc (.cells #[.pointer pr1, .pointer pr2] 87)).heap[ga]? = some (.cells #[.pointer (some ⟨b1, 0, none⟩), .pointer (some ⟨b2, 0, none⟩)] 87) := by
        rw [Below.heap_alloc _ _ _ (by simp; omega), Below.heap_alloc _ _ _ hga3]; exact n3
      have m7 : ((w3.alloc (.cells #[.pointer pl1, .pointer pl2] 87)).alloc (.cells #[.pointer pr1, .pointer pr2] 87)).heap[w3.heap.size]? = some (.cells #[.pointer pl1, .pointer pl2] 87) := by
        rw [Below.heap_alloc _ _ _ (by simp)]; exact heap_alloc_new w3 _
      have m8 : ((w3.alloc (.cells #[.pointer pl1, .pointer pl2] 87)).alloc (.cells #[.pointer pr1, .pointer pr2] 87)).heap[w3.heap.size + 1]? = some (.cells #[.pointer pr1, .pointer pr2] 87) := by
        have := heap_alloc_new (w3.alloc (.cells #[.pointer pl1, .pointer pl2] 87)) (.cells #[.pointer pr1, .pointer pr2] 87)
        simpa using this
      have hsz4 : w.heap.size ≤ w3.heap.size := hb4.size
      generalize (w3.alloc (.cells #[.pointer pl1, .pointer pl2] 87)).alloc (.cells #[.pointer pr1, .pointer pr2] 87) = w4 at hb5 m0 m7 m8 ⊢
      obtain ⟨g7, hg7⟩ : ∃ g7, w3.heap.size = g7 := ⟨_, rfl⟩
      rw [hg7] at m7 m8 hsz4 hga3 ⊢
      have q0 := Lib.cell_of_heap m7 0
      have q1' := Lib.cell_of_heap m7 1
      have hA4 := hAB.out.below hb5
      clear n1 n2 n3 k0 k1 j0 j1 hb1 hb2 hb3 hb3' hb4 hb4' hg7
      go_wp2_with (first | (go_at_call_of 102 (Value.agg #[.pointer pl1, .pointer pl2]); refine (HL'.out _ (Upd.of_below hb5) hA4).mono ?_; rintro e w5 ⟨rfl, hA5, hu5⟩; have hu5w : Uc ca cb w w5 := (Upd.of_below hb5).trans hu5; have x0 := (hu5.block ga (Array.getElem?_eq_some_iff.1 m0).1 (fun q => by omega)).trans m0; have x8 := (hu5.block (g7 + 1) (Array.getElem?_eq_some_iff.1 m8).1 (fun q => by omega)).trans m8; have i0 := Lib.cell_of_heap x0 0; have i1 := Lib.cell_of_heap x0 1) | (go_at_call_of 103 (Value.int .i64 1); refine (HX.out _ _ hu5w hA5).mono ?_; rintro e w6 ⟨rfl, hb6⟩; have hA6 := hA5.below hb6; have hu6w : Uc ca cb w w6 := hu5w.trans (Upd.of_below hb6); have y8 := (hb6.block (g7 + 1) (Array.getElem?_eq_some_iff.1 x8).1).trans x8; have y0 := (hb6.block ga (Array.getElem?_eq_some_iff.1 x0).1).trans x0; have o0 := Lib.cell_of_heap y8 0; have o1 := Lib.cell_of_heap y8 1) | (go_at_call_of 102 (Value.agg #[.pointer pr1, .pointer pr2]); refine (HR.out _ hu6w hA6).mono ?_; rintro e w7 ⟨rfl, hA7, hu7⟩; have hu7w : Uc ca cb w w7 := hu6w.trans hu7; have u0 := (hu7.block ga (Array.getElem?_eq_some_iff.1 y0).1 (fun q => by omega)).trans y0; have v0 := Lib.cell_of_heap u0 0; have v1 := Lib.cell_of_heap u0 1) | (go_at_call_of 103 (Value.int .i64 2); refine (HX.out _ _ hu7w hA7).mono ?_; rintro e w8 ⟨rfl, hb8⟩))
      go_ret
      exact ⟨rfl, hA7.below hb8, hu7w.trans (Upd.of_below hb8)⟩
theorem walk_both5 (m ca cb n0 : Nat) : ∀ (s t : PT) (p q : Option Addr) (w : World), PB m n0 s p w → PB m n0 t q w → AB ca cb ⟨#[]⟩ ⟨#[]⟩ w → Calls Tryz.prog 102 (wbArgs5 ca cb p q) w (WBp m ca cb s t w) := by
  intro s
  induction s with
  | e => intro t p q w hs ht hab; exact wb_same5 m ca cb n0 _ _ p q w hs ht hab rfl
  | s h => intro t p q w hs ht hab; exact wb_same5 m ca cb n0 _ _ p q w hs ht hab rfl
  | f k v l r ihl ihr =>
    intro t p q w hs ht hab
    cases t with
    | e => exact wb_same5 m ca cb n0 _ _ p q w hs ht hab rfl
    | s h => exact wb_same5 m ca cb n0 _ _ p q w hs ht hab rfl
    | f k2 v2 l2 r2 =>
      by_cases hne : encF m k v l r = encF m k2 v2 l2 r2
      · exact wb_go5 m ca cb n0 k v k2 v2 l r l2 r2 p q w hs ht hab hne (ihl l2) (ihr r2)
      · exact wb_enc5 m ca cb n0 k v k2 v2 l r l2 r2 p q w hs ht hab hne
theorem twins5_any (m nz : Nat) (s t : PT) (p q : Option Addr) (w : World) (hs : PB m nz s p w) (ht : PB m nz t q w) :
    Calls Tryz.prog 44 #[.agg #[.pointer p, .pointer q], .func (.func 46) #[] #[]] w fun e w' => e = .returned (.tuple #[.string (resT (twinP m s t)).1, .string (resT (twinP m s t)).2, .bool (!(twinP m s t).isNone)]) ∧ Below w.heap.size w w' := by
  obtain ⟨W, hW⟩ : ∃ W, ((w.alloc (.cells #[.pointer p, .pointer q] 87)).alloc (.cells #[.string ⟨#[]⟩] 9)).alloc (.cells #[.string ⟨#[]⟩] 9) = W := ⟨_, rfl⟩
  have hbA : Below w.heap.size w W := by rw [← hW]; exact (((Below.refl _ _).alloc (Nat.le_refl _) _).alloc (by simp) _).alloc (by simp; omega) _
  have n0 : W.heap[w.heap.size]? = some (.cells #[.pointer p, .pointer q] 87) := by
    rw [← hW, Below.heap_alloc _ _ _ (by simp; omega), Below.heap_alloc _ _ _ (by simp)]; exact heap_alloc_new w _
  have n1 : W.heap[w.heap.size + 1]? = some (.cells #[.string ⟨#[]⟩] 9) := by
    have := heap_alloc_new (w.alloc (.cells #[.pointer p, .pointer q] 87)) (.cells #[.string ⟨#[]⟩] 9)
    rw [← hW, Below.heap_alloc _ _ _ (by simp)]; simpa using this
  have n2 : W.heap[w.heap.size + 1 + 1]? = some (.cells #[.string ⟨#[]⟩] 9) := by
    have := heap_alloc_new ((w.alloc (.cells #[.pointer p, .pointer q] 87)).alloc (.cells #[.string ⟨#[]⟩] 9)) (.cells #[.string ⟨#[]⟩] 9)
    rw [← hW]; simpa using this
  have hAB : AB (w.heap.size + 1) (w.heap.size + 1 + 1) ⟨#[]⟩ ⟨#[]⟩ W := ⟨n1, n2, by omega⟩
  have HW := walk_both5 m (w.heap.size + 1) (w.heap.size + 1 + 1) nz s t p q W (hs.below hbA) (ht.below hbA) hAB
  unfold WBp wbArgs5 at HW
  have hmf : ∀ (fn : Fn) (first cap : Array Value) (w : World), (Instr.makeFunc fn first cap).run Tryz.prog w = .ok (.func fn first cap) w := fun _ _ _ _ => rfl
  clear hs ht n1 n2 hAB
  generalize twinP m s t = R at HW ⊢
  obtain ⟨ga, hga⟩ : ∃ ga, w.heap.size = ga := ⟨_, rfl⟩
  rw [hga] at n0 HW
  have k0 := Lib.cell_of_heap n0 0
  have k1 := Lib.cell_of_heap n0 1
  go_enter Tryz.func44, Tryz.ntmps44
  go_upto_region 3 with (go_at_call 102; refine HW.mono ?_; rintro e w1 ⟨rfl, hA1, hu1⟩; have ka := Lib.cell_of_heap hA1.ha 0; have kb := Lib.cell_of_heap hA1.hb 0)
  go_region_held3 (fun X => X.cell? ⟨ga + 1, 0, none⟩ = some (.string (resT R).1) ∧ X.cell? ⟨ga + 1 + 1, 0, none⟩ = some (.string (resT R).2)) (exact ⟨ka, kb⟩) (fail)
  have hb1 : Below w.heap.size w w1 := hbA.trans (hu1.below (by have := hbA.size; omega) (fun k hk => by omega))
  go_wp2_with fail
  exact bodyPost_ret (v := .tuple #[.string (resT R).1, .string (resT R).2, .bool (!R.isNone)]) (by simp [results, Tryz.results44, go_sem]) rfl ⟨rfl, hb1.drew⟩
end Go.Proofs.YtibjhkpgaaapaaaGreatDoor
