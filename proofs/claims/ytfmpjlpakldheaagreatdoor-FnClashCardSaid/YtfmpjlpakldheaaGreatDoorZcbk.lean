import Derived.Test.YtfmpjlpakldheaaGreatDoorZcbj
namespace Go.Proofs.YtfmpjlpakldheaaGreatDoor
open Go.RowKit Go.Proofs.Sha

set_option maxRecDepth 100000 in
set_option maxHeartbeats 4000000 in
theorem wb_go (m ca cb : Nat) (h1 : 1 ≤ m) (h2 : m ≤ 32) (l r l2 r2 : Tr PairT) (x y : PairT) (p q : Option Addr) (w : World) (hs : TAc ca cb (hf m) (.node l x r) p w) (ht : TAc ca cb (hf m) (.node l2 y r2) q w) (hp : Pre m (.node l x r) (.node l2 y r2)) (hab : AB ca cb ⟨#[]⟩ ⟨#[]⟩ w) (he : (Tr.node l x r).inord ≠ (Tr.node l2 y r2).inord)
    (heq : encT m (.node l x r) = encT m (.node l2 y r2))
    (ihl : ∀ (p q : Option Addr) (w : World), TAc ca cb (hf m) l p w → TAc ca cb (hf m) l2 q w → Pre m l l2 → AB ca cb ⟨#[]⟩ ⟨#[]⟩ w → Calls Tryz.prog 100 (wbArgs ca cb p q) w (WBc m ca cb l l2 w))
    (ihr : ∀ (p q : Option Addr) (w : World), TAc ca cb (hf m) r p w → TAc ca cb (hf m) r2 q w → Pre m r r2 → AB ca cb ⟨#[]⟩ ⟨#[]⟩ w → Calls Tryz.prog 100 (wbArgs ca cb p q) w (WBc m ca cb r r2 w)) :
    Calls Tryz.prog 100 (wbArgs ca cb p q) w (WBc m ca cb (.node l x r) (.node l2 y r2) w) := by
  have hbA : Below w.heap.size w (w.alloc (.cells #[.pointer p, .pointer q] 82)) := (Below.refl _ _).alloc (Nat.le_refl _) _
  have HD := differ_any (hf m) _ _ p q _ (hs.ta.below hbA (Nat.le_refl _)) (ht.ta.below hbA (Nat.le_refl _)) hp.ns hp.nt hp.ss hp.st
  rw [decide_eq_false he] at HD
  obtain ⟨hxy, el, er⟩ := encT_inj m h1 h2 (hp.oks x (by simp [Tr.inord])) (hp.okt y (by simp [Tr.inord])) heq
  have pl : Pre m l l2 := ⟨el, fun z hz => hp.oks z (by simp [Tr.inord, hz]), fun z hz => hp.okt z (by simp [Tr.inord, hz]), by have := hp.ns; simp only [Tr.size] at this; omega, by have := hp.nt; simp only [Tr.size] at this; omega⟩
  have pr : Pre m r r2 := ⟨er, fun z hz => hp.oks z (by simp [Tr.inord, hz]), fun z hz => hp.okt z (by simp [Tr.inord, hz]), by have := hp.ns; simp only [Tr.size] at this; omega, by have := hp.nt; simp only [Tr.size] at this; omega⟩
  obtain ⟨bs1, ⟨b1, pl1, pr1, bl1, br1, rfl, rfl, _, t1, tl1, tr1⟩, hbs1⟩ := hs
  obtain ⟨bs2, ⟨b2, pl2, pr2, bl2, br2, rfl, rfl, _, t2, tl2, tr2⟩, hbs2⟩ := ht
  have cl1 : TAc ca cb (hf m) l pl1 w := ⟨bl1, tl1, fun b hb => hbs1 b (by simp [hb])⟩
  have cr1 : TAc ca cb (hf m) r pr1 w := ⟨br1, tr1, fun b hb => hbs1 b (by simp [hb])⟩
  have cl2 : TAc ca cb (hf m) l2 pl2 w := ⟨bl2, tl2, fun b hb => hbs2 b (by simp [hb])⟩
  have cr2 : TAc ca cb (hf m) r2 pr2 w := ⟨br2, tr2, fun b hb => hbs2 b (by simp [hb])⟩
  have n1 := hbs1 b1 (by simp)
  have n2 := hbs2 b2 (by simp)
  have e1 : hf m (.node l x r) = (encT m (.node l2 y r2), rootT m (.node l x r)) := by rw [← heq]; rfl
  have e2 : hf m (.node l2 y r2) = (encT m (.node l2 y r2), rootT m (.node l2 y r2)) := rfl
  rw [e1] at t1
  rw [e2] at t2
  have HX : Hid (∀ i w', Uc ca cb w w' → AB ca cb ⟨#[]⟩ ⟨#[]⟩ w' → Calls Tryz.prog 101 #[.agg #[.pointer (some ⟨b1, 0, none⟩), .pointer (some ⟨b2, 0, none⟩)], .int .i64 i, .pointer (some ⟨ca, 0, none⟩), .pointer (some ⟨cb, 0, none⟩)] w' fun e w'' => e = .returned (.bool true) ∧ Below w'.heap.size w' w'') := fun i w' hu ha => tw_same b1 b2 x y pl1 pr1 pl2 pr2 _ _ _ ca cb i w' (t1.upd hu (fun q => by omega)) (t2.upd hu (fun q => by omega)) ha
  have HS : Hid (∀ w', Below w.heap.size w w' → Calls Tryz.prog 205 #[.agg #[.pointer (some ⟨b1, 0, none⟩), .pointer (some ⟨b2, 0, none⟩)]] w' fun e w'' => e = .returned (.tuple #[.agg #[.pointer pl1, .pointer pl2], .agg #[.pointer pr1, .pointer pr2]]) ∧ Below w'.heap.size w' w'') := fun w' hb => bsubs_any b1 b2 x y pl1 pr1 pl2 pr2 _ _ w' (t1.below hb (Nat.le_refl _)) (t2.below hb (Nat.le_refl _))
  have HL : Hid (∀ w', Uc ca cb w w' → AB ca cb ⟨#[]⟩ ⟨#[]⟩ w' → Calls Tryz.prog 100 (wbArgs ca cb pl1 pl2) w' (WBc m ca cb l l2 w')) := fun w' hu ha => ihl pl1 pl2 w' (cl1.upd hu) (cl2.upd hu) pl ha
  have HR : Hid (∀ w', Uc ca cb w w' → AB ca cb ⟨#[]⟩ ⟨#[]⟩ w' → Calls Tryz.prog 100 (wbArgs ca cb pr1 pr2) w' (WBc m ca cb r r2 w')) := fun w' hu ha => ihr pr1 pr2 w' (cr1.upd hu) (cr2.upd hu) pr ha
  have htw : twinT m (.node l x r) (.node l2 y r2) = match twinT m l l2 with | some q => some q | none => twinT m r r2 := by
    rw [twinT, if_neg he, if_neg (by simp [heq])]
    cases twinT m l l2 <;> rfl
  unfold WBc at HL HR ⊢
  rw [htw]
  unfold wbArgs at HL HR ⊢
  have hm : ∀ w' : World, (method 388 82 (.agg #[.pointer (some ⟨b1, 0, none⟩), .pointer (some ⟨b2, 0, none⟩)]) "loop.example/s03048/impl.subtrees").run Tryz.prog w' = .ok (205, .agg #[.pointer (some ⟨b1, 0, none⟩), .pointer (some ⟨b2, 0, none⟩)]) w' := fun _ => by kernel_rfl
  have nA := heap_alloc_new w (.cells #[.pointer (some ⟨b1, 0, none⟩), .pointer (some ⟨b2, 0, none⟩)] 82)
  obtain ⟨ga, hga⟩ : ∃ ga, w.heap.size = ga := ⟨_, rfl⟩
  rw [hga] at nA
  have hlt : ga < (w.alloc (.cells #[.pointer (some ⟨b1, 0, none⟩), .pointer (some ⟨b2, 0, none⟩)] 82)).heap.size := by simp; omega
  have hla := (Array.getElem?_eq_some_iff.1 hab.ha).1
  have hlb := (Array.getElem?_eq_some_iff.1 hab.hb).1
  rw [hga] at hla hlb
  clear htw hp he heq hxy el er pl pr cl1 cr1 cl2 cr2 t1 t2 tl1 tr1 tl2 tr2 hbs1 hbs2 ihl ihr e1 e2 n1 n2
  generalize twinT m l l2 = r1 at HL ⊢
  generalize twinT m r r2 = r2' at HR ⊢
  have hAB : Hid (AB ca cb ⟨#[]⟩ ⟨#[]⟩ w) := hab
  clear hab
  cases r1 with
  | some q1 =>
    simp only [Option.isNone_some] at HL ⊢
    go_enter Tryz.func100, Tryz.ntmps100
    go_upto_region 6 with (first | (go_at_call 58; refine HD.mono ?_; rintro e w1 ⟨rfl, hb1⟩; have n1 := (hb1.block ga hlt).trans nA; have k0 := Lib.cell_of_heap n1 0; have k1 := Lib.cell_of_heap n1 1; have hb2 : Below w.heap.size w w1 := hbA.trans (hb1.mono hbA.size)) | (go_at_call 101; refine (HX.out _ _ (Upd.of_below hb2) (hAB.out.below hb2)).mono ?_; rintro e w2 ⟨rfl, hb3'⟩; have n2 := (hb3'.block ga (Array.getElem?_eq_some_iff.1 n1).1).trans n1; have j0 := Lib.cell_of_heap n2 0; have j1 := Lib.cell_of_heap n2 1; have hb3 : Below w.heap.size w w2 := hb2.trans (hb3'.mono hb2.size)) | (go_at_call 205; refine (HS.out _ hb3).mono ?_; rintro e w3 ⟨rfl, hb4'⟩; have n3 := (hb4'.block ga (Array.getElem?_eq_some_iff.1 n2).1).trans n2; have hb4 : Below w.heap.size w w3 := hb3.trans (hb4'.mono hb3.size)))
    have hb5 : Below w.heap.size w ((w3.alloc (.cells #[.pointer pl1, .pointer pl2] 82)).alloc (.cells #[.pointer pr1, .pointer pr2] 82)) := (hb4.alloc hb4.size _).alloc (by simp; have := hb4.size; omega) _
    have hga3 := (Array.getElem?_eq_some_iff.1 n3).1
    have m0 : ((w3.alloc (.cells #[.pointer pl1, .pointer pl2] 82)).alloc (.cells #[.pointer pr1, .pointer pr2] 82)).heap[ga]? = some (.cells #[.pointer (some ⟨b1, 0, none⟩), .pointer (some ⟨b2, 0, none⟩)] 82) := by
      rw [Below.heap_alloc _ _ _ (by simp; omega), Below.heap_alloc _ _ _ hga3]; exact n3
    have m7 : ((w3.alloc (.cells #[.pointer pl1, .pointer pl2] 82)).alloc (.cells #[.pointer pr1, .pointer pr2] 82)).heap[w3.heap.size]? = some (.cells #[.pointer pl1, .pointer pl2] 82) := by
      rw [Below.heap_alloc _ _ _ (by simp)]; exact heap_alloc_new w3 _
    have m8 : ((w3.alloc (.cells #[.pointer pl1, .pointer pl2] 82)).alloc (.cells #[.pointer pr1, .pointer pr2] 82)).heap[w3.heap.size + 1]? = some (.cells #[.pointer pr1, .pointer pr2] 82) := by
      have := heap_alloc_new (w3.alloc (.cells #[.pointer pl1, .pointer pl2] 82)) (.cells #[.pointer pr1, .pointer pr2] 82)
      simpa using this
    have hsz4 : w.heap.size ≤ w3.heap.size := hb4.size
    generalize (w3.alloc (.cells #[.pointer pl1, .pointer pl2] 82)).alloc (.cells #[.pointer pr1, .pointer pr2] 82) = w4 at hb5 m0 m7 m8 ⊢
    obtain ⟨g7, hg7⟩ : ∃ g7, w3.heap.size = g7 := ⟨_, rfl⟩
    rw [hg7] at m7 m8 hsz4 hga3 ⊢
    have q0 := Lib.cell_of_heap m7 0
    have q1' := Lib.cell_of_heap m7 1
    have hA4 := hAB.out.below hb5
    clear n1 n2 n3 k0 k1 j0 j1 hb1 hb2 hb3 hb3' hb4 hb4' hg7
    go_wp2_with (first | (go_at_call 100; refine (HL.out _ (Upd.of_below hb5) hA4).mono ?_; rintro e w5 ⟨rfl, hA5, hu5⟩))
    go_ret
    exact ⟨rfl, hA5, (Upd.of_below hb5).trans hu5⟩
  | none =>
    simp only [Option.isNone_none] at HL
    have HL' : Hid (∀ w', Uc ca cb w w' → AB ca cb ⟨#[]⟩ ⟨#[]⟩ w' → Calls Tryz.prog 100 #[.agg #[.pointer pl1, .pointer pl2], .func (.func 58) #[] #[], .func (.func 101) #[] #[.pointer (some ⟨ca, 0, none⟩), .pointer (some ⟨cb, 0, none⟩)]] w' fun e w'' => e = .returned (.bool true) ∧ AB ca cb ⟨#[]⟩ ⟨#[]⟩ w'' ∧ Uc ca cb w' w'') := HL.out
    clear HL
    cases r2' with
    | some q2 =>
      simp only [Option.isNone_some] at HR ⊢
      go_enter Tryz.func100, Tryz.ntmps100
      go_upto_region 6 with (first | (go_at_call 58; refine HD.mono ?_; rintro e w1 ⟨rfl, hb1⟩; have n1 := (hb1.block ga hlt).trans nA; have k0 := Lib.cell_of_heap n1 0; have k1 := Lib.cell_of_heap n1 1; have hb2 : Below w.heap.size w w1 := hbA.trans (hb1.mono hbA.size)) | (go_at_call 101; refine (HX.out _ _ (Upd.of_below hb2) (hAB.out.below hb2)).mono ?_; rintro e w2 ⟨rfl, hb3'⟩; have n2 := (hb3'.block ga (Array.getElem?_eq_some_iff.1 n1).1).trans n1; have j0 := Lib.cell_of_heap n2 0; have j1 := Lib.cell_of_heap n2 1; have hb3 : Below w.heap.size w w2 := hb2.trans (hb3'.mono hb2.size)) | (go_at_call 205; refine (HS.out _ hb3).mono ?_; rintro e w3 ⟨rfl, hb4'⟩; have n3 := (hb4'.block ga (Array.getElem?_eq_some_iff.1 n2).1).trans n2; have hb4 : Below w.heap.size w w3 := hb3.trans (hb4'.mono hb3.size)))
      have hb5 : Below w.heap.size w ((w3.alloc (.cells #[.pointer pl1, .pointer pl2] 82)).alloc (.cells #[.pointer pr1, .pointer pr2] 82)) := (hb4.alloc hb4.size _).alloc (by simp; have := hb4.size; omega) _
      have hga3 := (Array.getElem?_eq_some_iff.1 n3).1
      have m0 : ((w3.alloc (.cells #[.pointer pl1, .pointer pl2] 82)).alloc (.cells #[.pointer pr1, .pointer pr2] 82)).heap[ga]? = some (.cells #[.pointer (some ⟨b1, 0, none⟩), .pointer (some ⟨b2, 0, none⟩)] 82) := by
        rw [Below.heap_alloc _ _ _ (by simp; omega), Below.heap_alloc _ _ _ hga3]; exact n3
      have m7 : ((w3.alloc (.cells #[.pointer pl1, .pointer pl2] 82)).alloc (.cells #[.pointer pr1, .pointer pr2] 82)).heap[w3.heap.size]? = some (.cells #[.pointer pl1, .pointer pl2] 82) := by
        rw [Below.heap_alloc _ _ _ (by simp)]; exact heap_alloc_new w3 _
      have m8 : ((w3.alloc (.cells #[.pointer pl1, .pointer pl2] 82)).alloc (.cells #[.pointer pr1, .pointer pr2] 82)).heap[w3.heap.size + 1]? = some (.cells #[.pointer pr1, .pointer pr2] 82) := by
        have := heap_alloc_new (w3.alloc (.cells #[.pointer pl1, .pointer pl2] 82)) (.cells #[.pointer pr1, .pointer pr2] 82)
        simpa using this
      have hsz4 : w.heap.size ≤ w3.heap.size := hb4.size
      generalize (w3.alloc (.cells #[.pointer pl1, .pointer pl2] 82)).alloc (.cells #[.pointer pr1, .pointer pr2] 82) = w4 at hb5 m0 m7 m8 ⊢
      obtain ⟨g7, hg7⟩ : ∃ g7, w3.heap.size = g7 := ⟨_, rfl⟩
      rw [hg7] at m7 m8 hsz4 hga3 ⊢
      have q0 := Lib.cell_of_heap m7 0
      have q1' := Lib.cell_of_heap m7 1
      have hA4 := hAB.out.below hb5
      clear n1 n2 n3 k0 k1 j0 j1 hb1 hb2 hb3 hb3' hb4 hb4' hg7
      go_wp2_with (first | (go_at_call_of 100 (Value.agg #[.pointer pl1, .pointer pl2]); refine (HL'.out _ (Upd.of_below hb5) hA4).mono ?_; rintro e w5 ⟨rfl, hA5, hu5⟩; have hu5w : Uc ca cb w w5 := (Upd.of_below hb5).trans hu5; have x0 := (hu5.block ga (Array.getElem?_eq_some_iff.1 m0).1 (fun q => by omega)).trans m0; have x8 := (hu5.block (g7 + 1) (Array.getElem?_eq_some_iff.1 m8).1 (fun q => by omega)).trans m8; have i0 := Lib.cell_of_heap x0 0; have i1 := Lib.cell_of_heap x0 1) | (go_at_call_of 101 (Value.int .i64 1); refine (HX.out _ _ hu5w hA5).mono ?_; rintro e w6 ⟨rfl, hb6⟩; have hA6 := hA5.below hb6; have hu6w : Uc ca cb w w6 := hu5w.trans (Upd.of_below hb6); have y8 := (hb6.block (g7 + 1) (Array.getElem?_eq_some_iff.1 x8).1).trans x8; have y0 := (hb6.block ga (Array.getElem?_eq_some_iff.1 x0).1).trans x0; have o0 := Lib.cell_of_heap y8 0; have o1 := Lib.cell_of_heap y8 1) | (go_at_call_of 100 (Value.agg #[.pointer pr1, .pointer pr2]); refine (HR.out _ hu6w hA6).mono ?_; rintro e w7 ⟨rfl, hA7, hu7⟩; have hu7w : Uc ca cb w w7 := hu6w.trans hu7; have u0 := (hu7.block ga (Array.getElem?_eq_some_iff.1 y0).1 (fun q => by omega)).trans y0; have v0 := Lib.cell_of_heap u0 0; have v1 := Lib.cell_of_heap u0 1))
      go_ret
      exact ⟨rfl, hA7, hu7w⟩
    | none =>
      simp only [Option.isNone_none] at HR ⊢
      go_enter Tryz.func100, Tryz.ntmps100
      go_upto_region 6 with (first | (go_at_call 58; refine HD.mono ?_; rintro e w1 ⟨rfl, hb1⟩; have n1 := (hb1.block ga hlt).trans nA; have k0 := Lib.cell_of_heap n1 0; have k1 := Lib.cell_of_heap n1 1; have hb2 : Below w.heap.size w w1 := hbA.trans (hb1.mono hbA.size)) | (go_at_call 101; refine (HX.out _ _ (Upd.of_below hb2) (hAB.out.below hb2)).mono ?_; rintro e w2 ⟨rfl, hb3'⟩; have n2 := (hb3'.block ga (Array.getElem?_eq_some_iff.1 n1).1).trans n1; have j0 := Lib.cell_of_heap n2 0; have j1 := Lib.cell_of_heap n2 1; have hb3 : Below w.heap.size w w2 := hb2.trans (hb3'.mono hb2.size)) | (go_at_call 205; refine (HS.out _ hb3).mono ?_; rintro e w3 ⟨rfl, hb4'⟩; have n3 := (hb4'.block ga (Array.getElem?_eq_some_iff.1 n2).1).trans n2; have hb4 : Below w.heap.size w w3 := hb3.trans (hb4'.mono hb3.size)))
      have hb5 : Below w.heap.size w ((w3.alloc (.cells #[.pointer pl1, .pointer pl2] 82)).alloc (.cells #[.pointer pr1, .pointer pr2] 82)) := (hb4.alloc hb4.size _).alloc (by simp; have := hb4.size; omega) _
      have hga3 := (Array.getElem?_eq_some_iff.1 n3).1
      have m0 : ((w3.alloc (.cells #[.pointer pl1, .pointer pl2] 82)).alloc (.cells #[.pointer pr1, .pointer pr2] 82)).heap[ga]? = some (.cells #[.pointer (some ⟨b1, 0, none⟩), .pointer (some ⟨b2, 0, none⟩)] 82) := by
        rw [Below.heap_alloc _ _ _ (by simp; omega), Below.heap_alloc _ _ _ hga3]; exact n3
      have m7 : ((w3.alloc (.cells #[.pointer pl1, .pointer pl2] 82)).alloc (.cells #[.pointer pr1, .pointer pr2] 82)).heap[w3.heap.size]? = some (.cells #[.pointer pl1, .pointer pl2] 82) := by
        rw [Below.heap_alloc _ _ _ (by simp)]; exact heap_alloc_new w3 _
      have m8 : ((w3.alloc (.cells #[.pointer pl1, .pointer pl2] 82)).alloc (.cells #[.pointer pr1, .pointer pr2] 82)).heap[w3.heap.size + 1]? = some (.cells #[.pointer pr1, .pointer pr2] 82) := by
        have := heap_alloc_new (w3.alloc (.cells #[.pointer pl1, .pointer pl2] 82)) (.cells #[.pointer pr1, .pointer pr2] 82)
        simpa using this
      have hsz4 : w.heap.size ≤ w3.heap.size := hb4.size
      generalize (w3.alloc (.cells #[.pointer pl1, .pointer pl2] 82)).alloc (.cells #[.pointer pr1, .pointer pr2] 82) = w4 at hb5 m0 m7 m8 ⊢
      obtain ⟨g7, hg7⟩ : ∃ g7, w3.heap.size = g7 := ⟨_, rfl⟩
      rw [hg7] at m7 m8 hsz4 hga3 ⊢
      have q0 := Lib.cell_of_heap m7 0
      have q1' := Lib.cell_of_heap m7 1
      have hA4 := hAB.out.below hb5
      clear n1 n2 n3 k0 k1 j0 j1 hb1 hb2 hb3 hb3' hb4 hb4' hg7
      go_wp2_with (first | (go_at_call_of 100 (Value.agg #[.pointer pl1, .pointer pl2]); refine (HL'.out _ (Upd.of_below hb5) hA4).mono ?_; rintro e w5 ⟨rfl, hA5, hu5⟩; have hu5w : Uc ca cb w w5 := (Upd.of_below hb5).trans hu5; have x0 := (hu5.block ga (Array.getElem?_eq_some_iff.1 m0).1 (fun q => by omega)).trans m0; have x8 := (hu5.block (g7 + 1) (Array.getElem?_eq_some_iff.1 m8).1 (fun q => by omega)).trans m8; have i0 := Lib.cell_of_heap x0 0; have i1 := Lib.cell_of_heap x0 1) | (go_at_call_of 101 (Value.int .i64 1); refine (HX.out _ _ hu5w hA5).mono ?_; rintro e w6 ⟨rfl, hb6⟩; have hA6 := hA5.below hb6; have hu6w : Uc ca cb w w6 := hu5w.trans (Upd.of_below hb6); have y8 := (hb6.block (g7 + 1) (Array.getElem?_eq_some_iff.1 x8).1).trans x8; have y0 := (hb6.block ga (Array.getElem?_eq_some_iff.1 x0).1).trans x0; have o0 := Lib.cell_of_heap y8 0; have o1 := Lib.cell_of_heap y8 1) | (go_at_call_of 100 (Value.agg #[.pointer pr1, .pointer pr2]); refine (HR.out _ hu6w hA6).mono ?_; rintro e w7 ⟨rfl, hA7, hu7⟩; have hu7w : Uc ca cb w w7 := hu6w.trans hu7; have u0 := (hu7.block ga (Array.getElem?_eq_some_iff.1 y0).1 (fun q => by omega)).trans y0; have v0 := Lib.cell_of_heap u0 0; have v1 := Lib.cell_of_heap u0 1) | (go_at_call_of 101 (Value.int .i64 2); refine (HX.out _ _ hu7w hA7).mono ?_; rintro e w8 ⟨rfl, hb8⟩))
      go_ret
      exact ⟨rfl, hA7.below hb8, hu7w.trans (Upd.of_below hb8)⟩
theorem walk_both (m ca cb : Nat) (h1 : 1 ≤ m) (h2 : m ≤ 32) : ∀ (s t : Tr PairT) (p q : Option Addr) (w : World), TAc ca cb (hf m) s p w → TAc ca cb (hf m) t q w → Pre m s t → AB ca cb ⟨#[]⟩ ⟨#[]⟩ w → Calls Tryz.prog 100 (wbArgs ca cb p q) w (WBc m ca cb s t w) := by
  intro s
  induction s with
  | nil =>
    intro t p q w hs ht hp hab
    have : t = .nil := rootT_nil m h1 h2 t hp.root.symm
    subst this
    exact wb_same m ca cb _ _ p q w hs ht hp hab rfl
  | node l x r ihl ihr =>
    intro t p q w hs ht hp hab
    by_cases he : (Tr.node l x r).inord = t.inord
    · exact wb_same m ca cb _ _ p q w hs ht hp hab he
    · cases t with
      | nil =>
        have : (Tr.node l x r) = .nil := rootT_nil m h1 h2 _ hp.root
        cases this
      | node l2 y r2 =>
        by_cases hne : encT m (.node l x r) = encT m (.node l2 y r2)
        · exact wb_go m ca cb h1 h2 l r l2 r2 x y p q w hs ht hp hab he hne (ihl l2) (ihr r2)
        · exact wb_enc m ca cb h1 h2 l r l2 r2 x y p q w hs ht hp hab he hne
end Go.Proofs.YtfmpjlpakldheaaGreatDoor
