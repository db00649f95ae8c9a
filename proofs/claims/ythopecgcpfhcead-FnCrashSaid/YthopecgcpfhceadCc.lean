import Derived.Test.YthopecgcpfhceadCb
import Derived.Deep.Cut
namespace Go.Proofs.Ythopecgcpfhcead
open Go.RowKit Go.Proofs.Sha

/-- A node's block. -/
def DN (g : Nat) (k v l r : ByteArray) (w : World) : Prop := w.heap[g]? = some (.cells #[.string k, .string v, .string l, .string r] 52)
theorem DN.below {g : Nat} {k v l r : ByteArray} {w w' : World} (h : DN g k v l r w) (hb : Below w.heap.size w w') : DN g k v l r w' := (hb.block g (Array.getElem?_eq_some_iff.1 h).1).trans h
theorem DN.s0 {g : Nat} {k v l r : ByteArray} {w : World} (h : DN g k v l r w) (x : ByteArray) : DN g x v l r (w.setCell ⟨g, 0, none⟩ (.string x)) := heap_setCell_same w g 0 _ 52 _ h
theorem DN.s1 {g : Nat} {k v l r : ByteArray} {w : World} (h : DN g k v l r w) (x : ByteArray) : DN g k x l r (w.setCell ⟨g, 1, none⟩ (.string x)) := heap_setCell_same w g 1 _ 52 _ h
theorem DN.s2 {g : Nat} {k v l r : ByteArray} {w : World} (h : DN g k v l r w) (x : ByteArray) : DN g k v x r (w.setCell ⟨g, 2, none⟩ (.string x)) := heap_setCell_same w g 2 _ 52 _ h
theorem DN.s3 {g : Nat} {k v l r : ByteArray} {w : World} (h : DN g k v l r w) (x : ByteArray) : DN g k v l x (w.setCell ⟨g, 3, none⟩ (.string x)) := heap_setCell_same w g 3 _ 52 _ h
theorem DN.other {g h i : Nat} {k v l r : ByteArray} {x : Value} {w : World} (hd : DN g k v l r w) (hne : g ≠ h) : DN g k v l r (w.setCell ⟨h, i, none⟩ x) := (heap_setCell_other w ⟨h, i, none⟩ g x hne).trans hd
theorem DN.fr {g j : Nat} {k v l r : ByteArray} {w : World} (h : DN g k v l r w) : w.frozen? ⟨g, j, none⟩ = false := by rw [World.frozen?, show w.heap[g]? = _ from h]; rfl
structure DNc (g : Nat) (k v l r : ByteArray) (w : World) : Prop where
  c0 : w.cell? ⟨g, 0, none⟩ = some (.string k)
  c1 : w.cell? ⟨g, 1, none⟩ = some (.string v)
  c2 : w.cell? ⟨g, 2, none⟩ = some (.string l)
  c3 : w.cell? ⟨g, 3, none⟩ = some (.string r)
  f0 : w.frozen? ⟨g, 0, none⟩ = false
  f1 : w.frozen? ⟨g, 1, none⟩ = false
  f2 : w.frozen? ⟨g, 2, none⟩ = false
  f3 : w.frozen? ⟨g, 3, none⟩ = false
theorem DN.at {g : Nat} {k v l r : ByteArray} {w : World} (h : DN g k v l r w) : DNc g k v l r w :=
  ⟨Lib.cell_of_heap h 0, Lib.cell_of_heap h 1, Lib.cell_of_heap h 2, Lib.cell_of_heap h 3, h.fr, h.fr, h.fr, h.fr⟩
/-- What stands while a node is drawn. -/
structure DS (w : World) (fb gb : Nat) (k v l r : ByteArray) (W : World) : Prop where
  sz : w.heap.size = fb
  lt : fb < gb
  bl : Below fb w W
  rb : DN fb ⟨#[]⟩ ⟨#[]⟩ ⟨#[]⟩ ⟨#[]⟩ W
  nb : DN gb k v l r W
theorem DS.below {w : World} {fb gb : Nat} {k v l r : ByteArray} {W W' : World} (h : DS w fb gb k v l r W) (hb : Below W.heap.size W W') : DS w fb gb k v l r W' :=
  ⟨h.sz, h.lt, h.bl.trans (hb.mono (by have := h.bl.size; have := h.sz; omega)), h.rb.below hb, h.nb.below hb⟩
theorem DS.s0 {w : World} {fb gb : Nat} {k v l r : ByteArray} {W : World} (h : DS w fb gb k v l r W) (x : ByteArray) : DS w fb gb x v l r (W.setCell ⟨gb, 0, none⟩ (.string x)) :=
  ⟨h.sz, h.lt, h.bl.setCell (Nat.le_of_lt h.lt) _, h.rb.other (Nat.ne_of_lt h.lt), h.nb.s0 x⟩
theorem DS.s1 {w : World} {fb gb : Nat} {k v l r : ByteArray} {W : World} (h : DS w fb gb k v l r W) (x : ByteArray) : DS w fb gb k x l r (W.setCell ⟨gb, 1, none⟩ (.string x)) :=
  ⟨h.sz, h.lt, h.bl.setCell (Nat.le_of_lt h.lt) _, h.rb.other (Nat.ne_of_lt h.lt), h.nb.s1 x⟩
theorem DS.s2 {w : World} {fb gb : Nat} {k v l r : ByteArray} {W : World} (h : DS w fb gb k v l r W) (x : ByteArray) : DS w fb gb k v x r (W.setCell ⟨gb, 2, none⟩ (.string x)) :=
  ⟨h.sz, h.lt, h.bl.setCell (Nat.le_of_lt h.lt) _, h.rb.other (Nat.ne_of_lt h.lt), h.nb.s2 x⟩
theorem DS.s3 {w : World} {fb gb : Nat} {k v l r : ByteArray} {W : World} (h : DS w fb gb k v l r W) (x : ByteArray) : DS w fb gb k v l x (W.setCell ⟨gb, 3, none⟩ (.string x)) :=
  ⟨h.sz, h.lt, h.bl.setCell (Nat.le_of_lt h.lt) _, h.rb.other (Nat.ne_of_lt h.lt), h.nb.s3 x⟩
theorem DS.all {w : World} {fb gb : Nat} {k v l r : ByteArray} {W : World} (h : DS w fb gb k v l r W) (x y z u : ByteArray) : DS w fb gb x y z u ((((W.setCell ⟨gb, 0, none⟩ (.string x)).setCell ⟨gb, 1, none⟩ (.string y)).setCell ⟨gb, 2, none⟩ (.string z)).setCell ⟨gb, 3, none⟩ (.string u)) := (((h.s0 x).s1 y).s2 z).s3 u

set_option maxRecDepth 100000 in
set_option maxHeartbeats 2000000 in
theorem node_det (a : Option Addr) (xs : List Nat) (cap : Nat) (p k : Nat) (hX : Code8 xs) (hp : p ≤ 80000) (h1 : 1 ≤ k) (h2 : k ≤ 32) :
    ∃ (ke va le ri : ByteArray), (ke.size ≤ 3000 ∧ va.size ≤ 3000 ∧ le.size ≤ 3000 ∧ ri.size ≤ 3000) ∧ ∀ w, BL a xs w → Calls Try.prog 64 #[.slice a xs.length cap, .int .i64 (p : Int), .int .i64 (k : Int)] w fun e w' => e = .returned (.tuple #[.agg #[.string ke, .string va, .string le, .string ri], .int .i64 ((p + 6 : Nat) : Int)]) ∧ Below w.heap.size w w' := by
  obtain ⟨x, hx, HT⟩ := take_det a xs cap p 18 hX (by omega) (by omega) (by omega)
  obtain ⟨ke, hke, HK⟩ := key_det a xs cap (p + 1) hX (by omega)
  obtain ⟨va, hva, HV⟩ := val_det a xs cap (p + 2) hX (by omega)
  obtain ⟨le, hle, HL⟩ := hash_det a xs cap (p + 4) k hX (by omega) h1 h2
  obtain ⟨ri, hri, HR⟩ := hash_det a xs cap (p + 5) k hX (by omega) h1 h2
  replace HT : Hid _ := HT
  replace HK : Hid _ := HK
  replace HV : Hid _ := HV
  replace HL : Hid _ := HL
  replace HR : Hid _ := HR
  obtain ⟨p1, hp1⟩ : ∃ p1, p + 1 = p1 := ⟨_, rfl⟩
  obtain ⟨p2, hp2⟩ : ∃ p1, p + 2 = p1 := ⟨_, rfl⟩
  obtain ⟨p4, hp4⟩ : ∃ p1, p + 4 = p1 := ⟨_, rfl⟩
  obtain ⟨p5, hp5⟩ : ∃ p1, p + 5 = p1 := ⟨_, rfl⟩
  obtain ⟨p6, hp6⟩ : ∃ p1, p + 6 = p1 := ⟨_, rfl⟩
  rw [show p + 1 + 1 = p2 by omega] at HK
  rw [show p + 2 + 2 = p4 by omega] at HV
  rw [show p + 4 + 1 = p5 by omega] at HL
  rw [show p + 5 + 1 = p6 by omega] at HR
  rw [hp1] at HT HK
  rw [hp2] at HV
  rw [hp4] at HL
  rw [hp5] at HR
  rw [hp6]
  have hp6' : p6 ≤ 90000 := by omega
  clear hp1 hp2 hp4 hp5 hp6
  refine ⟨if x = 15 then reps (257 * (p6 % 2)) 107 else ke, if x = 16 then reps (2000 + p6 % 2) 118 else va, if x = 17 then le ++ ⟨#[120]⟩ else le, ri, ⟨?_, ?_, ?_, by omega⟩, fun w h => ?_⟩
  · split
    · rw [reps_size]; omega
    · omega
  · split
    · rw [reps_size]; omega
    · omega
  · split
    · rw [ByteArray.size_append]; show le.size + 1 ≤ 3000; omega
    · omega
  obtain ⟨KE, hKE⟩ : ∃ t, (if x = 15 then reps (257 * (p6 % 2)) 107 else ke) = t := ⟨_, rfl⟩
  obtain ⟨VA, hVA⟩ : ∃ t, (if x = 16 then reps (2000 + p6 % 2) 118 else va) = t := ⟨_, rfl⟩
  obtain ⟨LE, hLE⟩ : ∃ t, (if x = 17 then le ++ ⟨#[120]⟩ else le) = t := ⟨_, rfl⟩
  rw [hKE, hVA, hLE]
  replace hKE : Hid _ := hKE
  replace hVA : Hid _ := hVA
  replace hLE : Hid _ := hLE
  go_enter Try.func64, Try.ntmps64
  obtain ⟨fb, hfb⟩ : ∃ fb, w.heap.size = fb := ⟨_, rfl⟩
  go_wp2_with fail
  refine (HT.out _ (h.below ((Below.refl _ w).alloc (Nat.le_refl _) _))).mono ?_
  rintro e w1 ⟨rfl, hb1⟩
  obtain ⟨gb, hgb⟩ : ∃ gb, w1.heap.size = gb := ⟨_, rfl⟩
  have hB1 : Below w.heap.size w w1 := ((Below.refl _ w).alloc (Nat.le_refl _) _).trans (hb1.mono (by simp))
  have hS2 : DS w fb gb ⟨#[]⟩ ⟨#[]⟩ ⟨#[]⟩ ⟨#[]⟩ (w1.alloc (.cells #[.string ⟨#[]⟩, .string ⟨#[]⟩, .string ⟨#[]⟩, .string ⟨#[]⟩] 52)) := by
    have hz := hb1.size
    simp at hz
    refine ⟨hfb, by omega, ?_, ?_, ?_⟩
    · rw [← hfb]; exact hB1.alloc hB1.size _
    · refine DN.below ?_ ((Below.refl _ _).alloc (Nat.le_refl _) _)
      refine DN.below ?_ hb1
      unfold DN; rw [← hfb]; exact heap_alloc_new _ _
    · unfold DN; rw [← hgb]; exact heap_alloc_new _ _
  have hA2 : BL a xs (w1.alloc (.cells #[.string ⟨#[]⟩, .string ⟨#[]⟩, .string ⟨#[]⟩, .string ⟨#[]⟩] 52)) := h.below (hB1.alloc hB1.size _)
  clear hb1
  go_wp2_with fail
  refine (HK.out _ hA2).mono ?_
  rintro e w3 ⟨rfl, hb3⟩
  have hS3 := hS2.below hb3
  have hA3 := hA2.below hb3
  clear hS2 hA2 hb3 hB1
  go_wp2_with fail
  refine (HV.out _ hA3).mono ?_
  rintro e w4 ⟨rfl, hb4⟩
  have hS4 := hS3.below hb4
  have hA4 := hA3.below hb4
  clear hS3 hA3 hb4
  go_wp2_with fail
  refine (HL.out _ hA4).mono ?_
  rintro e w5 ⟨rfl, hb5⟩
  have hS5 := hS4.below hb5
  have hA5 := hA4.below hb5
  clear hS4 hA4 hb5
  go_wp2_with fail
  refine (HR.out _ hA5).mono ?_
  rintro e w6 ⟨rfl, hb6⟩
  have hS6 := hS5.below hb6
  clear hS5 hA5 hb6 HT HK HV HL HR h
  obtain ⟨c0, c1, c2, c3, f0, f1, f2, f3⟩ := hS6.nb.at
  obtain ⟨w7, hw7⟩ : ∃ w7, w7 = (((w6.setCell ⟨gb, 0, none⟩ (.string ke)).setCell ⟨gb, 1, none⟩ (.string va)).setCell ⟨gb, 2, none⟩ (.string le)).setCell ⟨gb, 3, none⟩ (.string ri) := ⟨_, rfl⟩
  have hS7 : DS w fb gb ke va le ri w7 := by rw [hw7]; exact hS6.all _ _ _ _
  go_upto_region 9 with fail
  rw [← hw7]
  clear hw7 hS6 c0 c1 c2 c3 f0 f1 f2 f3
  obtain ⟨c0, c1, c2, c3, f0, f1, f2, f3⟩ := hS7.nb.at
  have HEnd : Hid (∀ (B : Nat), B = fb → ∀ (W : World) (ke va le ri : ByteArray), DS w fb gb ke va le ri W → ∀ (A : Act), A.tmps.getD 6 undef = .pointer (some ⟨fb, 0, none⟩) → A.tmps.getD 7 undef = .int .i64 (p6 : Int) → A.defers = [] →
      bodyPost Try.prog Try.f64 (fun e w' => e = .returned (.tuple #[.agg #[.string ke, .string va, .string le, .string ri], .int .i64 (p6 : Int)]) ∧ Below B w w') Exit.ret A
        ((((W.setCell ⟨fb, 0, none⟩ (.string ke)).setCell ⟨fb, 1, none⟩ (.string va)).setCell ⟨fb, 2, none⟩ (.string le)).setCell ⟨fb, 3, none⟩ (.string ri))) := by
    intro B hB W ke va le ri hS A h6 h7 hd
    have hN : DN fb ke va le ri ((((W.setCell ⟨fb, 0, none⟩ (.string ke)).setCell ⟨fb, 1, none⟩ (.string va)).setCell ⟨fb, 2, none⟩ (.string le)).setCell ⟨fb, 3, none⟩ (.string ri)) := (((hS.rb.s0 _).s1 _).s2 _).s3 _
    obtain ⟨c0, c1, c2, c3, _, _, _, _⟩ := hN.at
    have h6' : A.tmps[6]?.getD undef = .pointer (some ⟨fb, 0, none⟩) := by simpa using h6
    have h7' : A.tmps[7]?.getD undef = .int .i64 (p6 : Int) := by simpa using h7
    refine bodyPost_ret (v := .tuple #[.agg #[.string ke, .string va, .string le, .string ri], .int .i64 (p6 : Int)]) (by simp [results, Try.results64, go_sem, h6', h7', asAddr, c0, c1, c2, c3]) hd ⟨rfl, ?_⟩
    rw [hB]
    exact (((hS.bl.setCell (Nat.le_refl _) _).setCell (Nat.le_refl _) _).setCell (Nat.le_refl _) _).setCell (Nat.le_refl _) _
  obtain ⟨r0, r1, r2, r3, e0, e1, e2, e3⟩ := hS7.rb.at
  by_cases x15 : x = 15
  · subst x15
    have eK : Hid (KE = reps (257 * (p6 % 2)) 107) := by show _ = _; rw [← hKE.out, if_pos rfl]
    have HQ : Hid (∀ w m, m = ((257 * (p6 % 2) : Nat) : Int) → Calls Try.prog 74 #[.int .i64 m, .string ⟨#[107]⟩] w fun e w' => e = .returned (.string KE) ∧ Below w.heap.size w w') := fun w m hm => by rw [eK.out]; exact long_d _ m _ hm (by omega) w
    have eV : Hid (VA = va) := by show _ = _; rw [← hVA.out, if_neg (by omega)]
    have eL : Hid (LE = le) := by show _ = _; rw [← hLE.out, if_neg (by omega)]
    go_wp2_with fail
    refine (HQ.out _ _ (by omega)).mono ?_
    rintro e w8 ⟨rfl, hb8⟩
    have hS8 := hS7.below hb8
    clear hb8 hS7 c0 c1 c2 c3 f0 f1 f2 f3 r0 r1 r2 r3 e0 e1 e2 e3
    obtain ⟨c0, c1, c2, c3, f0, f1, f2, f3⟩ := hS8.nb.at
    go_upto_region 15 with fail
    have hS9 := hS8.s0 KE
    generalize w8.setCell ⟨gb, 0, none⟩ (.string KE) = w9 at hS9 ⊢
    clear hS8 c0 c1 c2 c3 f0 f1 f2 f3
    obtain ⟨c0, c1, c2, c3, f0, f1, f2, f3⟩ := hS9.nb.at
    obtain ⟨r0, r1, r2, r3, e0, e1, e2, e3⟩ := hS9.rb.at
    go_wp2_with fail
    rw [eV.out, eL.out]
    exact HEnd.out _ (by first | rfl | exact hfb) _ _ _ _ _ hS9 _ rfl rfl rfl
  have eK : Hid (KE = ke) := by show _ = _; rw [← hKE.out, if_neg x15]
  have z1 : ((x : Int) == 15) = false := by rw [beq_eq_false_iff_ne]; omega
  by_cases x16 : x = 16
  · subst x16
    have eV : Hid (VA = reps (2000 + p6 % 2) 118) := by show _ = _; rw [← hVA.out, if_pos rfl]
    have HQ : Hid (∀ w m, m = ((2000 + p6 % 2 : Nat) : Int) → Calls Try.prog 74 #[.int .i64 m, .string ⟨#[118]⟩] w fun e w' => e = .returned (.string VA) ∧ Below w.heap.size w w') := fun w m hm => by rw [eV.out]; exact long_d _ m _ hm (by omega) w
    have eL : Hid (LE = le) := by show _ = _; rw [← hLE.out, if_neg (by omega)]
    go_wp2_with fail
    refine (HQ.out _ _ (by omega)).mono ?_
    rintro e w8 ⟨rfl, hb8⟩
    have hS8 := hS7.below hb8
    clear hb8 hS7 c0 c1 c2 c3 f0 f1 f2 f3 r0 r1 r2 r3 e0 e1 e2 e3
    obtain ⟨c0, c1, c2, c3, f0, f1, f2, f3⟩ := hS8.nb.at
    go_upto_region 15 with fail
    have hS9 := hS8.s1 VA
    generalize w8.setCell ⟨gb, 1, none⟩ (.string VA) = w9 at hS9 ⊢
    clear hS8 c0 c1 c2 c3 f0 f1 f2 f3
    obtain ⟨c0, c1, c2, c3, f0, f1, f2, f3⟩ := hS9.nb.at
    obtain ⟨r0, r1, r2, r3, e0, e1, e2, e3⟩ := hS9.rb.at
    go_wp2_with fail
    rw [eK.out, eL.out]
    exact HEnd.out _ (by first | rfl | exact hfb) _ _ _ _ _ hS9 _ rfl rfl rfl
  have eV : Hid (VA = va) := by show _ = _; rw [← hVA.out, if_neg x16]
  have z2 : ((x : Int) == 16) = false := by rw [beq_eq_false_iff_ne]; omega
  by_cases x17 : x = 17
  · subst x17
    have eL : Hid (LE = le ++ ⟨#[120]⟩) := by show _ = _; rw [← hLE.out, if_pos rfl]
    have f9 : ¬ (9223372036854775807 < le.size + 1) := by omega
    go_upto_region 15 with fail
    rw [← eL.out]
    have hS9 := hS7.s2 LE
    generalize w7.setCell ⟨gb, 2, none⟩ (.string LE) = w9 at hS9 ⊢
    clear hS7 c0 c1 c2 c3 f0 f1 f2 f3 r0 r1 r2 r3 e0 e1 e2 e3
    obtain ⟨c0, c1, c2, c3, f0, f1, f2, f3⟩ := hS9.nb.at
    obtain ⟨r0, r1, r2, r3, e0, e1, e2, e3⟩ := hS9.rb.at
    go_wp2_with fail
    rw [eK.out, eV.out]
    exact HEnd.out _ (by first | rfl | exact hfb) _ _ _ _ _ hS9 _ rfl rfl rfl
  have eL : Hid (LE = le) := by show _ = _; rw [← hLE.out, if_neg x17]
  have z3 : ((x : Int) == 17) = false := by rw [beq_eq_false_iff_ne]; omega
  go_wp2_with fail
  rw [eK.out, eV.out, eL.out]
  exact HEnd.out _ (by first | rfl | exact hfb) _ _ _ _ _ hS7 _ rfl rfl rfl
end Go.Proofs.Ythopecgcpfhcead
