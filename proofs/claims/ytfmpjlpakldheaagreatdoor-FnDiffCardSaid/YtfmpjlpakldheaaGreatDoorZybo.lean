import Derived.Test.YtfmpjlpakldheaaGreatDoorZybn
namespace Go.Proofs.YtfmpjlpakldheaaGreatDoor
open Go.RowKit Go.Proofs.Sha

set_option maxRecDepth 100000 in
set_option maxHeartbeats 4000000 in
theorem hurt_node3 (a : Option Addr) (xs : List Nat) (cap p wd : Nat) (ss roots : List ByteArray) (x y : Nat) (_hX : Code8 xs) (_hp : p ≤ 60000) (hss : SmT ss 500 10000) (hr : SmT roots 4 32)
    (HT : ∀ w, BL a xs w → Calls Tryz.prog 41 #[.slice a xs.length cap, .int .i64 (p : Int), .int .i64 6] w fun e w' => e = .returned (.tuple #[.int .i64 (x : Int), .int .i64 ((p + 1 : Nat) : Int)]) ∧ Below w.heap.size w w') (HT2 : ∀ w, BL a xs w → Calls Tryz.prog 41 #[.slice a xs.length cap, .int .i64 ((p + 1 : Nat) : Int), .int .i64 (ss.length : Int)] w fun e w' => e = .returned (.tuple #[.int .i64 (y : Int), .int .i64 ((p + 1 + 1 : Nat) : Int)]) ∧ Below w.heap.size w w') (key l1 r1 E : ByteArray) (_hkey : key.size ≤ 70) (hE : E.size ≤ 10001) (HKy : ∀ w, BL a xs w → Calls Tryz.prog 86 #[.slice a xs.length cap, .int .i64 ((p + 1 + 1 : Nat) : Int)] w fun e w' => e = .returned (.tuple #[.string key, .int .i64 ((p + 1 + 1 + 1 : Nat) : Int)]) ∧ Below w.heap.size w w') (hl1 : hashT wd (ss.getD y ⟨#[]⟩) = l1) (HEn : Hid (∀ w', Calls Tryz.prog 98 #[.agg #[.string key, .string ⟨#[]⟩, .string l1, .string r1], .int .i64 (wd : Int)] w' fun e w'' => e = .returned (.string E) ∧ Below w'.heap.size w' w'')) (hw1 : 1 ≤ wd) (hw2 : wd ≤ 32) (HDg : Hid DigSaid) (h0 : 0 < ss.length) (hy : y < ss.length) (hx2 : x = 3) (hr1 : hashT wd (ss.getD ((y * 3 + 1) % ss.length) ⟨#[]⟩) = r1) :
    ∀ w0 w ap cp ar cr, BL a xs w0 → SArg ap ss w → OwnT w0 roots ar roots.length cr w → Calls Tryz.prog 114 #[.slice a xs.length cap, .int .i64 (p : Int), .agg #[.int .i64 (wd : Int), .slice ap ss.length cp], .slice ar roots.length cr] w (HGot (fun q => w.heap[q]?) (Value.slice ar roots.length cr).ownBlock w.heap.size wd (ss ++ [E]) (roots ++ [hashT wd E]) (p + 1 + 1 + 1) w0) := by
  intro w0 w ap cp ar cr hB hS hR
  obtain ⟨fz, hfz⟩ : ∃ fz : Nat → Option Obj, (fun q => w.heap[q]?) = fz := ⟨_, rfl⟩
  rw [hfz]
  have hfq : Hid (∀ q : Nat, w.heap[q]? = fz q) := fun q => congrFun hfz q
  clear hfz
  obtain ⟨ex, hex⟩ : ∃ ex, (Value.slice ar roots.length cr).ownBlock = ex := ⟨_, rfl⟩
  rw [hex]
  have hexh : Hid ((Value.slice ar roots.length cr).ownBlock = ex) := hex
  clear hex
  obtain ⟨gz, hgz⟩ : ∃ g, w.heap.size = g := ⟨_, rfl⟩
  rw [hgz]
  have hgzl : gz ≤ w.heap.size := Nat.le_of_eq hgz.symm
  clear hgz
  have HC : Hid (∀ w', Below w.heap.size w w' → Calls Tryz.prog 79 #[.agg #[.int .i64 (wd : Int), .slice ap ss.length cp]] w' fun e w'' => ∃ a' c', e = .returned (.agg #[.int .i64 (wd : Int), .slice a' ss.length c']) ∧ OwnT w' ss a' ss.length c' w'') := fun w' hb => copyPool_any (wd : Int) ap ss cp w' (hS.below hb)
  have hBw := hB.below hR.bel
  have HT' : Hid (∀ w', Below w.heap.size w w' → Calls Tryz.prog 41 #[.slice a xs.length cap, .int .i64 (p : Int), .int .i64 6] w' fun e w'' => e = .returned (.tuple #[.int .i64 (x : Int), .int .i64 ((p + 1 : Nat) : Int)]) ∧ Below w'.heap.size w' w'') := fun w' hb => HT w' (hBw.below hb)
  have HT2' : Hid (∀ w', Below w.heap.size w w' → Calls Tryz.prog 41 #[.slice a xs.length cap, .int .i64 ((p + 1 : Nat) : Int), .int .i64 (ss.length : Int)] w' fun e w'' => e = .returned (.tuple #[.int .i64 (y : Int), .int .i64 ((p + 1 + 1 : Nat) : Int)]) ∧ Below w'.heap.size w' w'') := fun w' hb => HT2 w' (hBw.below hb)
  clear HT HT2
  have HKy' : Hid (∀ w', Below w.heap.size w w' → Calls Tryz.prog 86 #[.slice a xs.length cap, .int .i64 ((p + 1 + 1 : Nat) : Int)] w' fun e w'' => e = .returned (.tuple #[.string key, .int .i64 ((p + 1 + 1 + 1 : Nat) : Int)]) ∧ Below w'.heap.size w' w'') := fun w' hb => HKy w' (hBw.below hb)
  clear HKy
  have hslen : ss.length ≤ 500 := hss.len
  have hrlen : roots.length ≤ 4 := hr.len
  obtain ⟨L, hLL⟩ : ∃ L, xs.length = L := ⟨_, rfl⟩
  rw [hLL] at HT' HT2' HKy' ⊢
  obtain ⟨q2, hq2⟩ : ∃ q, p + 1 + 1 = q := ⟨_, rfl⟩
  rw [hq2] at HT2' HKy' ⊢
  obtain ⟨q1, hq1⟩ : ∃ q, p + 1 = q := ⟨_, rfl⟩
  rw [hq1] at HT' HT2'
  have hqq : p ≠ q1 := by omega
  clear hq1 hLL
  obtain ⟨N, hN⟩ : ∃ N, ss.length = N := ⟨_, rfl⟩
  rw [hN] at HT2' HC hslen ⊢
  obtain ⟨R, hRn⟩ : ∃ R, roots.length = R := ⟨_, rfl⟩
  rw [hRn] at hrlen ⊢
  have hA : Below w.heap.size w ((w.alloc (.cells #[.int .i64 (wd : Int), .slice ap N cp] 37)).alloc (.cells #[.int .i64 0, .slice none 0 0] 37)) := ((Below.refl _ _).alloc (Nat.le_refl _) _).alloc (by simp) _
  have nA0 : ((w.alloc (.cells #[.int .i64 (wd : Int), .slice ap N cp] 37)).alloc (.cells #[.int .i64 0, .slice none 0 0] 37)).heap[w.heap.size]? = some (.cells #[.int .i64 (wd : Int), .slice ap N cp] 37) := (Below.heap_alloc _ _ _ (by simp)).trans (heap_alloc_new w _)
  have nA1 : ((w.alloc (.cells #[.int .i64 (wd : Int), .slice ap N cp] 37)).alloc (.cells #[.int .i64 0, .slice none 0 0] 37)).heap[w.heap.size + 1]? = some (.cells #[.int .i64 0, .slice none 0 0] 37) := by
    have := heap_alloc_new (w.alloc (.cells #[.int .i64 (wd : Int), .slice ap N cp] 37)) (.cells #[.int .i64 0, .slice none 0 0] 37)
    rw [World.size_alloc] at this
    exact this
  have hgw : w0.heap.size ≤ w.heap.size := hR.bel.size
  clear hBw hB hS
  go_enter Tryz.func114, Tryz.ntmps114
  go_upto_region 2 with fail
  generalize (w.alloc (.cells #[.int .i64 (wd : Int), .slice ap N cp] 37)).alloc (.cells #[.int .i64 0, .slice none 0 0] 37) = wA at hA nA0 nA1 ⊢
  obtain ⟨gp, hgp⟩ : ∃ g, w.heap.size = g := ⟨_, rfl⟩
  rw [hgp] at nA0 nA1 hgw
  try rw [hgp]
  have cA0 := Lib.cell_of_heap nA0 0
  have cA1 := Lib.cell_of_heap nA0 1
  go_upto_region 3 with (first | (go_at_call_of 41 (Value.int .i64 (p : Int)); refine (HT'.out _ hA).mono ?_; rintro e w1 ⟨rfl, hb1⟩; have hbw1 := hA.trans (hb1.mono hA.size)))
  have nB0 := pblk_below hb1 nA0
  have nB1 := pblk_below hb1 nA1
  clear cA0 cA1 nA0 nA1
  have cA0 := Lib.cell_of_heap nB0 0
  have cA1 := Lib.cell_of_heap nB0 1
  go_upto_region 4 with (first | (go_at_call_of 41 (Value.int .i64 (q1 : Int)); refine (HT2'.out _ hbw1).mono ?_; rintro e w2 ⟨rfl, hb2⟩; have hbw2 := hbw1.trans (hb2.mono hbw1.size)))
  have nC0 := pblk_below hb2 nB0
  have nC1 := pblk_below hb2 nB1
  clear cA0 cA1 nB0 nB1
  have cA0 := Lib.cell_of_heap nC0 0
  have cA1 := Lib.cell_of_heap nC0 1
  go_upto_region 5 with (first | (go_at_call 79; refine (HC.out _ hbw2).mono ?_; rintro e w3 ⟨ao, co, rfl, hT3⟩))
  have al3 : Below w3.heap.size w3 (w3.alloc (.cells #[.int .i64 (wd : Int), .slice ao N co] 37)) := (Below.refl _ _).alloc (Nat.le_refl _) _
  have hb23 : Below w2.heap.size w2 (w3.alloc (.cells #[.int .i64 (wd : Int), .slice ao N co] 37)) := hT3.bel.trans (al3.mono hT3.bel.size)
  have hbw4 := hbw2.trans (hb23.mono hbw2.size)
  have hH : HS fz ex w0 gp w3.heap.size wd ss ss roots ap cp ao co ar cr (w3.alloc (.cells #[.int .i64 (wd : Int), .slice ao N co] 37)) := by
    refine ⟨by rw [hN]; exact pblk_below hb23 nC0, pblk_below hb23 nC1, by rw [hN]; exact heap_alloc_new w3 _, hgw, ?_, ?_, hR.below (hgp ▸ hbw4), fun b hb he => ?_, fun q hq he => (hbw4.block q (by omega)).trans (hfq.out q), fun b hb _ => hexh.out.symm.trans hb, fun b hb => ?_⟩
    · have h1 := (Array.getElem?_eq_some_iff.1 nC1).1
      have := hT3.bel.size
      omega
    · have h1 := OwnT.up (w := w0) (hT3.below al3) (hR.bel.trans (hbw2.mono hR.bel.size))
      rw [hN]
      exact h1
    · have h1 := (ownG_cells hR.own hb).2.1
      rw [hN] at he
      have h2 := (ownG_cells hT3.own he).1
      have := hbw2.size
      omega
    · rw [hN] at hb
      have h2 := (ownG_cells hT3.own hb).1
      have := hbw2.size
      omega
  generalize w3.alloc (.cells #[.int .i64 (wd : Int), .slice ao N co] 37) = w4 at al3 hb23 hbw4 hH ⊢
  obtain ⟨g, hg⟩ : ∃ g, w3.heap.size = g := ⟨_, rfl⟩
  rw [hg] at hH
  try rw [hg]
  clear hg hT3 hb23 al3 nC0 nC1 cA0 cA1 hb1 hb2 hbw1 hbw2 HC HT' HT2' hA hqq
  have o0 := Lib.cell_of_heap hH.out 0
  have o1 := Lib.cell_of_heap hH.out 1
  rw [hN] at o1 o0
  have zN : ((N : Int) == 0) = false := by simp; omega
  have zx : decide ((x : Int) < 2) = false := by simp; omega
  have zx2 : ((x : Int) == 2) = false := by simp; omega
  have zx3 : ((x : Int) == 3) = true := by simp; omega
  have hy' : y < N := by omega
  have hx0 : (0 : Int) ≤ (y : Int) := Int.natCast_nonneg _
  have hx1 : (y : Int) < (N : Int) := by omega
  obtain ⟨b, c9, hao, hb0, hb1⟩ := hH.oown.own.form (by omega)
  simp only [Value.slice.injEq] at hao
  obtain ⟨rfl, _, rfl⟩ := hao
  have HS19 : Hid (∀ W : World, HS fz ex w0 gp g wd ss ss roots ap cp (some ⟨b, 0, none⟩) co ar cr W → W.cell? ⟨g, 1, none⟩ = some (.slice (some ⟨b, 0, none⟩) N co) ∧ W.cell? ⟨b, y, none⟩ = some (.string (ss.getD y ⟨#[]⟩)) ∧ W.cell? ⟨gp, 0, none⟩ = some (.int .i64 (wd : Int))) := fun W hW => by
    have h1 := Lib.cell_of_heap hW.out 1
    rw [hN] at h1
    refine ⟨h1, ?_, Lib.cell_of_heap hW.par 0⟩
    rw [hW.oown.own.cellAt y (by omega), List.getElem?_map, List.getElem?_eq_getElem (by omega)]
    simp [List.getD_eq_getElem?_getD, List.getElem?_eq_getElem (show y < ss.length by omega)]
  have hus := hss.getD y
  have HD1 : Hid (∀ w', Calls Tryz.prog 14 #[.string (txt (ss.getD y ⟨#[]⟩)), .int .i64 (wd : Int)] w' fun y w'' => y = .returned (.string l1) ∧ Below w'.heap.size w' w'') := fun w' => by
    have := HDg.out (txt (ss.getD y ⟨#[]⟩)) wd w' (by rw [txt_size]; omega) hw1 hw2
    rw [txt_list] at this
    rw [← hl1]
    exact this
  have HTx1 : Hid (∀ w', Calls Tryz.prog 50 #[.string (ss.getD y ⟨#[]⟩)] w' fun e w'' => e = .returned (.string (txt (ss.getD y ⟨#[]⟩))) ∧ w'' = w') := fun w' => ltxt_any _ w' (by omega)
  have HTx : Hid (∀ w', Calls Tryz.prog 50 #[.string E] w' fun y w'' => y = .returned (.string (txt E)) ∧ w'' = w') := fun w' => ltxt_any E w' (by omega)
  have HD2 : Hid (∀ w', Calls Tryz.prog 14 #[.string (txt E), .int .i64 (wd : Int)] w' fun y w'' => y = .returned (.string (hashT wd E)) ∧ Below w'.heap.size w' w'') := fun w' => by
    have := HDg.out (txt E) wd w' (by rw [txt_size]; omega) hw1 hw2
    rw [txt_list] at this
    exact this
  have hhs : (hashT wd E).size ≤ 32 := by
    have : (hashT wd E).size ≤ wd := List.length_take_le _ _
    omega
  have hysm : SmT (ss ++ [E]) (500 + 1) 10001 := SmT.app ⟨hss.len, fun x hx => by have := hss.sz x hx; omega⟩ ⟨Nat.le_refl _, fun x hx => by rw [List.mem_singleton.1 hx]; omega⟩
  have hz2 : (y * 3 + 1) % N < N := Nat.mod_lt _ (by omega)
  rw [hN] at hr1
  have yn : ¬ N = 0 := by omega
  have yr : (((y * 3 + 1 : Nat) : Int)).tmod (N : Int) = (((y * 3 + 1) % N : Nat) : Int) := by rw [Int.tmod_eq_emod_of_nonneg (by omega)]; exact (Int.natCast_emod _ _).symm
  generalize (y * 3 + 1) % N = z2 at hz2 hr1 yr
  obtain ⟨k0, hk0⟩ : ∃ k0, y * 3 = k0 := ⟨_, rfl⟩
  have ym : IntKind.i64.wrap ((y : Int) * 3) = (k0 : Int) := by rw [wrap_i64_in _ (by omega) (by omega)]; omega
  rw [hk0] at yr
  obtain ⟨k1, hk1⟩ : ∃ k1, k0 + 1 = k1 := ⟨_, rfl⟩
  have ya : IntKind.i64.wrap ((k0 : Int) + 1) = (k1 : Int) := by rw [wrap_i64_in _ (by omega) (by omega)]; omega
  rw [hk1] at yr
  clear hk0 hk1
  have hy0 : (0 : Int) ≤ (z2 : Int) := Int.natCast_nonneg _
  have hy1 : (z2 : Int) < (N : Int) := by omega
  have HS23 : Hid (∀ W : World, HS fz ex w0 gp g wd ss ss roots ap cp (some ⟨b, 0, none⟩) co ar cr W → W.cell? ⟨g, 1, none⟩ = some (.slice (some ⟨b, 0, none⟩) N co) ∧ W.cell? ⟨b, z2, none⟩ = some (.string (ss.getD z2 ⟨#[]⟩)) ∧ W.cell? ⟨gp, 0, none⟩ = some (.int .i64 (wd : Int))) := fun W hW => by
    have h1 := Lib.cell_of_heap hW.out 1
    rw [hN] at h1
    refine ⟨h1, ?_, Lib.cell_of_heap hW.par 0⟩
    rw [hW.oown.own.cellAt z2 (by omega), List.getElem?_map, List.getElem?_eq_getElem (by omega)]
    simp [List.getD_eq_getElem?_getD, List.getElem?_eq_getElem (show z2 < ss.length by omega)]
  have hus2 := hss.getD z2
  have HD3 : Hid (∀ w', Calls Tryz.prog 14 #[.string (txt (ss.getD z2 ⟨#[]⟩)), .int .i64 (wd : Int)] w' fun y w'' => y = .returned (.string r1) ∧ Below w'.heap.size w' w'') := fun w' => by
    have := HDg.out (txt (ss.getD z2 ⟨#[]⟩)) wd w' (by rw [txt_size]; omega) hw1 hw2
    rw [txt_list] at this
    rw [← hr1]
    exact this
  have HTx3 : Hid (∀ w', Calls Tryz.prog 50 #[.string (ss.getD z2 ⟨#[]⟩)] w' fun e w'' => e = .returned (.string (txt (ss.getD z2 ⟨#[]⟩))) ∧ w'' = w') := fun w' => ltxt_any _ w' (by omega)
  obtain ⟨u2, hu2⟩ : ∃ u, ss.getD z2 ⟨#[]⟩ = u := ⟨_, rfl⟩
  rw [hu2] at HS23 HD3 HTx3
  clear hr1 hus2 hu2
  generalize ss.getD y ⟨#[]⟩ = u at HS19 HD1 HTx1 hus
  obtain ⟨i0, hi0, hz0, hz1, hz2⟩ := info_parts2 info9
  have hbd : Below w4.heap.size w4 w4.drew := (Below.refl _ _).drew
  have hbw4d := hbw4.trans (hbd.mono hbw4.size)
  have hH4 := hH.below hbd
  obtain ⟨q3, hq3⟩ : ∃ q, q2 + 1 = q := ⟨_, rfl⟩
  rw [hq3] at HKy'
  go_upto_region 19 with fail
  clear hH o0 o1 hl1
  refine wp_region_held_drew (S := fun W => W.cell? ⟨g, 1, none⟩ = some (.slice (some ⟨b, 0, none⟩) N co) ∧ W.cell? ⟨b, y, none⟩ = some (.string u) ∧ W.cell? ⟨gp, 0, none⟩ = some (.int .i64 (wd : Int))) (by kernel_rfl) (HS19.out _ hH4) (fun hHeld => ?_)
  generalize w4.drew = w4d at hH4 hbw4d hHeld hbd ⊢
  refine wpAnyH_take (i := 0) (v := ?_) rfl (by kernel_rfl) (by kernel_rfl) (by kernel_rfl) (fun _ _ _ h => h) (Or.inl ⟨by rfl, ?_⟩) (by assumption) ?_
  rotate_left
  · intro w hSw; obtain ⟨s0, s1, s2⟩ := hSw; go_simp; rfl
  simp only [Act.put, List.setIfInBounds_toArray, List.set_cons_zero, List.set_cons_succ, List.getElem_toArray, List.getElem_cons_zero]
  refine wpAnyH_take (i := 1) (v := ?_) rfl (by kernel_rfl) (by kernel_rfl) (by kernel_rfl) (fun _ _ _ h => h) (Or.inl ⟨by rfl, ?_⟩) (by assumption) ?_
  rotate_left
  · intro w hSw; obtain ⟨s0, s1, s2⟩ := hSw; go_simp; rfl
  simp only [Act.put, List.setIfInBounds_toArray, List.set_cons_zero, List.set_cons_succ, List.getElem_toArray, List.getElem_cons_zero, List.getElem_cons_succ]
  refine wpAnyH_take (i := 2) (v := ?_) rfl (by kernel_rfl) (by kernel_rfl) (by kernel_rfl) (fun _ _ _ h => h) (Or.inl ⟨by rfl, ?_⟩) (by assumption) ?_
  rotate_left
  · intro w hSw; obtain ⟨s0, s1, s2⟩ := hSw; go_simp; rfl
  simp only [Act.put, List.setIfInBounds_toArray, List.set_cons_zero, List.set_cons_succ, List.getElem_toArray, List.getElem_cons_zero, List.getElem_cons_succ]
  refine wpAnyH_take (i := 3) (v := ?_) rfl (by kernel_rfl) (by kernel_rfl) (by kernel_rfl) (fun _ _ _ h => h) (Or.inl ⟨by rfl, ?_⟩) (by assumption) ?_
  rotate_left
  · intro w hSw; obtain ⟨s0, s1, s2⟩ := hSw; go_simp; rfl
  simp only [Act.put, List.setIfInBounds_toArray, List.set_cons_zero, List.set_cons_succ, List.getElem_toArray, List.getElem_cons_zero, List.getElem_cons_succ]
  refine wpAnyH_take (i := 4) (v := ?_) rfl (by kernel_rfl) (by kernel_rfl) (by kernel_rfl) (fun _ _ _ h => h) (Or.inl ⟨by rfl, ?_⟩) (by assumption) ?_
  rotate_left
  · intro w hSw; obtain ⟨s0, s1, s2⟩ := hSw; go_simp; rfl
  simp only [Act.put, List.setIfInBounds_toArray, List.set_cons_zero, List.set_cons_succ, List.getElem_toArray, List.getElem_cons_zero, List.getElem_cons_succ]
  refine wpAnyH_take (i := 6) (v := ?_) rfl (by kernel_rfl) (by kernel_rfl) (by kernel_rfl) (fun _ _ _ h => h) (Or.inl ⟨by rfl, ?_⟩) (by assumption) ?_
  rotate_left
  · intro w hSw; obtain ⟨s0, s1, s2⟩ := hSw; go_simp; rfl
  simp only [Act.put, List.setIfInBounds_toArray, List.set_cons_zero, List.set_cons_succ, List.getElem_toArray, List.getElem_cons_zero, List.getElem_cons_succ]
  refine wpAnyH_take (i := 7) (v := ?_) rfl (by kernel_rfl) (by kernel_rfl) (by kernel_rfl) (fun _ _ _ h => h) (Or.inl ⟨by rfl, ?_⟩) (by assumption) ?_
  rotate_left
  · intro w hSw; obtain ⟨s0, s1, s2⟩ := hSw; go_simp; rfl
  simp only [Act.put, List.setIfInBounds_toArray, List.set_cons_zero, List.set_cons_succ, List.getElem_toArray, List.getElem_cons_zero, List.getElem_cons_succ]
  refine wpAnyH_ready (rs := [5, 10]) (by kernel_rfl) (by simp) ?_
  refine AllReadyH.cons rfl (fun K hK => ?_) (AllReadyH.cons rfl (fun K hK => ?_) AllReadyH.nil)
  · go_simp
    refine (HTx1.out _).mono ?_
    rintro e wt ⟨rfl, hwt⟩
    subst wt
    refine hK.out _ _ (HS19.out _ hH4) (fun hHeld => ?_)
    clear hK K
    refine wpAnyH_ready (rs := [8, 10]) (by kernel_rfl) (by simp) ?_
    refine AllReadyH.cons rfl (fun K hK => ?_) (AllReadyH.cons rfl (fun K hK => ?_) AllReadyH.nil)
    · go_simp
      refine (HD1.out _).mono ?_
      rintro e w6 ⟨rfl, hbq⟩
      have hHw6 := hH4.below hbq
      refine hK.out _ _ (HS19.out _ hHw6) (fun hHeld => ?_)
      clear hK K
      refine wpAnyH_take (i := 9) (v := ?_) rfl (by kernel_rfl) (by kernel_rfl) (by kernel_rfl) (fun _ _ _ h => h) (Or.inl ⟨by rfl, ?_⟩) (by assumption) ?_
      rotate_left
      · intro w hSw; skip; go_simp; rfl
      simp only [Act.put, List.setIfInBounds_toArray, List.set_cons_zero, List.set_cons_succ, List.getElem_toArray, List.getElem_cons_zero, List.getElem_cons_succ]
      have al6 : Below w6.heap.size w6 (w6.alloc (.cells #[.string ⟨#[]⟩, .string ⟨#[]⟩, .string ⟨#[]⟩, .string ⟨#[]⟩] 128)) := (Below.refl _ _).alloc (Nat.le_refl _) _
      have hH7 := hHw6.below al6
      have nn := heap_alloc_new w6 (.cells #[.string ⟨#[]⟩, .string ⟨#[]⟩, .string ⟨#[]⟩, .string ⟨#[]⟩] 128)
      have hbF0 : Below w4d.heap.size w4d (w6.alloc (.cells #[.string ⟨#[]⟩, .string ⟨#[]⟩, .string ⟨#[]⟩, .string ⟨#[]⟩] 128)) := hbq.trans (al6.mono hbq.size)
      refine wpAnyH_ready (rs := [10]) (by kernel_rfl) (by simp) ?_
      refine AllReadyH.cons rfl (fun K hK => ?_) AllReadyH.nil
      go_simp
      refine hK.out _ _ (HS19.out _ hH7) (fun hHeld => ?_)
      clear hK K
      generalize w6.alloc (.cells #[.string ⟨#[]⟩, .string ⟨#[]⟩, .string ⟨#[]⟩, .string ⟨#[]⟩] 128) = w7 at hbF0 nn ⊢
      have hgn : w4d.heap.size ≤ w6.heap.size := hbq.size
      obtain ⟨gn, hgn'⟩ : ∃ q, w6.heap.size = q := ⟨_, rfl⟩
      rw [hgn'] at nn hgn
      try rw [hgn']
      have hNF0 : NQ gn ⟨#[]⟩ ⟨#[]⟩ ⟨#[]⟩ w7 := nn
      clear nn hgn' al6 hH7 hHw6 hbq
      have hNF := hNF0.all ⟨#[]⟩ l1 ⟨#[]⟩
      have hbF : Below w4d.heap.size w4d _ := set4_below (gn := gn) hbF0 hgn (.string ⟨#[]⟩) (.string ⟨#[]⟩) (.string l1) (.string ⟨#[]⟩)
      have hHF := hH4.below hbF
      obtain ⟨n0, n1, n2, n3, nf⟩ := hNF0.at
      refine wpAnyH_ready (rs := [11]) (by kernel_rfl) (by simp) ?_
      refine AllReadyH.cons rfl (fun K hK => ?_) AllReadyH.nil
      go_simp
      refine hK.out _ _ (HS19.out _ hHF) (fun hHeld => ?_)
      clear hK K
      refine wpAnyH_done (by kernel_rfl) ?_ _
      generalize ((((w7.setCell ⟨gn, 0, none⟩ (.string ⟨#[]⟩)).setCell ⟨gn, 1, none⟩ (.string ⟨#[]⟩)).setCell ⟨gn, 2, none⟩ (.string l1)).setCell ⟨gn, 3, none⟩ (.string ⟨#[]⟩)) = WF at hNF hbF hHF ⊢
      have hbwF := hbw4d.trans (hbF.mono hbw4d.size)
      clear n0 n1 n2 n3 nf hNF0 hbF0 hbF hHeld
      have hgn0 : w0.heap.size ≤ gn := by have := hH4.oown.bel.size; omega
      have hgpn : gp ≤ gn := by have := (Array.getElem?_eq_some_iff.1 hH4.par).1; omega
      clear hgn hH4
      go_upto_region 21 with (first | (go_at_call 86; refine (HKy'.out _ hbwF).mono ?_; rintro e wk ⟨rfl, hbk⟩))
      have hbwk := hbwF.trans (hbk.mono hbwF.size)
      have hNk := hNF.below hbk
      have hHk := hHF.below hbk
      obtain ⟨n0, n1, n2, n3, nf⟩ := hNk.at
      have hNl : NQ gn key l1 ⟨#[]⟩ (wk.setCell ⟨gn, 0, none⟩ (.string key)) := heap_setCell_same wk gn 0 _ 128 (.string key) hNk
      have hHl := hHk.setn hNk hgn0 hgpn 0 (.string key)
      clear hbwF hNF hHF hbk
      go_upto_region 22 with fail
      generalize wk.setCell ⟨gn, 0, none⟩ (.string key) = wl at hNl hHl ⊢
      clear n0 n1 n2 n3 nf hNk hHk
      have hHd := hHl.below (Below.refl wl.heap.size wl).drew
      have hNd := hNl.below (Below.refl wl.heap.size wl).drew
      clear hHl hNl
      go_upto_region 23 with fail
      refine wp_region_held_drew (S := fun W => W.cell? ⟨g, 1, none⟩ = some (.slice (some ⟨b, 0, none⟩) N co) ∧ W.cell? ⟨b, z2, none⟩ = some (.string u2) ∧ W.cell? ⟨gp, 0, none⟩ = some (.int .i64 (wd : Int))) (by kernel_rfl) (HS23.out _ hHd) (fun hHeld => ?_)
      refine wpAnyH_take (i := 0) (v := ?_) rfl (by kernel_rfl) (by kernel_rfl) (by kernel_rfl) (fun _ _ _ h => h) (Or.inl ⟨by rfl, ?_⟩) (by assumption) ?_
      rotate_left
      · intro w hSw; obtain ⟨s0, s1, s2⟩ := hSw; go_simp; rfl
      simp only [Act.put, List.setIfInBounds_toArray, List.set_cons_zero, List.set_cons_succ, List.getElem_toArray, List.getElem_cons_zero]
      refine wpAnyH_take (i := 1) (v := ?_) rfl (by kernel_rfl) (by kernel_rfl) (by kernel_rfl) (fun _ _ _ h => h) (Or.inl ⟨by rfl, ?_⟩) (by assumption) ?_
      rotate_left
      · intro w hSw; obtain ⟨s0, s1, s2⟩ := hSw; go_simp; rfl
      simp only [Act.put, List.setIfInBounds_toArray, List.set_cons_zero, List.set_cons_succ, List.getElem_toArray, List.getElem_cons_zero, List.getElem_cons_succ]
      refine wpAnyH_take (i := 2) (v := ?_) rfl (by kernel_rfl) (by kernel_rfl) (by kernel_rfl) (fun _ _ _ h => h) (Or.inl ⟨by rfl, ?_⟩) (by assumption) ?_
      rotate_left
      · intro w hSw; obtain ⟨s0, s1, s2⟩ := hSw; go_simp; rfl
      simp only [Act.put, List.setIfInBounds_toArray, List.set_cons_zero, List.set_cons_succ, List.getElem_toArray, List.getElem_cons_zero, List.getElem_cons_succ]
      refine wpAnyH_take (i := 3) (v := ?_) rfl (by kernel_rfl) (by kernel_rfl) (by kernel_rfl) (fun _ _ _ h => h) (Or.inl ⟨by rfl, ?_⟩) (by assumption) ?_
      rotate_left
      · intro w hSw; obtain ⟨s0, s1, s2⟩ := hSw; go_simp; rfl
      simp only [Act.put, List.setIfInBounds_toArray, List.set_cons_zero, List.set_cons_succ, List.getElem_toArray, List.getElem_cons_zero, List.getElem_cons_succ]
      refine wpAnyH_take (i := 4) (v := ?_) rfl (by kernel_rfl) (by kernel_rfl) (by kernel_rfl) (fun _ _ _ h => h) (Or.inl ⟨by rfl, ?_⟩) (by assumption) ?_
      rotate_left
      · intro w hSw; obtain ⟨s0, s1, s2⟩ := hSw; go_simp; rfl
      simp only [Act.put, List.setIfInBounds_toArray, List.set_cons_zero, List.set_cons_succ, List.getElem_toArray, List.getElem_cons_zero, List.getElem_cons_succ]
      refine wpAnyH_take (i := 5) (v := ?_) rfl (by kernel_rfl) (by kernel_rfl) (by kernel_rfl) (fun _ _ _ h => h) (Or.inl ⟨by rfl, ?_⟩) (by assumption) ?_
      rotate_left
      · intro w hSw; obtain ⟨s0, s1, s2⟩ := hSw; go_simp; rfl
      simp only [Act.put, List.setIfInBounds_toArray, List.set_cons_zero, List.set_cons_succ, List.getElem_toArray, List.getElem_cons_zero, List.getElem_cons_succ]
      refine wpAnyH_take (i := 6) (v := ?_) rfl (by kernel_rfl) (by kernel_rfl) (by kernel_rfl) (fun _ _ _ h => h) (Or.inl ⟨by rfl, ?_⟩) (by assumption) ?_
      rotate_left
      · intro w hSw; obtain ⟨s0, s1, s2⟩ := hSw; go_simp; rfl
      simp only [Act.put, List.setIfInBounds_toArray, List.set_cons_zero, List.set_cons_succ, List.getElem_toArray, List.getElem_cons_zero, List.getElem_cons_succ]
      refine wpAnyH_take (i := 7) (v := ?_) rfl (by kernel_rfl) (by kernel_rfl) (by kernel_rfl) (fun _ _ _ h => h) (Or.inl ⟨by rfl, ?_⟩) (by assumption) ?_
      rotate_left
      · intro w hSw; obtain ⟨s0, s1, s2⟩ := hSw; go_simp; rfl
      simp only [Act.put, List.setIfInBounds_toArray, List.set_cons_zero, List.set_cons_succ, List.getElem_toArray, List.getElem_cons_zero, List.getElem_cons_succ]
      refine wpAnyH_take (i := 8) (v := ?_) rfl (by kernel_rfl) (by kernel_rfl) (by kernel_rfl) (fun _ _ _ h => h) (Or.inl ⟨by rfl, ?_⟩) (by assumption) ?_
      rotate_left
      · intro w hSw; obtain ⟨s0, s1, s2⟩ := hSw; go_simp; rfl
      simp only [Act.put, List.setIfInBounds_toArray, List.set_cons_zero, List.set_cons_succ, List.getElem_toArray, List.getElem_cons_zero, List.getElem_cons_succ]
      refine wpAnyH_take (i := 9) (v := ?_) rfl (by kernel_rfl) (by kernel_rfl) (by kernel_rfl) (fun _ _ _ h => h) (Or.inl ⟨by rfl, ?_⟩) (by assumption) ?_
      rotate_left
      · intro w hSw; obtain ⟨s0, s1, s2⟩ := hSw; go_simp; rfl
      simp only [Act.put, List.setIfInBounds_toArray, List.set_cons_zero, List.set_cons_succ, List.getElem_toArray, List.getElem_cons_zero, List.getElem_cons_succ]
      refine wpAnyH_take (i := 10) (v := ?_) rfl (by kernel_rfl) (by kernel_rfl) (by kernel_rfl) (fun _ _ _ h => h) (Or.inl ⟨by rfl, ?_⟩) (by assumption) ?_
      rotate_left
      · intro w hSw; obtain ⟨s0, s1, s2⟩ := hSw; go_simp; rfl
      simp only [Act.put, List.setIfInBounds_toArray, List.set_cons_zero, List.set_cons_succ, List.getElem_toArray, List.getElem_cons_zero, List.getElem_cons_succ]
      refine wpAnyH_take (i := 12) (v := ?_) rfl (by kernel_rfl) (by kernel_rfl) (by kernel_rfl) (fun _ _ _ h => h) (Or.inl ⟨by rfl, ?_⟩) (by assumption) ?_
      rotate_left
      · intro w hSw; obtain ⟨s0, s1, s2⟩ := hSw; go_simp; rfl
      simp only [Act.put, List.setIfInBounds_toArray, List.set_cons_zero, List.set_cons_succ, List.getElem_toArray, List.getElem_cons_zero, List.getElem_cons_succ]
      refine wpAnyH_take (i := 13) (v := ?_) rfl (by kernel_rfl) (by kernel_rfl) (by kernel_rfl) (fun _ _ _ h => h) (Or.inl ⟨by rfl, ?_⟩) (by assumption) ?_
      rotate_left
      · intro w hSw; obtain ⟨s0, s1, s2⟩ := hSw; go_simp; rfl
      simp only [Act.put, List.setIfInBounds_toArray, List.set_cons_zero, List.set_cons_succ, List.getElem_toArray, List.getElem_cons_zero, List.getElem_cons_succ]
      refine wpAnyH_ready (rs := [11]) (by kernel_rfl) (by simp) ?_
      refine AllReadyH.cons rfl (fun K hK => ?_) AllReadyH.nil
      go_simp
      refine (HTx3.out _).mono ?_
      rintro e wt ⟨rfl, rfl⟩
      refine hK.out _ _ (HS23.out _ hHd) (fun hHeld => ?_)
      clear hK K
      refine wpAnyH_ready (rs := [14]) (by kernel_rfl) (by simp) ?_
      refine AllReadyH.cons rfl (fun K hK => ?_) AllReadyH.nil
      go_simp
      refine (HD3.out _).mono ?_
      rintro e ws ⟨rfl, hbs2⟩
      have hHs := hHd.below hbs2
      have hNs := hNd.below hbs2
      refine hK.out _ _ (HS23.out _ hHs) (fun hHeld => ?_)
      clear hK K
      refine wpAnyH_take (i := 15) (v := ?_) rfl (by kernel_rfl) (by kernel_rfl) (by kernel_rfl) (fun _ _ _ h => h) (Or.inl ⟨by rfl, ?_⟩) (by assumption) ?_
      rotate_left
      · intro w hSw; obtain ⟨s0, s1, s2⟩ := hSw; go_simp; rfl
      simp only [Act.put, List.setIfInBounds_toArray, List.set_cons_zero, List.set_cons_succ, List.getElem_toArray, List.getElem_cons_zero, List.getElem_cons_succ]
      obtain ⟨n0, n1, n2, n3, nf⟩ := hNs.at
      have hNl : NQ gn key l1 r1 (ws.setCell ⟨gn, 3, none⟩ (.string r1)) := heap_setCell_same ws gn 3 _ 128 (.string r1) hNs
      have hHl := hHs.setn hNs hgn0 hgpn 3 (.string r1)
      refine wpAnyH_ready (rs := [16]) (by kernel_rfl) (by simp) ?_
      refine AllReadyH.cons rfl (fun K hK => ?_) AllReadyH.nil
      go_simp
      refine hK.out _ _ (HS23.out _ hHl) (fun hHeld => ?_)
      clear hK K
      refine wpAnyH_done (by kernel_rfl) ?_ _
      generalize ws.setCell ⟨gn, 3, none⟩ (.string r1) = wl2 at hNl hHl ⊢
      clear n0 n1 n2 n3 nf hNs hHs hHd hNd hbs2 hHeld
      obtain ⟨n0, n1, n2, n3, nf⟩ := hNl.at
      have p0 := Lib.cell_of_heap hHl.par 0
      go_upto_region 25 with (first | (go_at_call 98; refine (HEn.out _).mono ?_; rintro e wm ⟨rfl, hbm⟩))
      have hHm := hHl.below hbm
      clear n0 n1 n2 n3 nf hHl p0 hbm hNl
      have o1 := Lib.cell_of_heap hHm.out 1
      rw [hN] at o1
      have own := hHm.oown.own
      rw [hN] at own
      have hbs := hHm.oown.bel.size
      have gf : ∀ j, wm.frozen? ⟨g, j, none⟩ = false := fun j => by rw [World.frozen?, hHm.out]; rfl
      go_upto_region 26 with (at_builtin; go_loud (refine wpList_append_lies _ rfl (.tmp 139) (.tmp 141) 35 rfl w0.heap.size 9 i0 (.string ⟨#[]⟩) 1 16 Tryz.underlying35 hi0 hz0 hz1 hz2 rfl (by decide) (.slice (some ⟨b, 0, none⟩) N co) N (ss.map Value.string) rfl (own.alloc _) ⟨wm.heap.size, 0, none⟩ 1 1 [.string E] rfl rfl (World.news_of_block (heap_alloc_new wm _)) (by simp [Value.oneCell']) (by decide) (by unfold maxLen; omega) (by omega) (by simp; omega) (wm.heap.size + 1) (by simp) ?_; intro g5 c5 w5 hown5 hgrow5 hat5 hlt5; rw [← hN] at hown5 hgrow5 hat5; obtain ⟨_, hH6, hg6⟩ := hHm.grow hown5 hgrow5 hat5; have gf6 : ∀ j, w5.frozen? ⟨g, j, none⟩ = false := fun j => (by rw [World.frozen?, hg6] <;> rfl); have q1 := Lib.cell_of_heap hg6 1; rw [hN] at hH6 q1))
      generalize w5.setCell ⟨g, 1, none⟩ (.slice (some ⟨g5, 0, none⟩) (N + 1) c5) = w6 at hH6 ⊢
      clear hHm o1 own gf hown5 hgrow5 hat5 gf6 q1 hg6 hbs
      have hyl : (ss ++ [E]).length = N + 1 := by rw [List.length_append, hN]; rfl
      have HS26 : Hid (∀ (W : World) (rs : List ByteArray) (ar : Option Addr) (cr : Nat), HS fz ex w0 gp g wd ss (ss ++ [E]) rs ap cp (some ⟨g5, 0, none⟩) c5 ar cr W → W.cell? ⟨g, 0, none⟩ = some (.int .i64 (wd : Int)) ∧ W.cell? ⟨g, 1, none⟩ = some (.slice (some ⟨g5, 0, none⟩) (N + 1) c5) ∧ W.cell? ⟨gp, 0, none⟩ = some (.int .i64 (wd : Int))) := fun W rs ar cr hW => by
        have h1 := Lib.cell_of_heap hW.out 1
        rw [hyl] at h1
        exact ⟨Lib.cell_of_heap hW.out 0, h1, Lib.cell_of_heap hW.par 0⟩
      have hbd6 : Below w6.heap.size w6 w6.drew := (Below.refl _ _).drew
      have hH7 := hH6.below hbd6
      clear hH6
      refine wp_region_held_drew (S := fun W => W.cell? ⟨g, 0, none⟩ = some (.int .i64 (wd : Int)) ∧ W.cell? ⟨g, 1, none⟩ = some (.slice (some ⟨g5, 0, none⟩) (N + 1) c5) ∧ W.cell? ⟨gp, 0, none⟩ = some (.int .i64 (wd : Int))) (by kernel_rfl) (HS26.out _ _ _ _ hH7) (fun hHeld => ?_)
      refine wpAnyH_take (i := 0) (v := ?_) rfl (by kernel_rfl) (by kernel_rfl) (by kernel_rfl) (fun _ _ _ h => h) (Or.inl ⟨by rfl, ?_⟩) (by assumption) ?_
      rotate_left
      · intro w hSw; obtain ⟨s0, s1, s2⟩ := hSw; go_simp; rfl
      simp only [Act.put, List.setIfInBounds_toArray, List.set_cons_zero, List.set_cons_succ, List.getElem_toArray, List.getElem_cons_zero]
      refine wpAnyH_take (i := 1) (v := ?_) rfl (by kernel_rfl) (by kernel_rfl) (by kernel_rfl) (fun _ _ _ h => h) (Or.inl ⟨by rfl, ?_⟩) (by assumption) ?_
      rotate_left
      · intro w hSw; obtain ⟨s0, s1, s2⟩ := hSw; go_simp; rfl
      simp only [Act.put, List.setIfInBounds_toArray, List.set_cons_zero, List.set_cons_succ, List.getElem_toArray, List.getElem_cons_zero, List.getElem_cons_succ]
      refine wpAnyH_take (i := 2) (v := ?_) rfl (by kernel_rfl) (by kernel_rfl) (by kernel_rfl) (fun _ _ _ h => h) (Or.inl ⟨by rfl, ?_⟩) (by assumption) ?_
      rotate_left
      · intro w hSw; obtain ⟨s0, s1, s2⟩ := hSw; go_simp; rfl
      simp only [Act.put, List.setIfInBounds_toArray, List.set_cons_zero, List.set_cons_succ, List.getElem_toArray, List.getElem_cons_zero, List.getElem_cons_succ]
      refine wpAnyH_take (i := 4) (v := ?_) rfl (by kernel_rfl) (by kernel_rfl) (by kernel_rfl) (fun _ _ _ h => h) (Or.inl ⟨by rfl, ?_⟩) (by assumption) ?_
      rotate_left
      · intro w hSw; obtain ⟨s0, s1, s2⟩ := hSw; go_simp; rfl
      simp only [Act.put, List.setIfInBounds_toArray, List.set_cons_zero, List.set_cons_succ, List.getElem_toArray, List.getElem_cons_zero, List.getElem_cons_succ]
      refine wpAnyH_take (i := 5) (v := ?_) rfl (by kernel_rfl) (by kernel_rfl) (by kernel_rfl) (fun _ _ _ h => h) (Or.inl ⟨by rfl, ?_⟩) (by assumption) ?_
      rotate_left
      · intro w hSw; obtain ⟨s0, s1, s2⟩ := hSw; go_simp; rfl
      simp only [Act.put, List.setIfInBounds_toArray, List.set_cons_zero, List.set_cons_succ, List.getElem_toArray, List.getElem_cons_zero, List.getElem_cons_succ]
      refine wpAnyH_take (i := 9) (v := ?_) rfl (by kernel_rfl) (by kernel_rfl) (by kernel_rfl) (fun _ _ _ h => h) (Or.inl ⟨by rfl, ?_⟩) (by assumption) ?_
      rotate_left
      · intro w hSw; obtain ⟨s0, s1, s2⟩ := hSw; go_simp; rfl
      simp only [Act.put, List.setIfInBounds_toArray, List.set_cons_zero, List.set_cons_succ, List.getElem_toArray, List.getElem_cons_zero, List.getElem_cons_succ]
      refine wpAnyH_ready (rs := [3]) (by kernel_rfl) (by simp) ?_
      refine AllReadyH.cons rfl (fun K hK => ?_) AllReadyH.nil
      go_simp
      refine (HTx.out _).mono ?_
      rintro e w7 ⟨rfl, rfl⟩
      refine hK.out _ _ (HS26.out _ _ _ _ hH7) (fun hHeld => ?_)
      clear hK K
      refine wpAnyH_ready (rs := [6]) (by kernel_rfl) (by simp) ?_
      refine AllReadyH.cons rfl (fun K hK => ?_) AllReadyH.nil
      go_simp
      refine (HD2.out _).mono ?_
      rintro e w8 ⟨rfl, hb8⟩
      have hH8 := hH7.below hb8
      refine hK.out _ _ (HS26.out _ _ _ _ hH8) (fun hHeld => ?_)
      clear hK K
      have al8 : Below w8.heap.size w8 (w8.alloc (.cells #[.string (hashT wd E)] 9)) := (Below.refl _ _).alloc (Nat.le_refl _) _
      have hH9 := hH8.below al8
      have own8 := hH8.rown.own
      rw [hRn] at own8
      have hbs8 := hH8.rown.bel.size
      refine wpAnyH_ready (rs := [7]) (by kernel_rfl) (by simp) ?_
      refine AllReadyH.cons rfl (fun K hK => ?_) AllReadyH.nil
      go_simp
      refine hK.out _ _ (HS26.out _ _ _ _ hH9) (fun hHeld => ?_)
      clear hK K
      refine wpAnyH_ready (rs := [8]) (by kernel_rfl) (by simp) ?_
      refine AllReadyH.cons rfl (fun K hK => ?_) AllReadyH.nil
      refine step_append_lies _ rfl (.tmp 145) (.tmp 151) 35 rfl w0.heap.size 9 i0 (.string ⟨#[]⟩) 1 16 Tryz.underlying35 hi0 hz0 hz1 hz2 rfl (by decide) (.slice ar R cr) R (roots.map Value.string) rfl (own8.alloc _) ⟨w8.heap.size, 0, none⟩ 1 1 [.string (hashT wd E)] rfl rfl (World.news_of_block (heap_alloc_new w8 _)) (by simp [Value.oneCell']) (by decide) (by unfold maxLen; omega) (by omega) (by simp; omega) (w8.heap.size + 1) (by simp) ?_
      intro g10 c10 w10 hown10 hgrow10 hat10 hlt10
      rw [← hRn] at hown10 hgrow10 hat10
      have hH10 := hH8.root hown10 hgrow10 hat10
      refine hK.out _ _ (HS26.out _ _ _ _ hH10) (fun hHeld => ?_)
      clear hK K hown10 hgrow10 hat10 hH8 hH9 own8
      have hfin : Hid (HGot fz ex gz wd (ss ++ [E]) (roots ++ [hashT wd E]) q3 w0 _ _) := hH10.fin (z := q3) hysm (hr.app (m := 1) ⟨Nat.le_refl _, fun x hx => by rw [List.mem_singleton.1 hx]; exact hhs⟩) (by omega) (by omega) (by omega) (by omega) (by omega)
      have hrl : (roots ++ [hashT wd E]).length = R + 1 := by rw [List.length_append, hRn]; rfl
      have m1 := hH10.m1
      rw [hyl] at hfin m1
      rw [hrl] at hfin
      have e0 := Lib.cell_of_heap hH10.res 0
      have e1 := Lib.cell_of_heap hH10.res 1
      have ef : ∀ j, w10.frozen? ⟨gp + 1, j, none⟩ = false := fun j => by rw [World.frozen?, hH10.res]; rfl
      have hSf : ((w10.setCell ⟨gp + 1, 0, none⟩ (.int .i64 (wd : Int))).setCell ⟨gp + 1, 1, none⟩ (.slice (some ⟨g5, 0, none⟩) (N + 1) c5)).cell? ⟨g, 0, none⟩ = some (.int .i64 (wd : Int)) ∧ ((w10.setCell ⟨gp + 1, 0, none⟩ (.int .i64 (wd : Int))).setCell ⟨gp + 1, 1, none⟩ (.slice (some ⟨g5, 0, none⟩) (N + 1) c5)).cell? ⟨g, 1, none⟩ = some (.slice (some ⟨g5, 0, none⟩) (N + 1) c5) ∧ ((w10.setCell ⟨gp + 1, 0, none⟩ (.int .i64 (wd : Int))).setCell ⟨gp + 1, 1, none⟩ (.slice (some ⟨g5, 0, none⟩) (N + 1) c5)).cell? ⟨gp, 0, none⟩ = some (.int .i64 (wd : Int)) := by
        have n1 := hH10.n1
        obtain ⟨q0, q1, q3⟩ := HS26.out _ _ _ _ hH10
        refine ⟨?_, ?_, ?_⟩ <;> rw [World.cell?_setCell_far _ _ _ _ (by first | (show gp + 1 ≠ g; omega) | (show gp + 1 ≠ gp; omega)), World.cell?_setCell_far _ _ _ _ (by first | (show gp + 1 ≠ g; omega) | (show gp + 1 ≠ gp; omega))] <;> assumption
      clear hH10
      refine wpAnyH_ready (rs := [10]) (by kernel_rfl) (by simp) ?_
      refine AllReadyH.cons rfl (fun K hK => ?_) AllReadyH.nil
      go_simp
      refine hK.out _ _ (hSf) (fun hHeld => ?_)
      clear hK K
      refine wpAnyH_ready (rs := [11]) (by kernel_rfl) (by simp) ?_
      refine AllReadyH.cons rfl (fun K hK => ?_) AllReadyH.nil
      go_simp
      refine hK.out _ _ (hSf) (fun hHeld => ?_)
      clear hK K
      refine wpAnyH_ready (rs := [12]) (by kernel_rfl) (by simp) ?_
      refine AllReadyH.cons rfl (fun K hK => ?_) AllReadyH.nil
      go_simp
      refine hK.out _ _ (hSf) (fun hHeld => ?_)
      clear hK K
      refine wpAnyH_done (by kernel_rfl) ?_ _
      go_wp2_with fail
      exact retPT Tryz.results114 rfl rfl rfl rfl m1 (by rw [hq3]; exact hfin.out)
    · have al5 : Below w4d.heap.size w4d (w4d.alloc (.cells #[.string ⟨#[]⟩, .string ⟨#[]⟩, .string ⟨#[]⟩, .string ⟨#[]⟩] 128)) := (Below.refl _ _).alloc (Nat.le_refl _) _
      have hH5 := hH4.below al5
      have nn := heap_alloc_new w4d (.cells #[.string ⟨#[]⟩, .string ⟨#[]⟩, .string ⟨#[]⟩, .string ⟨#[]⟩] 128)
      go_simp
      refine hK.out _ _ (HS19.out _ hH5) (fun hHeld => ?_)
      clear hK K
      generalize w4d.alloc (.cells #[.string ⟨#[]⟩, .string ⟨#[]⟩, .string ⟨#[]⟩, .string ⟨#[]⟩] 128) = w5 at al5 hH5 nn ⊢
      obtain ⟨gn, hgn'⟩ : ∃ q, w4d.heap.size = q := ⟨_, rfl⟩
      rw [hgn'] at nn
      try rw [hgn']
      have hgn : w4d.heap.size ≤ gn := Nat.le_of_eq hgn'
      have nq5 : NQ gn ⟨#[]⟩ ⟨#[]⟩ ⟨#[]⟩ w5 := nn
      clear nn hgn'
      refine wpAnyH_ready (rs := [8]) (by kernel_rfl) (by simp) ?_
      refine AllReadyH.cons rfl (fun K hK => ?_) AllReadyH.nil
      go_simp
      refine (HD1.out _).mono ?_
      rintro e w6 ⟨rfl, hbq⟩
      have hHw6 := hH5.below hbq
      refine hK.out _ _ (HS19.out _ hHw6) (fun hHeld => ?_)
      clear hK K
      refine wpAnyH_take (i := 9) (v := ?_) rfl (by kernel_rfl) (by kernel_rfl) (by kernel_rfl) (fun _ _ _ h => h) (Or.inl ⟨by rfl, ?_⟩) (by assumption) ?_
      rotate_left
      · intro w hSw; skip; go_simp; rfl
      simp only [Act.put, List.setIfInBounds_toArray, List.set_cons_zero, List.set_cons_succ, List.getElem_toArray, List.getElem_cons_zero, List.getElem_cons_succ]
      have hNF0 := nq5.below hbq
      have hbF0 : Below w4d.heap.size w4d w6 := al5.trans (hbq.mono al5.size)
      clear nq5 hHw6 hbq al5 hH5
      have hNF := hNF0.all ⟨#[]⟩ l1 ⟨#[]⟩
      have hbF : Below w4d.heap.size w4d _ := set4_below (gn := gn) hbF0 hgn (.string ⟨#[]⟩) (.string ⟨#[]⟩) (.string l1) (.string ⟨#[]⟩)
      have hHF := hH4.below hbF
      obtain ⟨n0, n1, n2, n3, nf⟩ := hNF0.at
      refine wpAnyH_ready (rs := [11]) (by kernel_rfl) (by simp) ?_
      refine AllReadyH.cons rfl (fun K hK => ?_) AllReadyH.nil
      go_simp
      refine hK.out _ _ (HS19.out _ hHF) (fun hHeld => ?_)
      clear hK K
      refine wpAnyH_done (by kernel_rfl) ?_ _
      generalize ((((w6.setCell ⟨gn, 0, none⟩ (.string ⟨#[]⟩)).setCell ⟨gn, 1, none⟩ (.string ⟨#[]⟩)).setCell ⟨gn, 2, none⟩ (.string l1)).setCell ⟨gn, 3, none⟩ (.string ⟨#[]⟩)) = WF at hNF hbF hHF ⊢
      have hbwF := hbw4d.trans (hbF.mono hbw4d.size)
      clear n0 n1 n2 n3 nf hNF0 hbF0 hbF hHeld
      have hgn0 : w0.heap.size ≤ gn := by have := hH4.oown.bel.size; omega
      have hgpn : gp ≤ gn := by have := (Array.getElem?_eq_some_iff.1 hH4.par).1; omega
      clear hgn hH4
      go_upto_region 21 with (first | (go_at_call 86; refine (HKy'.out _ hbwF).mono ?_; rintro e wk ⟨rfl, hbk⟩))
      have hbwk := hbwF.trans (hbk.mono hbwF.size)
      have hNk := hNF.below hbk
      have hHk := hHF.below hbk
      obtain ⟨n0, n1, n2, n3, nf⟩ := hNk.at
      have hNl : NQ gn key l1 ⟨#[]⟩ (wk.setCell ⟨gn, 0, none⟩ (.string key)) := heap_setCell_same wk gn 0 _ 128 (.string key) hNk
      have hHl := hHk.setn hNk hgn0 hgpn 0 (.string key)
      clear hbwF hNF hHF hbk
      go_upto_region 22 with fail
      generalize wk.setCell ⟨gn, 0, none⟩ (.string key) = wl at hNl hHl ⊢
      clear n0 n1 n2 n3 nf hNk hHk
      have hHd := hHl.below (Below.refl wl.heap.size wl).drew
      have hNd := hNl.below (Below.refl wl.heap.size wl).drew
      clear hHl hNl
      go_upto_region 23 with fail
      refine wp_region_held_drew (S := fun W => W.cell? ⟨g, 1, none⟩ = some (.slice (some ⟨b, 0, none⟩) N co) ∧ W.cell? ⟨b, z2, none⟩ = some (.string u2) ∧ W.cell? ⟨gp, 0, none⟩ = some (.int .i64 (wd : Int))) (by kernel_rfl) (HS23.out _ hHd) (fun hHeld => ?_)
      refine wpAnyH_take (i := 0) (v := ?_) rfl (by kernel_rfl) (by kernel_rfl) (by kernel_rfl) (fun _ _ _ h => h) (Or.inl ⟨by rfl, ?_⟩) (by assumption) ?_
      rotate_left
      · intro w hSw; obtain ⟨s0, s1, s2⟩ := hSw; go_simp; rfl
      simp only [Act.put, List.setIfInBounds_toArray, List.set_cons_zero, List.set_cons_succ, List.getElem_toArray, List.getElem_cons_zero]
      refine wpAnyH_take (i := 1) (v := ?_) rfl (by kernel_rfl) (by kernel_rfl) (by kernel_rfl) (fun _ _ _ h => h) (Or.inl ⟨by rfl, ?_⟩) (by assumption) ?_
      rotate_left
      · intro w hSw; obtain ⟨s0, s1, s2⟩ := hSw; go_simp; rfl
      simp only [Act.put, List.setIfInBounds_toArray, List.set_cons_zero, List.set_cons_succ, List.getElem_toArray, List.getElem_cons_zero, List.getElem_cons_succ]
      refine wpAnyH_take (i := 2) (v := ?_) rfl (by kernel_rfl) (by kernel_rfl) (by kernel_rfl) (fun _ _ _ h => h) (Or.inl ⟨by rfl, ?_⟩) (by assumption) ?_
      rotate_left
      · intro w hSw; obtain ⟨s0, s1, s2⟩ := hSw; go_simp; rfl
      simp only [Act.put, List.setIfInBounds_toArray, List.set_cons_zero, List.set_cons_succ, List.getElem_toArray, List.getElem_cons_zero, List.getElem_cons_succ]
      refine wpAnyH_take (i := 3) (v := ?_) rfl (by kernel_rfl) (by kernel_rfl) (by kernel_rfl) (fun _ _ _ h => h) (Or.inl ⟨by rfl, ?_⟩) (by assumption) ?_
      rotate_left
      · intro w hSw; obtain ⟨s0, s1, s2⟩ := hSw; go_simp; rfl
      simp only [Act.put, List.setIfInBounds_toArray, List.set_cons_zero, List.set_cons_succ, List.getElem_toArray, List.getElem_cons_zero, List.getElem_cons_succ]
      refine wpAnyH_take (i := 4) (v := ?_) rfl (by kernel_rfl) (by kernel_rfl) (by kernel_rfl) (fun _ _ _ h => h) (Or.inl ⟨by rfl, ?_⟩) (by assumption) ?_
      rotate_left
      · intro w hSw; obtain ⟨s0, s1, s2⟩ := hSw; go_simp; rfl
      simp only [Act.put, List.setIfInBounds_toArray, List.set_cons_zero, List.set_cons_succ, List.getElem_toArray, List.getElem_cons_zero, List.getElem_cons_succ]
      refine wpAnyH_take (i := 5) (v := ?_) rfl (by kernel_rfl) (by kernel_rfl) (by kernel_rfl) (fun _ _ _ h => h) (Or.inl ⟨by rfl, ?_⟩) (by assumption) ?_
      rotate_left
      · intro w hSw; obtain ⟨s0, s1, s2⟩ := hSw; go_simp; rfl
      simp only [Act.put, List.setIfInBounds_toArray, List.set_cons_zero, List.set_cons_succ, List.getElem_toArray, List.getElem_cons_zero, List.getElem_cons_succ]
      refine wpAnyH_take (i := 6) (v := ?_) rfl (by kernel_rfl) (by kernel_rfl) (by kernel_rfl) (fun _ _ _ h => h) (Or.inl ⟨by rfl, ?_⟩) (by assumption) ?_
      rotate_left
      · intro w hSw; obtain ⟨s0, s1, s2⟩ := hSw; go_simp; rfl
      simp only [Act.put, List.setIfInBounds_toArray, List.set_cons_zero, List.set_cons_succ, List.getElem_toArray, List.getElem_cons_zero, List.getElem_cons_succ]
      refine wpAnyH_take (i := 7) (v := ?_) rfl (by kernel_rfl) (by kernel_rfl) (by kernel_rfl) (fun _ _ _ h => h) (Or.inl ⟨by rfl, ?_⟩) (by assumption) ?_
      rotate_left
      · intro w hSw; obtain ⟨s0, s1, s2⟩ := hSw; go_simp; rfl
      simp only [Act.put, List.setIfInBounds_toArray, List.set_cons_zero, List.set_cons_succ, List.getElem_toArray, List.getElem_cons_zero, List.getElem_cons_succ]
      refine wpAnyH_take (i := 8) (v := ?_) rfl (by kernel_rfl) (by kernel_rfl) (by kernel_rfl) (fun _ _ _ h => h) (Or.inl ⟨by rfl, ?_⟩) (by assumption) ?_
      rotate_left
      · intro w hSw; obtain ⟨s0, s1, s2⟩ := hSw; go_simp; rfl
      simp only [Act.put, List.setIfInBounds_toArray, List.set_cons_zero, List.set_cons_succ, List.getElem_toArray, List.getElem_cons_zero, List.getElem_cons_succ]
      refine wpAnyH_take (i := 9) (v := ?_) rfl (by kernel_rfl) (by kernel_rfl) (by kernel_rfl) (fun _ _ _ h => h) (Or.inl ⟨by rfl, ?_⟩) (by assumption) ?_
      rotate_left
      · intro w hSw; obtain ⟨s0, s1, s2⟩ := hSw; go_simp; rfl
      simp only [Act.put, List.setIfInBounds_toArray, List.set_cons_zero, List.set_cons_succ, List.getElem_toArray, List.getElem_cons_zero, List.getElem_cons_succ]
      refine wpAnyH_take (i := 10) (v := ?_) rfl (by kernel_rfl) (by kernel_rfl) (by kernel_rfl) (fun _ _ _ h => h) (Or.inl ⟨by rfl, ?_⟩) (by assumption) ?_
      rotate_left
      · intro w hSw; obtain ⟨s0, s1, s2⟩ := hSw; go_simp; rfl
      simp only [Act.put, List.setIfInBounds_toArray, List.set_cons_zero, List.set_cons_succ, List.getElem_toArray, List.getElem_cons_zero, List.getElem_cons_succ]
      refine wpAnyH_take (i := 12) (v := ?_) rfl (by kernel_rfl) (by kernel_rfl) (by kernel_rfl) (fun _ _ _ h => h) (Or.inl ⟨by rfl, ?_⟩) (by assumption) ?_
      rotate_left
      · intro w hSw; obtain ⟨s0, s1, s2⟩ := hSw; go_simp; rfl
      simp only [Act.put, List.setIfInBounds_toArray, List.set_cons_zero, List.set_cons_succ, List.getElem_toArray, List.getElem_cons_zero, List.getElem_cons_succ]
      refine wpAnyH_take (i := 13) (v := ?_) rfl (by kernel_rfl) (by kernel_rfl) (by kernel_rfl) (fun _ _ _ h => h) (Or.inl ⟨by rfl, ?_⟩) (by assumption) ?_
      rotate_left
      · intro w hSw; obtain ⟨s0, s1, s2⟩ := hSw; go_simp; rfl
      simp only [Act.put, List.setIfInBounds_toArray, List.set_cons_zero, List.set_cons_succ, List.getElem_toArray, List.getElem_cons_zero, List.getElem_cons_succ]
      refine wpAnyH_ready (rs := [11]) (by kernel_rfl) (by simp) ?_
      refine AllReadyH.cons rfl (fun K hK => ?_) AllReadyH.nil
      go_simp
      refine (HTx3.out _).mono ?_
      rintro e wt ⟨rfl, rfl⟩
      refine hK.out _ _ (HS23.out _ hHd) (fun hHeld => ?_)
      clear hK K
      refine wpAnyH_ready (rs := [14]) (by kernel_rfl) (by simp) ?_
      refine AllReadyH.cons rfl (fun K hK => ?_) AllReadyH.nil
      go_simp
      refine (HD3.out _).mono ?_
      rintro e ws ⟨rfl, hbs2⟩
      have hHs := hHd.below hbs2
      have hNs := hNd.below hbs2
      refine hK.out _ _ (HS23.out _ hHs) (fun hHeld => ?_)
      clear hK K
      refine wpAnyH_take (i := 15) (v := ?_) rfl (by kernel_rfl) (by kernel_rfl) (by kernel_rfl) (fun _ _ _ h => h) (Or.inl ⟨by rfl, ?_⟩) (by assumption) ?_
      rotate_left
      · intro w hSw; obtain ⟨s0, s1, s2⟩ := hSw; go_simp; rfl
      simp only [Act.put, List.setIfInBounds_toArray, List.set_cons_zero, List.set_cons_succ, List.getElem_toArray, List.getElem_cons_zero, List.getElem_cons_succ]
      obtain ⟨n0, n1, n2, n3, nf⟩ := hNs.at
      have hNl : NQ gn key l1 r1 (ws.setCell ⟨gn, 3, none⟩ (.string r1)) := heap_setCell_same ws gn 3 _ 128 (.string r1) hNs
      have hHl := hHs.setn hNs hgn0 hgpn 3 (.string r1)
      refine wpAnyH_ready (rs := [16]) (by kernel_rfl) (by simp) ?_
      refine AllReadyH.cons rfl (fun K hK => ?_) AllReadyH.nil
      go_simp
      refine hK.out _ _ (HS23.out _ hHl) (fun hHeld => ?_)
      clear hK K
      refine wpAnyH_done (by kernel_rfl) ?_ _
      generalize ws.setCell ⟨gn, 3, none⟩ (.string r1) = wl2 at hNl hHl ⊢
      clear n0 n1 n2 n3 nf hNs hHs hHd hNd hbs2 hHeld
      obtain ⟨n0, n1, n2, n3, nf⟩ := hNl.at
      have p0 := Lib.cell_of_heap hHl.par 0
      go_upto_region 25 with (first | (go_at_call 98; refine (HEn.out _).mono ?_; rintro e wm ⟨rfl, hbm⟩))
      have hHm := hHl.below hbm
      clear n0 n1 n2 n3 nf hHl p0 hbm hNl
      have o1 := Lib.cell_of_heap hHm.out 1
      rw [hN] at o1
      have own := hHm.oown.own
      rw [hN] at own
      have hbs := hHm.oown.bel.size
      have gf : ∀ j, wm.frozen? ⟨g, j, none⟩ = false := fun j => by rw [World.frozen?, hHm.out]; rfl
      go_upto_region 26 with (at_builtin; go_loud (refine wpList_append_lies _ rfl (.tmp 139) (.tmp 141) 35 rfl w0.heap.size 9 i0 (.string ⟨#[]⟩) 1 16 Tryz.underlying35 hi0 hz0 hz1 hz2 rfl (by decide) (.slice (some ⟨b, 0, none⟩) N co) N (ss.map Value.string) rfl (own.alloc _) ⟨wm.heap.size, 0, none⟩ 1 1 [.string E] rfl rfl (World.news_of_block (heap_alloc_new wm _)) (by simp [Value.oneCell']) (by decide) (by unfold maxLen; omega) (by omega) (by simp; omega) (wm.heap.size + 1) (by simp) ?_; intro g5 c5 w5 hown5 hgrow5 hat5 hlt5; rw [← hN] at hown5 hgrow5 hat5; obtain ⟨_, hH6, hg6⟩ := hHm.grow hown5 hgrow5 hat5; have gf6 : ∀ j, w5.frozen? ⟨g, j, none⟩ = false := fun j => (by rw [World.frozen?, hg6] <;> rfl); have q1 := Lib.cell_of_heap hg6 1; rw [hN] at hH6 q1))
      generalize w5.setCell ⟨g, 1, none⟩ (.slice (some ⟨g5, 0, none⟩) (N + 1) c5) = w6 at hH6 ⊢
      clear hHm o1 own gf hown5 hgrow5 hat5 gf6 q1 hg6 hbs
      have hyl : (ss ++ [E]).length = N + 1 := by rw [List.length_append, hN]; rfl
      have HS26 : Hid (∀ (W : World) (rs : List ByteArray) (ar : Option Addr) (cr : Nat), HS fz ex w0 gp g wd ss (ss ++ [E]) rs ap cp (some ⟨g5, 0, none⟩) c5 ar cr W → W.cell? ⟨g, 0, none⟩ = some (.int .i64 (wd : Int)) ∧ W.cell? ⟨g, 1, none⟩ = some (.slice (some ⟨g5, 0, none⟩) (N + 1) c5) ∧ W.cell? ⟨gp, 0, none⟩ = some (.int .i64 (wd : Int))) := fun W rs ar cr hW => by
        have h1 := Lib.cell_of_heap hW.out 1
        rw [hyl] at h1
        exact ⟨Lib.cell_of_heap hW.out 0, h1, Lib.cell_of_heap hW.par 0⟩
      have hbd6 : Below w6.heap.size w6 w6.drew := (Below.refl _ _).drew
      have hH7 := hH6.below hbd6
      clear hH6
      refine wp_region_held_drew (S := fun W => W.cell? ⟨g, 0, none⟩ = some (.int .i64 (wd : Int)) ∧ W.cell? ⟨g, 1, none⟩ = some (.slice (some ⟨g5, 0, none⟩) (N + 1) c5) ∧ W.cell? ⟨gp, 0, none⟩ = some (.int .i64 (wd : Int))) (by kernel_rfl) (HS26.out _ _ _ _ hH7) (fun hHeld => ?_)
      refine wpAnyH_take (i := 0) (v := ?_) rfl (by kernel_rfl) (by kernel_rfl) (by kernel_rfl) (fun _ _ _ h => h) (Or.inl ⟨by rfl, ?_⟩) (by assumption) ?_
      rotate_left
      · intro w hSw; obtain ⟨s0, s1, s2⟩ := hSw; go_simp; rfl
      simp only [Act.put, List.setIfInBounds_toArray, List.set_cons_zero, List.set_cons_succ, List.getElem_toArray, List.getElem_cons_zero]
      refine wpAnyH_take (i := 1) (v := ?_) rfl (by kernel_rfl) (by kernel_rfl) (by kernel_rfl) (fun _ _ _ h => h) (Or.inl ⟨by rfl, ?_⟩) (by assumption) ?_
      rotate_left
      · intro w hSw; obtain ⟨s0, s1, s2⟩ := hSw; go_simp; rfl
      simp only [Act.put, List.setIfInBounds_toArray, List.set_cons_zero, List.set_cons_succ, List.getElem_toArray, List.getElem_cons_zero, List.getElem_cons_succ]
      refine wpAnyH_take (i := 2) (v := ?_) rfl (by kernel_rfl) (by kernel_rfl) (by kernel_rfl) (fun _ _ _ h => h) (Or.inl ⟨by rfl, ?_⟩) (by assumption) ?_
      rotate_left
      · intro w hSw; obtain ⟨s0, s1, s2⟩ := hSw; go_simp; rfl
      simp only [Act.put, List.setIfInBounds_toArray, List.set_cons_zero, List.set_cons_succ, List.getElem_toArray, List.getElem_cons_zero, List.getElem_cons_succ]
      refine wpAnyH_take (i := 4) (v := ?_) rfl (by kernel_rfl) (by kernel_rfl) (by kernel_rfl) (fun _ _ _ h => h) (Or.inl ⟨by rfl, ?_⟩) (by assumption) ?_
      rotate_left
      · intro w hSw; obtain ⟨s0, s1, s2⟩ := hSw; go_simp; rfl
      simp only [Act.put, List.setIfInBounds_toArray, List.set_cons_zero, List.set_cons_succ, List.getElem_toArray, List.getElem_cons_zero, List.getElem_cons_succ]
      refine wpAnyH_take (i := 5) (v := ?_) rfl (by kernel_rfl) (by kernel_rfl) (by kernel_rfl) (fun _ _ _ h => h) (Or.inl ⟨by rfl, ?_⟩) (by assumption) ?_
      rotate_left
      · intro w hSw; obtain ⟨s0, s1, s2⟩ := hSw; go_simp; rfl
      simp only [Act.put, List.setIfInBounds_toArray, List.set_cons_zero, List.set_cons_succ, List.getElem_toArray, List.getElem_cons_zero, List.getElem_cons_succ]
      refine wpAnyH_take (i := 9) (v := ?_) rfl (by kernel_rfl) (by kernel_rfl) (by kernel_rfl) (fun _ _ _ h => h) (Or.inl ⟨by rfl, ?_⟩) (by assumption) ?_
      rotate_left
      · intro w hSw; obtain ⟨s0, s1, s2⟩ := hSw; go_simp; rfl
      simp only [Act.put, List.setIfInBounds_toArray, List.set_cons_zero, List.set_cons_succ, List.getElem_toArray, List.getElem_cons_zero, List.getElem_cons_succ]
      refine wpAnyH_ready (rs := [3]) (by kernel_rfl) (by simp) ?_
      refine AllReadyH.cons rfl (fun K hK => ?_) AllReadyH.nil
      go_simp
      refine (HTx.out _).mono ?_
      rintro e w7 ⟨rfl, rfl⟩
      refine hK.out _ _ (HS26.out _ _ _ _ hH7) (fun hHeld => ?_)
      clear hK K
      refine wpAnyH_ready (rs := [6]) (by kernel_rfl) (by simp) ?_
      refine AllReadyH.cons rfl (fun K hK => ?_) AllReadyH.nil
      go_simp
      refine (HD2.out _).mono ?_
      rintro e w8 ⟨rfl, hb8⟩
      have hH8 := hH7.below hb8
      refine hK.out _ _ (HS26.out _ _ _ _ hH8) (fun hHeld => ?_)
      clear hK K
      have al8 : Below w8.heap.size w8 (w8.alloc (.cells #[.string (hashT wd E)] 9)) := (Below.refl _ _).alloc (Nat.le_refl _) _
      have hH9 := hH8.below al8
      have own8 := hH8.rown.own
      rw [hRn] at own8
      have hbs8 := hH8.rown.bel.size
      refine wpAnyH_ready (rs := [7]) (by kernel_rfl) (by simp) ?_
      refine AllReadyH.cons rfl (fun K hK => ?_) AllReadyH.nil
      go_simp
      refine hK.out _ _ (HS26.out _ _ _ _ hH9) (fun hHeld => ?_)
      clear hK K
      refine wpAnyH_ready (rs := [8]) (by kernel_rfl) (by simp) ?_
      refine AllReadyH.cons rfl (fun K hK => ?_) AllReadyH.nil
      refine step_append_lies _ rfl (.tmp 145) (.tmp 151) 35 rfl w0.heap.size 9 i0 (.string ⟨#[]⟩) 1 16 Tryz.underlying35 hi0 hz0 hz1 hz2 rfl (by decide) (.slice ar R cr) R (roots.map Value.string) rfl (own8.alloc _) ⟨w8.heap.size, 0, none⟩ 1 1 [.string (hashT wd E)] rfl rfl (World.news_of_block (heap_alloc_new w8 _)) (by simp [Value.oneCell']) (by decide) (by unfold maxLen; omega) (by omega) (by simp; omega) (w8.heap.size + 1) (by simp) ?_
      intro g10 c10 w10 hown10 hgrow10 hat10 hlt10
      rw [← hRn] at hown10 hgrow10 hat10
      have hH10 := hH8.root hown10 hgrow10 hat10
      refine hK.out _ _ (HS26.out _ _ _ _ hH10) (fun hHeld => ?_)
      clear hK K hown10 hgrow10 hat10 hH8 hH9 own8
      have hfin : Hid (HGot fz ex gz wd (ss ++ [E]) (roots ++ [hashT wd E]) q3 w0 _ _) := hH10.fin (z := q3) hysm (hr.app (m := 1) ⟨Nat.le_refl _, fun x hx => by rw [List.mem_singleton.1 hx]; exact hhs⟩) (by omega) (by omega) (by omega) (by omega) (by omega)
      have hrl : (roots ++ [hashT wd E]).length = R + 1 := by rw [List.length_append, hRn]; rfl
      have m1 := hH10.m1
      rw [hyl] at hfin m1
      rw [hrl] at hfin
      have e0 := Lib.cell_of_heap hH10.res 0
      have e1 := Lib.cell_of_heap hH10.res 1
      have ef : ∀ j, w10.frozen? ⟨gp + 1, j, none⟩ = false := fun j => by rw [World.frozen?, hH10.res]; rfl
      have hSf : ((w10.setCell ⟨gp + 1, 0, none⟩ (.int .i64 (wd : Int))).setCell ⟨gp + 1, 1, none⟩ (.slice (some ⟨g5, 0, none⟩) (N + 1) c5)).cell? ⟨g, 0, none⟩ = some (.int .i64 (wd : Int)) ∧ ((w10.setCell ⟨gp + 1, 0, none⟩ (.int .i64 (wd : Int))).setCell ⟨gp + 1, 1, none⟩ (.slice (some ⟨g5, 0, none⟩) (N + 1) c5)).cell? ⟨g, 1, none⟩ = some (.slice (some ⟨g5, 0, none⟩) (N + 1) c5) ∧ ((w10.setCell ⟨gp + 1, 0, none⟩ (.int .i64 (wd : Int))).setCell ⟨gp + 1, 1, none⟩ (.slice (some ⟨g5, 0, none⟩) (N + 1) c5)).cell? ⟨gp, 0, none⟩ = some (.int .i64 (wd : Int)) := by
        have n1 := hH10.n1
        obtain ⟨q0, q1, q3⟩ := HS26.out _ _ _ _ hH10
        refine ⟨?_, ?_, ?_⟩ <;> rw [World.cell?_setCell_far _ _ _ _ (by first | (show gp + 1 ≠ g; omega) | (show gp + 1 ≠ gp; omega)), World.cell?_setCell_far _ _ _ _ (by first | (show gp + 1 ≠ g; omega) | (show gp + 1 ≠ gp; omega))] <;> assumption
      clear hH10
      refine wpAnyH_ready (rs := [10]) (by kernel_rfl) (by simp) ?_
      refine AllReadyH.cons rfl (fun K hK => ?_) AllReadyH.nil
      go_simp
      refine hK.out _ _ (hSf) (fun hHeld => ?_)
      clear hK K
      refine wpAnyH_ready (rs := [11]) (by kernel_rfl) (by simp) ?_
      refine AllReadyH.cons rfl (fun K hK => ?_) AllReadyH.nil
      go_simp
      refine hK.out _ _ (hSf) (fun hHeld => ?_)
      clear hK K
      refine wpAnyH_ready (rs := [12]) (by kernel_rfl) (by simp) ?_
      refine AllReadyH.cons rfl (fun K hK => ?_) AllReadyH.nil
      go_simp
      refine hK.out _ _ (hSf) (fun hHeld => ?_)
      clear hK K
      refine wpAnyH_done (by kernel_rfl) ?_ _
      go_wp2_with fail
      exact retPT Tryz.results114 rfl rfl rfl rfl m1 (by rw [hq3]; exact hfin.out)
  · have al5 : Below w4d.heap.size w4d (w4d.alloc (.cells #[.string ⟨#[]⟩, .string ⟨#[]⟩, .string ⟨#[]⟩, .string ⟨#[]⟩] 128)) := (Below.refl _ _).alloc (Nat.le_refl _) _
    have hH5 := hH4.below al5
    have nn := heap_alloc_new w4d (.cells #[.string ⟨#[]⟩, .string ⟨#[]⟩, .string ⟨#[]⟩, .string ⟨#[]⟩] 128)
    go_simp
    refine hK.out _ _ (HS19.out _ hH5) (fun hHeld => ?_)
    clear hK K
    generalize w4d.alloc (.cells #[.string ⟨#[]⟩, .string ⟨#[]⟩, .string ⟨#[]⟩, .string ⟨#[]⟩] 128) = w5 at al5 hH5 nn ⊢
    obtain ⟨gn, hgn'⟩ : ∃ q, w4d.heap.size = q := ⟨_, rfl⟩
    rw [hgn'] at nn
    try rw [hgn']
    have hgn : w4d.heap.size ≤ gn := Nat.le_of_eq hgn'
    have nq5 : NQ gn ⟨#[]⟩ ⟨#[]⟩ ⟨#[]⟩ w5 := nn
    clear nn hgn'
    refine wpAnyH_ready (rs := [5]) (by kernel_rfl) (by simp) ?_
    refine AllReadyH.cons rfl (fun K hK => ?_) AllReadyH.nil
    go_simp
    refine (HTx1.out _).mono ?_
    rintro e wt ⟨rfl, hwt⟩
    subst wt
    refine hK.out _ _ (HS19.out _ hH5) (fun hHeld => ?_)
    clear hK K
    refine wpAnyH_ready (rs := [8]) (by kernel_rfl) (by simp) ?_
    refine AllReadyH.cons rfl (fun K hK => ?_) AllReadyH.nil
    go_simp
    refine (HD1.out _).mono ?_
    rintro e w6 ⟨rfl, hbq⟩
    have hHw6 := hH5.below hbq
    refine hK.out _ _ (HS19.out _ hHw6) (fun hHeld => ?_)
    clear hK K
    refine wpAnyH_take (i := 9) (v := ?_) rfl (by kernel_rfl) (by kernel_rfl) (by kernel_rfl) (fun _ _ _ h => h) (Or.inl ⟨by rfl, ?_⟩) (by assumption) ?_
    rotate_left
    · intro w hSw; skip; go_simp; rfl
    simp only [Act.put, List.setIfInBounds_toArray, List.set_cons_zero, List.set_cons_succ, List.getElem_toArray, List.getElem_cons_zero, List.getElem_cons_succ]
    have hNF0 := nq5.below hbq
    have hbF0 : Below w4d.heap.size w4d w6 := al5.trans (hbq.mono al5.size)
    clear nq5 hHw6 hbq al5 hH5
    have hNF := hNF0.all ⟨#[]⟩ l1 ⟨#[]⟩
    have hbF : Below w4d.heap.size w4d _ := set4_below (gn := gn) hbF0 hgn (.string ⟨#[]⟩) (.string ⟨#[]⟩) (.string l1) (.string ⟨#[]⟩)
    have hHF := hH4.below hbF
    obtain ⟨n0, n1, n2, n3, nf⟩ := hNF0.at
    refine wpAnyH_ready (rs := [11]) (by kernel_rfl) (by simp) ?_
    refine AllReadyH.cons rfl (fun K hK => ?_) AllReadyH.nil
    go_simp
    refine hK.out _ _ (HS19.out _ hHF) (fun hHeld => ?_)
    clear hK K
    refine wpAnyH_done (by kernel_rfl) ?_ _
    generalize ((((w6.setCell ⟨gn, 0, none⟩ (.string ⟨#[]⟩)).setCell ⟨gn, 1, none⟩ (.string ⟨#[]⟩)).setCell ⟨gn, 2, none⟩ (.string l1)).setCell ⟨gn, 3, none⟩ (.string ⟨#[]⟩)) = WF at hNF hbF hHF ⊢
    have hbwF := hbw4d.trans (hbF.mono hbw4d.size)
    clear n0 n1 n2 n3 nf hNF0 hbF0 hbF hHeld
    have hgn0 : w0.heap.size ≤ gn := by have := hH4.oown.bel.size; omega
    have hgpn : gp ≤ gn := by have := (Array.getElem?_eq_some_iff.1 hH4.par).1; omega
    clear hgn hH4
    go_upto_region 21 with (first | (go_at_call 86; refine (HKy'.out _ hbwF).mono ?_; rintro e wk ⟨rfl, hbk⟩))
    have hbwk := hbwF.trans (hbk.mono hbwF.size)
    have hNk := hNF.below hbk
    have hHk := hHF.below hbk
    obtain ⟨n0, n1, n2, n3, nf⟩ := hNk.at
    have hNl : NQ gn key l1 ⟨#[]⟩ (wk.setCell ⟨gn, 0, none⟩ (.string key)) := heap_setCell_same wk gn 0 _ 128 (.string key) hNk
    have hHl := hHk.setn hNk hgn0 hgpn 0 (.string key)
    clear hbwF hNF hHF hbk
    go_upto_region 22 with fail
    generalize wk.setCell ⟨gn, 0, none⟩ (.string key) = wl at hNl hHl ⊢
    clear n0 n1 n2 n3 nf hNk hHk
    have hHd := hHl.below (Below.refl wl.heap.size wl).drew
    have hNd := hNl.below (Below.refl wl.heap.size wl).drew
    clear hHl hNl
    go_upto_region 23 with fail
    refine wp_region_held_drew (S := fun W => W.cell? ⟨g, 1, none⟩ = some (.slice (some ⟨b, 0, none⟩) N co) ∧ W.cell? ⟨b, z2, none⟩ = some (.string u2) ∧ W.cell? ⟨gp, 0, none⟩ = some (.int .i64 (wd : Int))) (by kernel_rfl) (HS23.out _ hHd) (fun hHeld => ?_)
    refine wpAnyH_take (i := 0) (v := ?_) rfl (by kernel_rfl) (by kernel_rfl) (by kernel_rfl) (fun _ _ _ h => h) (Or.inl ⟨by rfl, ?_⟩) (by assumption) ?_
    rotate_left
    · intro w hSw; obtain ⟨s0, s1, s2⟩ := hSw; go_simp; rfl
    simp only [Act.put, List.setIfInBounds_toArray, List.set_cons_zero, List.set_cons_succ, List.getElem_toArray, List.getElem_cons_zero]
    refine wpAnyH_take (i := 1) (v := ?_) rfl (by kernel_rfl) (by kernel_rfl) (by kernel_rfl) (fun _ _ _ h => h) (Or.inl ⟨by rfl, ?_⟩) (by assumption) ?_
    rotate_left
    · intro w hSw; obtain ⟨s0, s1, s2⟩ := hSw; go_simp; rfl
    simp only [Act.put, List.setIfInBounds_toArray, List.set_cons_zero, List.set_cons_succ, List.getElem_toArray, List.getElem_cons_zero, List.getElem_cons_succ]
    refine wpAnyH_take (i := 2) (v := ?_) rfl (by kernel_rfl) (by kernel_rfl) (by kernel_rfl) (fun _ _ _ h => h) (Or.inl ⟨by rfl, ?_⟩) (by assumption) ?_
    rotate_left
    · intro w hSw; obtain ⟨s0, s1, s2⟩ := hSw; go_simp; rfl
    simp only [Act.put, List.setIfInBounds_toArray, List.set_cons_zero, List.set_cons_succ, List.getElem_toArray, List.getElem_cons_zero, List.getElem_cons_succ]
    refine wpAnyH_take (i := 3) (v := ?_) rfl (by kernel_rfl) (by kernel_rfl) (by kernel_rfl) (fun _ _ _ h => h) (Or.inl ⟨by rfl, ?_⟩) (by assumption) ?_
    rotate_left
    · intro w hSw; obtain ⟨s0, s1, s2⟩ := hSw; go_simp; rfl
    simp only [Act.put, List.setIfInBounds_toArray, List.set_cons_zero, List.set_cons_succ, List.getElem_toArray, List.getElem_cons_zero, List.getElem_cons_succ]
    refine wpAnyH_take (i := 4) (v := ?_) rfl (by kernel_rfl) (by kernel_rfl) (by kernel_rfl) (fun _ _ _ h => h) (Or.inl ⟨by rfl, ?_⟩) (by assumption) ?_
    rotate_left
    · intro w hSw; obtain ⟨s0, s1, s2⟩ := hSw; go_simp; rfl
    simp only [Act.put, List.setIfInBounds_toArray, List.set_cons_zero, List.set_cons_succ, List.getElem_toArray, List.getElem_cons_zero, List.getElem_cons_succ]
    refine wpAnyH_take (i := 5) (v := ?_) rfl (by kernel_rfl) (by kernel_rfl) (by kernel_rfl) (fun _ _ _ h => h) (Or.inl ⟨by rfl, ?_⟩) (by assumption) ?_
    rotate_left
    · intro w hSw; obtain ⟨s0, s1, s2⟩ := hSw; go_simp; rfl
    simp only [Act.put, List.setIfInBounds_toArray, List.set_cons_zero, List.set_cons_succ, List.getElem_toArray, List.getElem_cons_zero, List.getElem_cons_succ]
    refine wpAnyH_take (i := 6) (v := ?_) rfl (by kernel_rfl) (by kernel_rfl) (by kernel_rfl) (fun _ _ _ h => h) (Or.inl ⟨by rfl, ?_⟩) (by assumption) ?_
    rotate_left
    · intro w hSw; obtain ⟨s0, s1, s2⟩ := hSw; go_simp; rfl
    simp only [Act.put, List.setIfInBounds_toArray, List.set_cons_zero, List.set_cons_succ, List.getElem_toArray, List.getElem_cons_zero, List.getElem_cons_succ]
    refine wpAnyH_take (i := 7) (v := ?_) rfl (by kernel_rfl) (by kernel_rfl) (by kernel_rfl) (fun _ _ _ h => h) (Or.inl ⟨by rfl, ?_⟩) (by assumption) ?_
    rotate_left
    · intro w hSw; obtain ⟨s0, s1, s2⟩ := hSw; go_simp; rfl
    simp only [Act.put, List.setIfInBounds_toArray, List.set_cons_zero, List.set_cons_succ, List.getElem_toArray, List.getElem_cons_zero, List.getElem_cons_succ]
    refine wpAnyH_take (i := 8) (v := ?_) rfl (by kernel_rfl) (by kernel_rfl) (by kernel_rfl) (fun _ _ _ h => h) (Or.inl ⟨by rfl, ?_⟩) (by assumption) ?_
    rotate_left
    · intro w hSw; obtain ⟨s0, s1, s2⟩ := hSw; go_simp; rfl
    simp only [Act.put, List.setIfInBounds_toArray, List.set_cons_zero, List.set_cons_succ, List.getElem_toArray, List.getElem_cons_zero, List.getElem_cons_succ]
    refine wpAnyH_take (i := 9) (v := ?_) rfl (by kernel_rfl) (by kernel_rfl) (by kernel_rfl) (fun _ _ _ h => h) (Or.inl ⟨by rfl, ?_⟩) (by assumption) ?_
    rotate_left
    · intro w hSw; obtain ⟨s0, s1, s2⟩ := hSw; go_simp; rfl
    simp only [Act.put, List.setIfInBounds_toArray, List.set_cons_zero, List.set_cons_succ, List.getElem_toArray, List.getElem_cons_zero, List.getElem_cons_succ]
    refine wpAnyH_take (i := 10) (v := ?_) rfl (by kernel_rfl) (by kernel_rfl) (by kernel_rfl) (fun _ _ _ h => h) (Or.inl ⟨by rfl, ?_⟩) (by assumption) ?_
    rotate_left
    · intro w hSw; obtain ⟨s0, s1, s2⟩ := hSw; go_simp; rfl
    simp only [Act.put, List.setIfInBounds_toArray, List.set_cons_zero, List.set_cons_succ, List.getElem_toArray, List.getElem_cons_zero, List.getElem_cons_succ]
    refine wpAnyH_take (i := 12) (v := ?_) rfl (by kernel_rfl) (by kernel_rfl) (by kernel_rfl) (fun _ _ _ h => h) (Or.inl ⟨by rfl, ?_⟩) (by assumption) ?_
    rotate_left
    · intro w hSw; obtain ⟨s0, s1, s2⟩ := hSw; go_simp; rfl
    simp only [Act.put, List.setIfInBounds_toArray, List.set_cons_zero, List.set_cons_succ, List.getElem_toArray, List.getElem_cons_zero, List.getElem_cons_succ]
    refine wpAnyH_take (i := 13) (v := ?_) rfl (by kernel_rfl) (by kernel_rfl) (by kernel_rfl) (fun _ _ _ h => h) (Or.inl ⟨by rfl, ?_⟩) (by assumption) ?_
    rotate_left
    · intro w hSw; obtain ⟨s0, s1, s2⟩ := hSw; go_simp; rfl
    simp only [Act.put, List.setIfInBounds_toArray, List.set_cons_zero, List.set_cons_succ, List.getElem_toArray, List.getElem_cons_zero, List.getElem_cons_succ]
    refine wpAnyH_ready (rs := [11]) (by kernel_rfl) (by simp) ?_
    refine AllReadyH.cons rfl (fun K hK => ?_) AllReadyH.nil
    go_simp
    refine (HTx3.out _).mono ?_
    rintro e wt ⟨rfl, rfl⟩
    refine hK.out _ _ (HS23.out _ hHd) (fun hHeld => ?_)
    clear hK K
    refine wpAnyH_ready (rs := [14]) (by kernel_rfl) (by simp) ?_
    refine AllReadyH.cons rfl (fun K hK => ?_) AllReadyH.nil
    go_simp
    refine (HD3.out _).mono ?_
    rintro e ws ⟨rfl, hbs2⟩
    have hHs := hHd.below hbs2
    have hNs := hNd.below hbs2
    refine hK.out _ _ (HS23.out _ hHs) (fun hHeld => ?_)
    clear hK K
    refine wpAnyH_take (i := 15) (v := ?_) rfl (by kernel_rfl) (by kernel_rfl) (by kernel_rfl) (fun _ _ _ h => h) (Or.inl ⟨by rfl, ?_⟩) (by assumption) ?_
    rotate_left
    · intro w hSw; obtain ⟨s0, s1, s2⟩ := hSw; go_simp; rfl
    simp only [Act.put, List.setIfInBounds_toArray, List.set_cons_zero, List.set_cons_succ, List.getElem_toArray, List.getElem_cons_zero, List.getElem_cons_succ]
    obtain ⟨n0, n1, n2, n3, nf⟩ := hNs.at
    have hNl : NQ gn key l1 r1 (ws.setCell ⟨gn, 3, none⟩ (.string r1)) := heap_setCell_same ws gn 3 _ 128 (.string r1) hNs
    have hHl := hHs.setn hNs hgn0 hgpn 3 (.string r1)
    refine wpAnyH_ready (rs := [16]) (by kernel_rfl) (by simp) ?_
    refine AllReadyH.cons rfl (fun K hK => ?_) AllReadyH.nil
    go_simp
    refine hK.out _ _ (HS23.out _ hHl) (fun hHeld => ?_)
    clear hK K
    refine wpAnyH_done (by kernel_rfl) ?_ _
    generalize ws.setCell ⟨gn, 3, none⟩ (.string r1) = wl2 at hNl hHl ⊢
    clear n0 n1 n2 n3 nf hNs hHs hHd hNd hbs2 hHeld
    obtain ⟨n0, n1, n2, n3, nf⟩ := hNl.at
    have p0 := Lib.cell_of_heap hHl.par 0
    go_upto_region 25 with (first | (go_at_call 98; refine (HEn.out _).mono ?_; rintro e wm ⟨rfl, hbm⟩))
    have hHm := hHl.below hbm
    clear n0 n1 n2 n3 nf hHl p0 hbm hNl
    have o1 := Lib.cell_of_heap hHm.out 1
    rw [hN] at o1
    have own := hHm.oown.own
    rw [hN] at own
    have hbs := hHm.oown.bel.size
    have gf : ∀ j, wm.frozen? ⟨g, j, none⟩ = false := fun j => by rw [World.frozen?, hHm.out]; rfl
    go_upto_region 26 with (at_builtin; go_loud (refine wpList_append_lies _ rfl (.tmp 139) (.tmp 141) 35 rfl w0.heap.size 9 i0 (.string ⟨#[]⟩) 1 16 Tryz.underlying35 hi0 hz0 hz1 hz2 rfl (by decide) (.slice (some ⟨b, 0, none⟩) N co) N (ss.map Value.string) rfl (own.alloc _) ⟨wm.heap.size, 0, none⟩ 1 1 [.string E] rfl rfl (World.news_of_block (heap_alloc_new wm _)) (by simp [Value.oneCell']) (by decide) (by unfold maxLen; omega) (by omega) (by simp; omega) (wm.heap.size + 1) (by simp) ?_; intro g5 c5 w5 hown5 hgrow5 hat5 hlt5; rw [← hN] at hown5 hgrow5 hat5; obtain ⟨_, hH6, hg6⟩ := hHm.grow hown5 hgrow5 hat5; have gf6 : ∀ j, w5.frozen? ⟨g, j, none⟩ = false := fun j => (by rw [World.frozen?, hg6] <;> rfl); have q1 := Lib.cell_of_heap hg6 1; rw [hN] at hH6 q1))
    generalize w5.setCell ⟨g, 1, none⟩ (.slice (some ⟨g5, 0, none⟩) (N + 1) c5) = w6 at hH6 ⊢
    clear hHm o1 own gf hown5 hgrow5 hat5 gf6 q1 hg6 hbs
    have hyl : (ss ++ [E]).length = N + 1 := by rw [List.length_append, hN]; rfl
    have HS26 : Hid (∀ (W : World) (rs : List ByteArray) (ar : Option Addr) (cr : Nat), HS fz ex w0 gp g wd ss (ss ++ [E]) rs ap cp (some ⟨g5, 0, none⟩) c5 ar cr W → W.cell? ⟨g, 0, none⟩ = some (.int .i64 (wd : Int)) ∧ W.cell? ⟨g, 1, none⟩ = some (.slice (some ⟨g5, 0, none⟩) (N + 1) c5) ∧ W.cell? ⟨gp, 0, none⟩ = some (.int .i64 (wd : Int))) := fun W rs ar cr hW => by
      have h1 := Lib.cell_of_heap hW.out 1
      rw [hyl] at h1
      exact ⟨Lib.cell_of_heap hW.out 0, h1, Lib.cell_of_heap hW.par 0⟩
    have hbd6 : Below w6.heap.size w6 w6.drew := (Below.refl _ _).drew
    have hH7 := hH6.below hbd6
    clear hH6
    refine wp_region_held_drew (S := fun W => W.cell? ⟨g, 0, none⟩ = some (.int .i64 (wd : Int)) ∧ W.cell? ⟨g, 1, none⟩ = some (.slice (some ⟨g5, 0, none⟩) (N + 1) c5) ∧ W.cell? ⟨gp, 0, none⟩ = some (.int .i64 (wd : Int))) (by kernel_rfl) (HS26.out _ _ _ _ hH7) (fun hHeld => ?_)
    refine wpAnyH_take (i := 0) (v := ?_) rfl (by kernel_rfl) (by kernel_rfl) (by kernel_rfl) (fun _ _ _ h => h) (Or.inl ⟨by rfl, ?_⟩) (by assumption) ?_
    rotate_left
    · intro w hSw; obtain ⟨s0, s1, s2⟩ := hSw; go_simp; rfl
    simp only [Act.put, List.setIfInBounds_toArray, List.set_cons_zero, List.set_cons_succ, List.getElem_toArray, List.getElem_cons_zero]
    refine wpAnyH_take (i := 1) (v := ?_) rfl (by kernel_rfl) (by kernel_rfl) (by kernel_rfl) (fun _ _ _ h => h) (Or.inl ⟨by rfl, ?_⟩) (by assumption) ?_
    rotate_left
    · intro w hSw; obtain ⟨s0, s1, s2⟩ := hSw; go_simp; rfl
    simp only [Act.put, List.setIfInBounds_toArray, List.set_cons_zero, List.set_cons_succ, List.getElem_toArray, List.getElem_cons_zero, List.getElem_cons_succ]
    refine wpAnyH_take (i := 2) (v := ?_) rfl (by kernel_rfl) (by kernel_rfl) (by kernel_rfl) (fun _ _ _ h => h) (Or.inl ⟨by rfl, ?_⟩) (by assumption) ?_
    rotate_left
    · intro w hSw; obtain ⟨s0, s1, s2⟩ := hSw; go_simp; rfl
    simp only [Act.put, List.setIfInBounds_toArray, List.set_cons_zero, List.set_cons_succ, List.getElem_toArray, List.getElem_cons_zero, List.getElem_cons_succ]
    refine wpAnyH_take (i := 4) (v := ?_) rfl (by kernel_rfl) (by kernel_rfl) (by kernel_rfl) (fun _ _ _ h => h) (Or.inl ⟨by rfl, ?_⟩) (by assumption) ?_
    rotate_left
    · intro w hSw; obtain ⟨s0, s1, s2⟩ := hSw; go_simp; rfl
    simp only [Act.put, List.setIfInBounds_toArray, List.set_cons_zero, List.set_cons_succ, List.getElem_toArray, List.getElem_cons_zero, List.getElem_cons_succ]
    refine wpAnyH_take (i := 5) (v := ?_) rfl (by kernel_rfl) (by kernel_rfl) (by kernel_rfl) (fun _ _ _ h => h) (Or.inl ⟨by rfl, ?_⟩) (by assumption) ?_
    rotate_left
    · intro w hSw; obtain ⟨s0, s1, s2⟩ := hSw; go_simp; rfl
    simp only [Act.put, List.setIfInBounds_toArray, List.set_cons_zero, List.set_cons_succ, List.getElem_toArray, List.getElem_cons_zero, List.getElem_cons_succ]
    refine wpAnyH_take (i := 9) (v := ?_) rfl (by kernel_rfl) (by kernel_rfl) (by kernel_rfl) (fun _ _ _ h => h) (Or.inl ⟨by rfl, ?_⟩) (by assumption) ?_
    rotate_left
    · intro w hSw; obtain ⟨s0, s1, s2⟩ := hSw; go_simp; rfl
    simp only [Act.put, List.setIfInBounds_toArray, List.set_cons_zero, List.set_cons_succ, List.getElem_toArray, List.getElem_cons_zero, List.getElem_cons_succ]
    refine wpAnyH_ready (rs := [3]) (by kernel_rfl) (by simp) ?_
    refine AllReadyH.cons rfl (fun K hK => ?_) AllReadyH.nil
    go_simp
    refine (HTx.out _).mono ?_
    rintro e w7 ⟨rfl, rfl⟩
    refine hK.out _ _ (HS26.out _ _ _ _ hH7) (fun hHeld => ?_)
    clear hK K
    refine wpAnyH_ready (rs := [6]) (by kernel_rfl) (by simp) ?_
    refine AllReadyH.cons rfl (fun K hK => ?_) AllReadyH.nil
    go_simp
    refine (HD2.out _).mono ?_
    rintro e w8 ⟨rfl, hb8⟩
    have hH8 := hH7.below hb8
    refine hK.out _ _ (HS26.out _ _ _ _ hH8) (fun hHeld => ?_)
    clear hK K
    have al8 : Below w8.heap.size w8 (w8.alloc (.cells #[.string (hashT wd E)] 9)) := (Below.refl _ _).alloc (Nat.le_refl _) _
    have hH9 := hH8.below al8
    have own8 := hH8.rown.own
    rw [hRn] at own8
    have hbs8 := hH8.rown.bel.size
    refine wpAnyH_ready (rs := [7]) (by kernel_rfl) (by simp) ?_
    refine AllReadyH.cons rfl (fun K hK => ?_) AllReadyH.nil
    go_simp
    refine hK.out _ _ (HS26.out _ _ _ _ hH9) (fun hHeld => ?_)
    clear hK K
    refine wpAnyH_ready (rs := [8]) (by kernel_rfl) (by simp) ?_
    refine AllReadyH.cons rfl (fun K hK => ?_) AllReadyH.nil
    refine step_append_lies _ rfl (.tmp 145) (.tmp 151) 35 rfl w0.heap.size 9 i0 (.string ⟨#[]⟩) 1 16 Tryz.underlying35 hi0 hz0 hz1 hz2 rfl (by decide) (.slice ar R cr) R (roots.map Value.string) rfl (own8.alloc _) ⟨w8.heap.size, 0, none⟩ 1 1 [.string (hashT wd E)] rfl rfl (World.news_of_block (heap_alloc_new w8 _)) (by simp [Value.oneCell']) (by decide) (by unfold maxLen; omega) (by omega) (by simp; omega) (w8.heap.size + 1) (by simp) ?_
    intro g10 c10 w10 hown10 hgrow10 hat10 hlt10
    rw [← hRn] at hown10 hgrow10 hat10
    have hH10 := hH8.root hown10 hgrow10 hat10
    refine hK.out _ _ (HS26.out _ _ _ _ hH10) (fun hHeld => ?_)
    clear hK K hown10 hgrow10 hat10 hH8 hH9 own8
    have hfin : Hid (HGot fz ex gz wd (ss ++ [E]) (roots ++ [hashT wd E]) q3 w0 _ _) := hH10.fin (z := q3) hysm (hr.app (m := 1) ⟨Nat.le_refl _, fun x hx => by rw [List.mem_singleton.1 hx]; exact hhs⟩) (by omega) (by omega) (by omega) (by omega) (by omega)
    have hrl : (roots ++ [hashT wd E]).length = R + 1 := by rw [List.length_append, hRn]; rfl
    have m1 := hH10.m1
    rw [hyl] at hfin m1
    rw [hrl] at hfin
    have e0 := Lib.cell_of_heap hH10.res 0
    have e1 := Lib.cell_of_heap hH10.res 1
    have ef : ∀ j, w10.frozen? ⟨gp + 1, j, none⟩ = false := fun j => by rw [World.frozen?, hH10.res]; rfl
    have hSf : ((w10.setCell ⟨gp + 1, 0, none⟩ (.int .i64 (wd : Int))).setCell ⟨gp + 1, 1, none⟩ (.slice (some ⟨g5, 0, none⟩) (N + 1) c5)).cell? ⟨g, 0, none⟩ = some (.int .i64 (wd : Int)) ∧ ((w10.setCell ⟨gp + 1, 0, none⟩ (.int .i64 (wd : Int))).setCell ⟨gp + 1, 1, none⟩ (.slice (some ⟨g5, 0, none⟩) (N + 1) c5)).cell? ⟨g, 1, none⟩ = some (.slice (some ⟨g5, 0, none⟩) (N + 1) c5) ∧ ((w10.setCell ⟨gp + 1, 0, none⟩ (.int .i64 (wd : Int))).setCell ⟨gp + 1, 1, none⟩ (.slice (some ⟨g5, 0, none⟩) (N + 1) c5)).cell? ⟨gp, 0, none⟩ = some (.int .i64 (wd : Int)) := by
      have n1 := hH10.n1
      obtain ⟨q0, q1, q3⟩ := HS26.out _ _ _ _ hH10
      refine ⟨?_, ?_, ?_⟩ <;> rw [World.cell?_setCell_far _ _ _ _ (by first | (show gp + 1 ≠ g; omega) | (show gp + 1 ≠ gp; omega)), World.cell?_setCell_far _ _ _ _ (by first | (show gp + 1 ≠ g; omega) | (show gp + 1 ≠ gp; omega))] <;> assumption
    clear hH10
    refine wpAnyH_ready (rs := [10]) (by kernel_rfl) (by simp) ?_
    refine AllReadyH.cons rfl (fun K hK => ?_) AllReadyH.nil
    go_simp
    refine hK.out _ _ (hSf) (fun hHeld => ?_)
    clear hK K
    refine wpAnyH_ready (rs := [11]) (by kernel_rfl) (by simp) ?_
    refine AllReadyH.cons rfl (fun K hK => ?_) AllReadyH.nil
    go_simp
    refine hK.out _ _ (hSf) (fun hHeld => ?_)
    clear hK K
    refine wpAnyH_ready (rs := [12]) (by kernel_rfl) (by simp) ?_
    refine AllReadyH.cons rfl (fun K hK => ?_) AllReadyH.nil
    go_simp
    refine hK.out _ _ (hSf) (fun hHeld => ?_)
    clear hK K
    refine wpAnyH_done (by kernel_rfl) ?_ _
    go_wp2_with fail
    exact retPT Tryz.results114 rfl rfl rfl rfl m1 (by rw [hq3]; exact hfin.out)
end Go.Proofs.YtfmpjlpakldheaaGreatDoor
