import Derived.Test.YtgicihmdcnelaaaGreatDoorZaw
import Derived.Test.YtgicihmdcnelaaaGreatDoorZaa
import Derived.Test.YtgicihmdcnelaaaGreatDoorProg
import Derived.Deep.MidRow
namespace Go.Proofs.YtgicihmdcnelaaaGreatDoor
open Go.RowKit Go.Proofs.Sha

/-- What Save answers, as a value. -/
abbrev svV (cd n : Int) (a : Option Addr) (m c : Nat) (root x y : ByteArray) : Value := .agg #[.int .i64 cd, .int .i64 n, .slice a m c, .string root, .string x, .string y]
set_option maxRecDepth 100000 in
theorem heldPool_any (M : Nat → ByteArray) (HM : Hid (MarkSaid M)) (base m c k0 : Nat) (n : Int) (a : Option Addr) (w : World) (h : SRow w base a m c (marksV M k0 m)) (h1 : 1 ≤ k0) (h2 : k0 + m ≤ 4000000) :
    Calls Tryz.prog 44 #[.agg #[.int .i64 n, .slice a m c], .int .i64 (k0 : Int)] w fun e w' => e = .returned (.int .i64 ((k0 + m : Nat) : Int)) ∧ Below w.heap.size w w' := by
  have hA : Below w.heap.size w (w.alloc (.cells #[.int .i64 n, .slice a m c] 28)) := (Below.refl _ _).alloc (Nat.le_refl _) _
  have HH := held_s M HM base m c k0 a _ (h.below hA) h1 h2
  obtain ⟨z, hz⟩ : ∃ z : Nat, k0 + m = z := ⟨_, rfl⟩
  rw [hz] at HH ⊢
  have z1 : decide ((z : Int) < 0) = false := by rw [decide_eq_false_iff_not]; omega
  clear hz
  go_enter Tryz.func44, Tryz.ntmps44
  go_wp2_with fail
  refine HH.mono ?_
  rintro e w2 ⟨rfl, hb2⟩
  go_wp2_with fail
  go_ret
  exact ⟨rfl, hA.trans (hb2.mono hA.size)⟩
set_option maxRecDepth 100000 in
theorem heldSaved_any (cd n : Int) (a : Option Addr) (m c : Nat) (root x y : ByteArray) (k0 z : Nat) (w : World) (H : ∀ w', Below w.heap.size w w' → Calls Tryz.prog 44 #[.agg #[.int .i64 n, .slice a m c], .int .i64 (k0 : Int)] w' fun e w'' => e = .returned (.int .i64 (z : Int)) ∧ Below w'.heap.size w' w'') :
    Calls Tryz.prog 18 #[svV cd n a m c root x y, .int .i64 (k0 : Int)] w fun e w' => e = .returned (.int .i64 (z : Int)) ∧ Below w.heap.size w w' := by
  have hA : Below w.heap.size w (w.alloc (.cells #[.int .i64 cd, .int .i64 n, .slice a m c, .string root, .string x, .string y] 30)) := (Below.refl _ _).alloc (Nat.le_refl _) _
  have HH := H _ hA
  have z1 : decide ((z : Int) < 0) = false := by rw [decide_eq_false_iff_not]; omega
  clear H
  go_enter Tryz.func18, Tryz.ntmps18
  go_wp2_with fail
  refine HH.mono ?_
  rintro e w2 ⟨rfl, hb2⟩
  go_wp2_with fail
  go_ret
  exact ⟨rfl, hA.trans (hb2.mono hA.size)⟩
set_option maxRecDepth 100000 in
theorem markSaved_any (cd n : Int) (a : Option Addr) (m c : Nat) (root x y : ByteArray) (k0 z : Nat) (R : World → Prop) (w : World) (H : ∀ w', Below w.heap.size w w' → Calls Tryz.prog 15 #[.agg #[.int .i64 n, .slice a m c], .int .i64 (k0 : Int)] w' fun e w'' => e = .returned (.int .i64 (z : Int)) ∧ R w'') :
    Calls Tryz.prog 17 #[svV cd n a m c root x y, .int .i64 (k0 : Int)] w fun e w' => e = .returned (.int .i64 (z : Int)) ∧ R w' := by
  have hA : Below w.heap.size w (w.alloc (.cells #[.int .i64 cd, .int .i64 n, .slice a m c, .string root, .string x, .string y] 30)) := (Below.refl _ _).alloc (Nat.le_refl _) _
  have HH := H _ hA
  clear H
  go_enter Tryz.func17, Tryz.ntmps17
  go_wp2_with fail
  refine HH.mono ?_
  rintro e w2 ⟨rfl, hb2⟩
  go_wp2_with fail
  go_ret
  exact ⟨rfl, hb2⟩
end Go.Proofs.YtgicihmdcnelaaaGreatDoor
namespace Go.Proofs.YtgicihmdcnelaaaGreatDoor
open Go.RowKit Go.Proofs.Sha

set_option maxRecDepth 100000 in
set_option maxHeartbeats 1000000 in
theorem eqSaved_same (cd n : Int) (a a2 : Option Addr) (ss : List ByteArray) (c c2 : Nat) (root x y : ByteArray) (w : World) (h : SArg a ss w) (h2 : SArg a2 ss w) :
    Calls Tryz.prog 12 #[svV cd n a ss.length c root x y, svV cd n a2 ss.length c2 root x y] w fun e w' => e = .returned (.bool true) ∧ Below w.heap.size w w' := by
  have hA : Below w.heap.size w ((w.alloc (.cells #[.int .i64 cd, .int .i64 n, .slice a ss.length c, .string root, .string x, .string y] 30)).alloc (.cells #[.int .i64 cd, .int .i64 n, .slice a2 ss.length c2, .string root, .string x, .string y] 30)) := ((Below.refl _ _).alloc (Nat.le_refl _) _).alloc (by simp) _
  have nB := heap_alloc_new (w.alloc (.cells #[.int .i64 cd, .int .i64 n, .slice a ss.length c, .string root, .string x, .string y] 30)) (.cells #[.int .i64 cd, .int .i64 n, .slice a2 ss.length c2, .string root, .string x, .string y] 30)
  have nA := (Below.heap_alloc (w.alloc (.cells #[.int .i64 cd, .int .i64 n, .slice a ss.length c, .string root, .string x, .string y] 30)) (.cells #[.int .i64 cd, .int .i64 n, .slice a2 ss.length c2, .string root, .string x, .string y] 30) w.heap.size (by simp)).trans (heap_alloc_new w _)
  rw [World.size_alloc] at nB
  have HE := eqPool_same n a a2 ss c c2 _ (h.below hA) (h2.below hA)
  have q1 : (cd != cd) = false := by simp
  have q2 : (root.toList != root.toList) = false := by simp
  have q3 : (x.toList != x.toList) = false := by simp
  have q4 : (y.toList != y.toList) = false := by simp
  clear h h2
  go_enter Tryz.func12, Tryz.ntmps12
  go_wp2_with fail
  refine HE.mono ?_
  rintro e w2 ⟨rfl, hb2⟩
  have nA2 := (hb2.block w.heap.size (Array.getElem?_eq_some_iff.1 nA).1).trans nA
  have nB2 := (hb2.block (w.heap.size + 1) (Array.getElem?_eq_some_iff.1 nB).1).trans nB
  have a3 := Lib.cell_of_heap nA2 3
  have a4 := Lib.cell_of_heap nA2 4
  have a5 := Lib.cell_of_heap nA2 5
  have b3 := Lib.cell_of_heap nB2 3
  have b4 := Lib.cell_of_heap nB2 4
  have b5 := Lib.cell_of_heap nB2 5
  have hbf := hA.trans (hb2.mono hA.size)
  clear nA nB nA2 nB2 hA hb2
  go_wp2_with fail
  go_ret
  exact ⟨rfl, hbf⟩
end Go.Proofs.YtgicihmdcnelaaaGreatDoor
namespace Go.Proofs.YtgicihmdcnelaaaGreatDoor
open Go.RowKit Go.Proofs.Sha

/-- A saving's block. -/
def SVb (gs so sa : Nat) (cd : Int) (x y : ByteArray) (w : World) : Prop := w.heap[gs]? = some (.cells #[.pointer (some ⟨so, 0, none⟩), .pointer (some ⟨sa, 0, none⟩), .int .i64 cd, .string x, .string y] 89)
theorem SVb.below {gs so sa : Nat} {cd : Int} {x y : ByteArray} {w w' : World} (h : SVb gs so sa cd x y w) (hb : Below w.heap.size w w') : SVb gs so sa cd x y w' := (hb.block gs (Array.getElem?_eq_some_iff.1 h).1).trans h
/-- The first encoding of a hash, in the old stock or in what is added. -/
def fst2 (wd : Nat) (ss ad : List ByteArray) (hash : ByteArray) : Option ByteArray := (firstI (hitB wd (ss ++ ad) hash) (ss.length + ad.length)).map fun i => (ss ++ ad).getD i ⟨#[]⟩
theorem fst2_old {wd : Nat} {ss ad : List ByteArray} {hash : ByteArray} {i : Nat} (h : firstI (hitB wd ss hash) ss.length = some i) : fst2 wd ss ad hash = some (ss.getD i ⟨#[]⟩) := by
  unfold fst2
  rw [firstI_two, h]
  simp only [Option.map_some, List.getD_eq_getElem?_getD, List.getElem?_append_left (firstI_lt h)]
theorem fst2_new {wd : Nat} {ss ad : List ByteArray} {hash : ByteArray} (h : firstI (hitB wd ss hash) ss.length = none) : fst2 wd ss ad hash = (firstI (hitB wd ad hash) ad.length).map fun i => ad.getD i ⟨#[]⟩ := by
  unfold fst2
  rw [firstI_two, h]
  cases firstI (hitB wd ad hash) ad.length with
  | none => rfl
  | some i => simp only [Option.map_some, List.getD_eq_getElem?_getD, List.getElem?_append_right (Nat.le_add_right ..), Nat.add_sub_cancel_left]
def encO : Option ByteArray → ByteArray
  | some e => e
  | none => ⟨#[]⟩
set_option maxRecDepth 100000 in
set_option maxHeartbeats 1000000 in
theorem savFirst_any (gs so sa : Nat) (cd : Int) (x y : ByteArray) (wd : Nat) (ss ad : List ByteArray) (hash : ByteArray) (w : World) (hg : SVb gs so sa cd x y w)
    (H1 : Hid (∀ w', Below w.heap.size w w' → ∀ fx, firstI (hitB wd ss hash) ss.length = fx → Calls Tryz.prog 120 #[.pointer (some ⟨so, 0, none⟩), .string hash] w' fun e w'' => e = .returned (.tuple #[.string (encAt ss fx), .bool fx.isSome]) ∧ Below w'.heap.size w' w''))
    (H2 : Hid (∀ w', Below w.heap.size w w' → ∀ fx, firstI (hitB wd ad hash) ad.length = fx → Calls Tryz.prog 120 #[.pointer (some ⟨sa, 0, none⟩), .string hash] w' fun e w'' => e = .returned (.tuple #[.string (encAt ad fx), .bool fx.isSome]) ∧ Below w'.heap.size w' w'')) :
    Calls Tryz.prog 103 #[.pointer (some ⟨gs, 0, none⟩), .string hash] w fun e w' => e = .returned (.tuple #[.string (encO (fst2 wd ss ad hash)), .bool (fst2 wd ss ad hash).isSome]) ∧ Below w.heap.size w w' := by
  have c0 := Lib.cell_of_heap hg 0
  cases hf : firstI (hitB wd ss hash) ss.length with
  | some i =>
    rw [fst2_old hf]
    have HA := H1.out w (Below.refl _ _) _ hf
    have e1 : encAt ss (some i) = ss.getD i ⟨#[]⟩ := rfl
    have e2 : encO (some (ss.getD i ⟨#[]⟩)) = ss.getD i ⟨#[]⟩ := rfl
    rw [e1] at HA
    rw [e2]
    have hs1 : (some i).isSome = true := rfl
    have hs2 : (some (ss.getD i ⟨#[]⟩)).isSome = true := rfl
    rw [hs1] at HA
    rw [hs2]
    generalize ss.getD i ⟨#[]⟩ = u at HA ⊢
    clear H1 H2 hf e1 e2 hs1 hs2
    go_enter Tryz.func103, Tryz.ntmps103
    go_wp2_with fail
    refine HA.mono ?_
    rintro e w1 ⟨rfl, hb1⟩
    go_wp2_with fail
    go_ret2
    exact ⟨rfl, hb1⟩
  | none =>
    rw [fst2_new hf]
    have HA := H1.out w (Below.refl _ _) _ hf
    obtain ⟨fx, hfx⟩ : ∃ fx, firstI (hitB wd ad hash) ad.length = fx := ⟨_, rfl⟩
    rw [hfx]
    have HB : Hid (∀ w', Below w.heap.size w w' → Calls Tryz.prog 120 #[.pointer (some ⟨sa, 0, none⟩), .string hash] w' fun e w'' => e = .returned (.tuple #[.string (encAt ad fx), .bool fx.isSome]) ∧ Below w'.heap.size w' w'') := fun w' hb => H2.out w' hb fx hfx
    have he : Hid (encO (fx.map fun i => ad.getD i ⟨#[]⟩) = encAt ad fx ∧ (fx.map fun i => ad.getD i ⟨#[]⟩).isSome = fx.isSome) := by cases fx <;> exact ⟨rfl, rfl⟩
    rw [he.out.1, he.out.2]
    have e0 : encAt ss none = ⟨#[]⟩ := rfl
    have e1 : (none : Option Nat).isSome = false := rfl
    rw [e0, e1] at HA
    generalize encAt ad fx = u at HB ⊢
    generalize fx.isSome = v at HB ⊢
    clear H1 H2 hf he hfx e0 e1
    go_enter Tryz.func103, Tryz.ntmps103
    go_wp2_with fail
    refine HA.mono ?_
    rintro e w1 ⟨rfl, hb1⟩
    have c1 := Lib.cell_of_heap (hg.below hb1) 1
    go_wp2_with fail
    refine (HB.out _ hb1).mono ?_
    rintro e w2 ⟨rfl, hb2⟩
    go_wp2_with fail
    go_ret2
    exact ⟨rfl, hb1.trans (hb2.mono hb1.size)⟩
end Go.Proofs.YtgicihmdcnelaaaGreatDoor
namespace Go.Proofs.YtgicihmdcnelaaaGreatDoor
open Go.RowKit Go.Proofs.Sha

set_option maxRecDepth 100000 in
set_option maxHeartbeats 1000000 in
theorem savTake_same (gs tb : Nat) (enc hash : ByteArray) (w : World) (ht : tb < w.heap.size) (c37 : w.cell? ⟨tb, 37, none⟩ = some (.string enc)) (c38 : w.cell? ⟨tb, 38, none⟩ = some (.string hash))
    (HF : Hid (∀ w', Below w.heap.size w w' → Calls Tryz.prog 103 #[.pointer (some ⟨gs, 0, none⟩), .string hash] w' fun e w'' => e = .returned (.tuple #[.string enc, .bool true]) ∧ Below w'.heap.size w' w'')) :
    Calls Tryz.prog 86 #[.pointer (some ⟨gs, 0, none⟩), .pointer (some ⟨tb, 0, none⟩)] w fun e w' => e = .returned (.bool true) ∧ Below w.heap.size w w' := by
  have z1 : (enc.toList == enc.toList) = true := by simp
  go_enter Tryz.func86, Tryz.ntmps86
  go_wp2_with fail
  refine (HF.out _ (Below.refl _ _)).mono ?_
  rintro e w1 ⟨rfl, hb1⟩
  have d37 := (hb1.cell (p := ⟨tb, 37, none⟩) ht).trans c37
  go_wp2_with fail
  go_ret
  exact ⟨rfl, hb1⟩
set_option maxRecDepth 100000 in
set_option maxHeartbeats 1000000 in
theorem savTake_clash (gs so sa tb : Nat) (x y enc hash u : ByteArray) (w : World) (hg : SVb gs so sa 0 x y w) (ht : tb < w.heap.size) (c37 : w.cell? ⟨tb, 37, none⟩ = some (.string enc)) (c38 : w.cell? ⟨tb, 38, none⟩ = some (.string hash)) (hne : u ≠ enc) (hts : tb ≠ gs) (T1 T2 : ByteArray)
    (HT1 : Hid (∀ w', Calls Tryz.prog 104 #[.string u] w' fun e w'' => e = .returned (.string T1) ∧ Below w'.heap.size w' w''))
    (HT2 : Hid (∀ w', Calls Tryz.prog 104 #[.string enc] w' fun e w'' => e = .returned (.string T2) ∧ Below w'.heap.size w' w''))
    (HF : Hid (∀ w', Below w.heap.size w w' → Calls Tryz.prog 103 #[.pointer (some ⟨gs, 0, none⟩), .string hash] w' fun e w'' => e = .returned (.tuple #[.string u, .bool true]) ∧ Below w'.heap.size w' w'')) :
    Calls Tryz.prog 86 #[.pointer (some ⟨gs, 0, none⟩), .pointer (some ⟨tb, 0, none⟩)] w fun e w' => e = .returned (.bool false) ∧ SVb gs so sa 4 T1 T2 w' ∧ Fr w.heap.size (fun q => q = gs) w w' := by
  have z1 : (u.toList == enc.toList) = false := by rw [ba_eq, decide_eq_false hne]
  go_enter Tryz.func86, Tryz.ntmps86
  go_wp2_with fail
  refine (HF.out _ (Below.refl _ _)).mono ?_
  rintro e w1 ⟨rfl, hb1⟩
  have d37 := (hb1.cell (p := ⟨tb, 37, none⟩) ht).trans c37
  have g1 := hg.below hb1
  have HS : Hid (∀ W', Below w1.heap.size w1 W' → W'.cell? ⟨tb, 37, none⟩ = some (.string enc)) := fun W' hW' => (hW'.cell (p := ⟨tb, 37, none⟩) (Nat.lt_of_lt_of_le ht hb1.size)).trans d37
  have HK : Hid (∀ (W' : World) (o : Nat) (v : Value), tb < W'.heap.size → W'.cell? ⟨tb, 37, none⟩ = some (.string enc) → (W'.setCell ⟨gs, o, none⟩ v).cell? ⟨tb, 37, none⟩ = some (.string enc)) := fun W' o v hl hc => ((grownBy_setCell W' gs o v).cell_far ⟨tb, 37, none⟩ hl (by intro e; exact hts (Option.some.inj e))).trans hc
  have HG : Hid (∀ W', Below w1.heap.size w1 W' → tb < W'.heap.size ∧ W'.cell? ⟨gs, 2, none⟩ = some (.int .i64 0) ∧ W'.cell? ⟨gs, 3, none⟩ = some (.string x) ∧ W'.cell? ⟨gs, 4, none⟩ = some (.string y) ∧ (∀ j, W'.frozen? ⟨gs, j, none⟩ = false) ∧ SVb gs so sa 0 x y W') := fun W' hW' => by
    have g2 := g1.below hW'
    exact ⟨Nat.lt_of_lt_of_le ht (Nat.le_trans hb1.size hW'.size), Lib.cell_of_heap g2 2, Lib.cell_of_heap g2 3, Lib.cell_of_heap g2 4, fun j => by rw [World.frozen?, show W'.heap[gs]? = _ from g2]; rfl, g2⟩
  have hd1 : Below w1.heap.size w1 w1.drew := (Below.refl _ _).drew
  go_upto_region 6 with fail
  go_region_held3 (fun W => W.cell? ⟨tb, 37, none⟩ = some (.string enc)) (first | exact d37 | exact HS.out _ hb2' | exact HS.out _ hb3' | exact HK.out _ _ _ hl3 (HS.out _ hb3') | exact HK.out _ _ _ (by simpa using hl3) (HK.out _ _ _ hl3 (HS.out _ hb3')) | exact HK.out _ _ _ (by simpa using hl3) (HK.out _ _ _ (by simpa using hl3) (HK.out _ _ _ hl3 (HS.out _ hb3')))) (first | (go_at_call_of 104 (Value.string u); refine (HT1.out _).mono ?_; rintro e w2 ⟨rfl, hb2⟩; have hb2' := hd1.trans hb2) | (go_at_call_of 104 (Value.string enc); refine (HT2.out _).mono ?_; rintro e w3 ⟨rfl, hb3⟩; have hb3' := hb2'.trans (hb3.mono hb2'.size); obtain ⟨hl3, k2, k3, k4, kf, g3⟩ := HG.out _ hb3'))
  have g4 : SVb gs so sa 4 T1 T2 (((w3.setCell ⟨gs, 2, none⟩ (.int .i64 4)).setCell ⟨gs, 3, none⟩ (.string T1)).setCell ⟨gs, 4, none⟩ (.string T2)) := heap_setCell_same _ gs 4 _ 89 (.string T2) (heap_setCell_same _ gs 3 _ 89 (.string T1) (heap_setCell_same _ gs 2 _ 89 (.int .i64 4) g3))
  have f4 : Fr w.heap.size (fun q => q = gs) w (((w3.setCell ⟨gs, 2, none⟩ (.int .i64 4)).setCell ⟨gs, 3, none⟩ (.string T1)).setCell ⟨gs, 4, none⟩ (.string T2)) := (((Fr.of_below (hb1.trans (hb3'.mono hb1.size))).step (Fr.set1 _ 2 _)).step (Fr.set1 _ 3 _)).step (Fr.set1 _ 4 _)
  generalize ((w3.setCell ⟨gs, 2, none⟩ (.int .i64 4)).setCell ⟨gs, 3, none⟩ (.string T1)).setCell ⟨gs, 4, none⟩ (.string T2) = W4 at g4 f4 ⊢
  have r2 := Lib.cell_of_heap g4 2
  go_wp2_with fail
  go_ret
  exact ⟨rfl, g4, f4⟩
end Go.Proofs.YtgicihmdcnelaaaGreatDoor
namespace Go.Proofs.YtgicihmdcnelaaaGreatDoor
open Go.RowKit Go.Proofs.Sha

set_option maxRecDepth 100000 in
set_option maxHeartbeats 1000000 in
theorem savTake_full (gs so sa tb : Nat) (x y enc hash : ByteArray) (a1 a2 : Option Addr) (n1 n2 c1 c2 : Nat) (v1 v2 v3 v4 : Value) (w : World) (hg : SVb gs so sa 0 x y w) (ht : tb < w.heap.size) (c37 : w.cell? ⟨tb, 37, none⟩ = some (.string enc)) (c38 : w.cell? ⟨tb, 38, none⟩ = some (.string hash))
    (ho : w.heap[so]? = some (.cells #[.slice a1 n1 c1, v1, v2] 95)) (ha : w.heap[sa]? = some (.cells #[.slice a2 n2 c2, v3, v4] 95)) (hn1 : n1 ≤ 1048576) (hn2 : n2 ≤ 1048576) (hfull : 20000 ≤ n1 + n2)
    (HF : Hid (∀ w', Below w.heap.size w w' → Calls Tryz.prog 103 #[.pointer (some ⟨gs, 0, none⟩), .string hash] w' fun e w'' => e = .returned (.tuple #[.string ⟨#[]⟩, .bool false]) ∧ Below w'.heap.size w' w'')) :
    Calls Tryz.prog 86 #[.pointer (some ⟨gs, 0, none⟩), .pointer (some ⟨tb, 0, none⟩)] w fun e w' => e = .returned (.bool false) ∧ SVb gs so sa 1 x y w' ∧ Fr w.heap.size (fun q => q = gs) w w' := by
  have z1 : decide ((20000 : Int) ≤ (n1 : Int) + (n2 : Int)) = true := by rw [decide_eq_true_eq]; omega
  have z2 : ((n1 : Int) + (n2 : Int) ≥ 20000) := by omega
  go_enter Tryz.func86, Tryz.ntmps86
  go_wp2_with fail
  refine (HF.out _ (Below.refl _ _)).mono ?_
  rintro e w1 ⟨rfl, hb1⟩
  have d37 := (hb1.cell (p := ⟨tb, 37, none⟩) ht).trans c37
  have g1 := hg.below hb1
  have o1 := (hb1.block so (Array.getElem?_eq_some_iff.1 ho).1).trans ho
  have a1' := (hb1.block sa (Array.getElem?_eq_some_iff.1 ha).1).trans ha
  have q0 := Lib.cell_of_heap g1 0
  have q1 := Lib.cell_of_heap g1 1
  have q2 := Lib.cell_of_heap g1 2
  have qo := Lib.cell_of_heap o1 0
  have qa := Lib.cell_of_heap a1' 0
  have fz : ∀ j, w1.frozen? ⟨gs, j, none⟩ = false := fun j => by rw [World.frozen?, show w1.heap[gs]? = _ from g1]; rfl
  have hwr : IntKind.i64.wrap ((n1 : Int) + (n2 : Int)) = (n1 : Int) + (n2 : Int) := wrapI_in _ (by omega)
  go_upto_region 7 with fail
  go_region_held3 (fun W => W.cell? ⟨gs, 0, none⟩ = some (.pointer (some ⟨so, 0, none⟩)) ∧ W.cell? ⟨gs, 1, none⟩ = some (.pointer (some ⟨sa, 0, none⟩)) ∧ W.cell? ⟨so, 0, none⟩ = some (.slice a1 n1 c1) ∧ W.cell? ⟨sa, 0, none⟩ = some (.slice a2 n2 c2)) (exact ⟨q0, q1, qo, qa⟩) (fail)
  go_wp2_with fail
  go_ret
  exact ⟨rfl, heap_setCell_same _ gs 2 _ 89 (.int .i64 1) g1, (Fr.of_below hb1.drew).step (Fr.set1 _ 2 _)⟩
end Go.Proofs.YtgicihmdcnelaaaGreatDoor
namespace Go.Proofs.YtgicihmdcnelaaaGreatDoor
open Go.RowKit Go.Proofs.Sha

set_option maxRecDepth 100000 in
set_option maxHeartbeats 1000000 in
theorem savTake_add (gs so sa tb : Nat) (x y enc hash : ByteArray) (a1 a2 : Option Addr) (n1 n2 c1 c2 : Nat) (v1 v2 v3 v4 : Value) (w : World) (hg : SVb gs so sa 0 x y w) (ht : tb < w.heap.size) (c37 : w.cell? ⟨tb, 37, none⟩ = some (.string enc)) (c38 : w.cell? ⟨tb, 38, none⟩ = some (.string hash))
    (ho : w.heap[so]? = some (.cells #[.slice a1 n1 c1, v1, v2] 95)) (ha : w.heap[sa]? = some (.cells #[.slice a2 n2 c2, v3, v4] 95)) (hn1 : n1 ≤ 1048576) (hn2 : n2 ≤ 1048576) (hroom : n1 + n2 < 20000) (R : World → Prop)
    (HF : Hid (∀ w', Below w.heap.size w w' → Calls Tryz.prog 103 #[.pointer (some ⟨gs, 0, none⟩), .string hash] w' fun e w'' => e = .returned (.tuple #[.string ⟨#[]⟩, .bool false]) ∧ Below w'.heap.size w' w''))
    (HA : Hid (∀ w', Below w.heap.size w w' → Calls Tryz.prog 67 #[.pointer (some ⟨sa, 0, none⟩), .string enc] w' fun e w'' => e = .returned (.tuple #[]) ∧ SVb gs so sa 0 x y w'' ∧ w''.cell? ⟨tb, 37, none⟩ = some (.string enc) ∧ R w'')) :
    Calls Tryz.prog 86 #[.pointer (some ⟨gs, 0, none⟩), .pointer (some ⟨tb, 0, none⟩)] w fun e w' => e = .returned (.bool true) ∧ SVb gs so sa 0 x y w' ∧ R w' := by
  have z1 : decide ((20000 : Int) ≤ (n1 : Int) + (n2 : Int)) = false := by rw [decide_eq_false_iff_not]; omega
  have z2 : ¬ ((n1 : Int) + (n2 : Int) ≥ 20000) := by omega
  go_enter Tryz.func86, Tryz.ntmps86
  go_wp2_with fail
  refine (HF.out _ (Below.refl _ _)).mono ?_
  rintro e w1 ⟨rfl, hb1⟩
  have d37 := (hb1.cell (p := ⟨tb, 37, none⟩) ht).trans c37
  have g1 := hg.below hb1
  have o1 := (hb1.block so (Array.getElem?_eq_some_iff.1 ho).1).trans ho
  have a1' := (hb1.block sa (Array.getElem?_eq_some_iff.1 ha).1).trans ha
  have q0 := Lib.cell_of_heap g1 0
  have q1 := Lib.cell_of_heap g1 1
  have q2 := Lib.cell_of_heap g1 2
  have qo := Lib.cell_of_heap o1 0
  have qa := Lib.cell_of_heap a1' 0
  have fz : ∀ j, w1.frozen? ⟨gs, j, none⟩ = false := fun j => by rw [World.frozen?, show w1.heap[gs]? = _ from g1]; rfl
  have hwr : IntKind.i64.wrap ((n1 : Int) + (n2 : Int)) = (n1 : Int) + (n2 : Int) := wrapI_in _ (by omega)
  go_upto_region 7 with fail
  go_region_held3 (fun W => W.cell? ⟨gs, 0, none⟩ = some (.pointer (some ⟨so, 0, none⟩)) ∧ W.cell? ⟨gs, 1, none⟩ = some (.pointer (some ⟨sa, 0, none⟩)) ∧ W.cell? ⟨so, 0, none⟩ = some (.slice a1 n1 c1) ∧ W.cell? ⟨sa, 0, none⟩ = some (.slice a2 n2 c2)) (exact ⟨q0, q1, qo, qa⟩) (fail)
  have hb1d : Below w.heap.size w w1.drew := hb1.drew
  have hb1dd : Below w.heap.size w w1.drew.drew := hb1.drew.drew
  go_upto_region 2 with fail
  go_region_held3 (fun W => W.cell? ⟨gs, 1, none⟩ = some (.pointer (some ⟨sa, 0, none⟩)) ∧ W.cell? ⟨tb, 37, none⟩ = some (.string enc)) (first | exact ⟨q1, d37⟩ | exact ⟨Lib.cell_of_heap g2 1, hc2⟩) (first | (go_at_call 67; refine (HA.out _ hb1dd).mono ?_; rintro e w2 ⟨rfl, g2, hc2, hR2⟩))
  have r2 := Lib.cell_of_heap g2 2
  clear q0 q1 q2 qo qa fz
  go_wp2_with fail
  go_ret
  exact ⟨rfl, g2, hR2⟩
end Go.Proofs.YtgicihmdcnelaaaGreatDoor
namespace Go.Proofs.Sha

/-- A tree of whatever, by itself. -/
inductive Tr (α : Type) where
  | nil : Tr α
  | node (l : Tr α) (x : α) (r : Tr α) : Tr α
section
variable {α : Type} (ab : α → α → Bool)
def Tr.inord : Tr α → List α
  | .nil => []
  | .node l x r => l.inord ++ x :: r.inord
def Tr.size : Tr α → Nat
  | .nil => 0
  | .node l _ r => l.size + r.size + 1
/-- Each is above all below it. -/
def Tr.heap : Tr α → Prop
  | .nil => True
  | .node l x r => (∀ y ∈ l.inord, ab x y = true) ∧ (∀ y ∈ r.inord, ab x y = true) ∧ l.heap ∧ r.heap
/-- Two trees joined, the first ahead of the second. -/
def Tr.merge : Tr α → Tr α → Tr α
  | .nil, b => b
  | .node l x r, .nil => .node l x r
  | .node l x r, .node l2 y r2 => if ab x y then .node l x (Tr.merge r (.node l2 y r2)) else .node (Tr.merge (.node l x r) l2) y r2
termination_by a b => a.size + b.size
decreasing_by
  all_goals simp only [Tr.size]; omega
theorem Tr.merge_nil (a : Tr α) : Tr.merge ab a .nil = a := by
  cases a <;> simp [Tr.merge]
theorem Tr.merge_inord (a b : Tr α) : (Tr.merge ab a b).inord = a.inord ++ b.inord := by
  fun_induction Tr.merge ab a b with
  | case1 b => rfl
  | case2 l x r => simp [Tr.inord]
  | case3 l x r l2 y r2 h ih => simp only [Tr.inord] at ih ⊢; rw [ih]; simp
  | case4 l x r l2 y r2 h ih => simp only [Tr.inord] at ih ⊢; rw [ih]; simp
/-- What is asked of the order, among the elements of a list: of two one is above the other, and not the other way; it goes on from one to the next. -/
structure Ranked (l : List α) : Prop where
  tot : ∀ x ∈ l, ∀ y ∈ l, x ≠ y → ab x y = true ∨ ab y x = true
  asy : ∀ x ∈ l, ∀ y ∈ l, ab x y = true → ab y x = false
  tra : ∀ x ∈ l, ∀ y ∈ l, ∀ z ∈ l, ab x y = true → ab y z = true → ab x z = true
theorem Ranked.sub {l m : List α} (h : Ranked ab l) (hs : ∀ x ∈ m, x ∈ l) : Ranked ab m :=
  ⟨fun x hx y hy => h.tot x (hs x hx) y (hs y hy), fun x hx y hy => h.asy x (hs x hx) y (hs y hy), fun x hx y hy z hz => h.tra x (hs x hx) y (hs y hy) z (hs z hz)⟩
theorem Tr.merge_heap (a b : Tr α) (ha : a.heap ab) (hb : b.heap ab) (hr : Ranked ab (a.inord ++ b.inord)) (hd : ∀ x ∈ a.inord, ∀ y ∈ b.inord, x ≠ y) : (Tr.merge ab a b).heap ab := by
  fun_induction Tr.merge ab a b with
  | case1 b => exact hb
  | case2 l x r => exact ha
  | case3 l x r l2 y r2 h ih =>
    obtain ⟨p1, p2, p3, p4⟩ := ha
    have hxm : x ∈ (Tr.node l x r).inord ++ (Tr.node l2 y r2).inord := by simp [Tr.inord]
    have hym : y ∈ (Tr.node l x r).inord ++ (Tr.node l2 y r2).inord := by simp [Tr.inord]
    refine ⟨p1, fun z hz => ?_, p3, ih p4 hb (hr.sub ab (fun z hz => ?_)) (fun u hu v hv => hd u (by simp [Tr.inord, hu]) v hv)⟩
    · rw [Tr.merge_inord, List.mem_append] at hz
      rcases hz with hz | hz
      · exact p2 z hz
      · obtain ⟨q1, q2, _, _⟩ := hb
        have hzm : z ∈ (Tr.node l x r).inord ++ (Tr.node l2 y r2).inord := List.mem_append_right _ hz
        simp only [Tr.inord, List.mem_append, List.mem_cons] at hz
        rcases hz with hz | rfl | hz
        · exact hr.tra x hxm y hym z hzm h (q1 z hz)
        · exact h
        · exact hr.tra x hxm y hym z hzm h (q2 z hz)
    · rw [List.mem_append] at hz ⊢
      rcases hz with hz | hz
      · left; simp [Tr.inord, hz]
      · exact .inr hz
  | case4 l x r l2 y r2 h ih =>
    obtain ⟨p1, p2, p3, p4⟩ := hb
    have hxm : x ∈ (Tr.node l x r).inord ++ (Tr.node l2 y r2).inord := by simp [Tr.inord]
    have hym : y ∈ (Tr.node l x r).inord ++ (Tr.node l2 y r2).inord := by simp [Tr.inord]
    have hyx : ab y x = true := by
      rcases hr.tot x hxm y hym (hd x (by simp [Tr.inord]) y (by simp [Tr.inord])) with q | q
      · exact absurd q h
      · exact q
    refine ⟨fun z hz => ?_, p2, ih ha p3 (hr.sub ab (fun z hz => ?_)) (fun u hu v hv => hd u hu v (by simp [Tr.inord, hv])), p4⟩
    · rw [Tr.merge_inord, List.mem_append] at hz
      rcases hz with hz | hz
      · obtain ⟨q1, q2, _, _⟩ := ha
        have hzm : z ∈ (Tr.node l x r).inord ++ (Tr.node l2 y r2).inord := List.mem_append_left _ hz
        simp only [Tr.inord, List.mem_append, List.mem_cons] at hz
        rcases hz with hz | rfl | hz
        · exact hr.tra y hym x hxm z hzm hyx (q1 z hz)
        · exact hyx
        · exact hr.tra y hym x hxm z hzm hyx (q2 z hz)
      · exact p1 z hz
    · rw [List.mem_append] at hz ⊢
      rcases hz with hz | hz
      · exact .inl hz
      · right; simp [Tr.inord, hz]
/-- In a list without doubles an element stands at one place. -/
theorem split_one {x : α} : ∀ {l r l2 r2 : List α}, (l ++ x :: r).Nodup → l ++ x :: r = l2 ++ x :: r2 → l = l2 ∧ r = r2
  | [], _, [], _, _, h => by simp at h; exact ⟨rfl, h⟩
  | [], r, y :: l2, r2, hn, h => by
    simp at h
    obtain ⟨rfl, h2⟩ := h
    rw [h2] at hn
    simp at hn
  | y :: l, r, [], r2, hn, h => by
    simp at h
    obtain ⟨rfl, _⟩ := h
    simp at hn
  | y :: l, r, z :: l2, r2, hn, h => by
    simp only [List.cons_append, List.cons.injEq] at h
    obtain ⟨rfl, h2⟩ := h
    have hn2 : (l ++ x :: r).Nodup := by
      rw [List.cons_append, List.nodup_cons] at hn
      exact hn.2
    obtain ⟨q1, q2⟩ := split_one hn2 h2
    exact ⟨by rw [q1], q2⟩
/-- One tree at most. -/
theorem Tr.unique (a b : Tr α) (ha : a.heap ab) (hb : b.heap ab) (h : a.inord = b.inord) (hn : a.inord.Nodup) (hr : Ranked ab a.inord) : a = b := by
  induction a generalizing b with
  | nil =>
    cases b with
    | nil => rfl
    | node l x r => simp [Tr.inord] at h
  | node l x r ihl ihr =>
    cases b with
    | nil => simp [Tr.inord] at h
    | node l2 y r2 =>
      obtain ⟨p1, p2, p3, p4⟩ := ha
      obtain ⟨q1, q2, q3, q4⟩ := hb
      simp only [Tr.inord] at h hn hr
      have hxm : x ∈ l.inord ++ x :: r.inord := by simp
      have hym : y ∈ l.inord ++ x :: r.inord := by rw [h]; simp
      have hxy : x = y := by
        apply Classical.byContradiction
        intro hne
        have h1 : ab x y = true := by
          have := hym
          simp only [List.mem_append, List.mem_cons] at this
          rcases this with m | m | m
          · exact p1 y m
          · exact absurd m.symm hne
          · exact p2 y m
        have h2 : ab y x = true := by
          have := hxm
          rw [h] at this
          simp only [List.mem_append, List.mem_cons] at this
          rcases this with m | m | m
          · exact q1 x m
          · exact absurd m hne
          · exact q2 x m
        have := hr.asy x hxm y hym h1
        rw [h2] at this
        cases this
      subst hxy
      obtain ⟨e1, e2⟩ := split_one hn h
      have hnl : l.inord.Nodup := (List.nodup_append.1 hn).1
      have hnr : r.inord.Nodup := (List.nodup_cons.1 (List.nodup_append.1 hn).2.1).2
      rw [ihl l2 p3 q3 e1 hnl (hr.sub ab (fun z hz => by simp [hz])), ihr r2 p4 q4 e2 hnr (hr.sub ab (fun z hz => by simp [hz]))]
end
end Go.Proofs.Sha
namespace Go.Proofs.YtgicihmdcnelaaaGreatDoor
open Go.RowKit Go.Proofs.Sha

/-- A key's rank, as cells. -/
def rankL (X : List UInt8) (k : ByteArray) : List Value := X.map B ++ [Value.string k]
/-- A tree's node, as cells. -/
def treeL (X : List UInt8) (k v : ByteArray) (l r : Option Addr) (enc h : ByteArray) : List Value := [.string k, .string v] ++ rankL X k ++ [.pointer l, .pointer r, .string enc, .string h]
theorem built2_e (x0 x1 x2 x3 x4 x5 x6 x7 x8 x9 x10 x11 x12 x13 x14 x15 x16 x17 x18 x19 x20 x21 x22 x23 x24 x25 x26 x27 x28 x29 x30 x31 : UInt8) (k v : ByteArray) : Tryz.prog.built 125 [(0, .agg #[.string k, .string v]), (1, .agg ([x0, x1, x2, x3, x4, x5, x6, x7, x8, x9, x10, x11, x12, x13, x14, x15, x16, x17, x18, x19, x20, x21, x22, x23, x24, x25, x26, x27, x28, x29, x30, x31].map B ++ [Value.string k]).toArray)] = some (treeL [x0, x1, x2, x3, x4, x5, x6, x7, x8, x9, x10, x11, x12, x13, x14, x15, x16, x17, x18, x19, x20, x21, x22, x23, x24, x25, x26, x27, x28, x29, x30, x31] k v none none ⟨#[]⟩ ⟨#[]⟩).toArray := by kernel_rfl
theorem built4_e (x0 x1 x2 x3 x4 x5 x6 x7 x8 x9 x10 x11 x12 x13 x14 x15 x16 x17 x18 x19 x20 x21 x22 x23 x24 x25 x26 x27 x28 x29 x30 x31 : UInt8) (k v : ByteArray) (l r : Option Addr) : Tryz.prog.built 125 [(0, .agg #[.string k, .string v]), (1, .agg ([x0, x1, x2, x3, x4, x5, x6, x7, x8, x9, x10, x11, x12, x13, x14, x15, x16, x17, x18, x19, x20, x21, x22, x23, x24, x25, x26, x27, x28, x29, x30, x31].map B ++ [Value.string k]).toArray), (2, .pointer l), (3, .pointer r)] = some (treeL [x0, x1, x2, x3, x4, x5, x6, x7, x8, x9, x10, x11, x12, x13, x14, x15, x16, x17, x18, x19, x20, x21, x22, x23, x24, x25, x26, x27, x28, x29, x30, x31] k v l r ⟨#[]⟩ ⟨#[]⟩).toArray := by kernel_rfl
theorem list32 (X : List UInt8) (h : X.length = 32) : ∃ x0 x1 x2 x3 x4 x5 x6 x7 x8 x9 x10 x11 x12 x13 x14 x15 x16 x17 x18 x19 x20 x21 x22 x23 x24 x25 x26 x27 x28 x29 x30 x31 : UInt8, X = [x0, x1, x2, x3, x4, x5, x6, x7, x8, x9, x10, x11, x12, x13, x14, x15, x16, x17, x18, x19, x20, x21, x22, x23, x24, x25, x26, x27, x28, x29, x30, x31] := by
  match X, h with
  | [x0, x1, x2, x3, x4, x5, x6, x7, x8, x9, x10, x11, x12, x13, x14, x15, x16, x17, x18, x19, x20, x21, x22, x23, x24, x25, x26, x27, x28, x29, x30, x31], _ => exact ⟨_, _, _, _, _, _, _, _, _, _, _, _, _, _, _, _, _, _, _, _, _, _, _, _, _, _, _, _, _, _, _, _, rfl⟩
theorem built2 (X : List UInt8) (h : X.length = 32) (k v : ByteArray) : Tryz.prog.built 125 [(0, .agg #[.string k, .string v]), (1, .agg (rankL X k).toArray)] = some (treeL X k v none none ⟨#[]⟩ ⟨#[]⟩).toArray := by
  obtain ⟨x0, x1, x2, x3, x4, x5, x6, x7, x8, x9, x10, x11, x12, x13, x14, x15, x16, x17, x18, x19, x20, x21, x22, x23, x24, x25, x26, x27, x28, x29, x30, x31, rfl⟩ := list32 X h
  exact built2_e x0 x1 x2 x3 x4 x5 x6 x7 x8 x9 x10 x11 x12 x13 x14 x15 x16 x17 x18 x19 x20 x21 x22 x23 x24 x25 x26 x27 x28 x29 x30 x31 k v
theorem built4 (X : List UInt8) (h : X.length = 32) (k v : ByteArray) (l r : Option Addr) : Tryz.prog.built 125 [(0, .agg #[.string k, .string v]), (1, .agg (rankL X k).toArray), (2, .pointer l), (3, .pointer r)] = some (treeL X k v l r ⟨#[]⟩ ⟨#[]⟩).toArray := by
  obtain ⟨x0, x1, x2, x3, x4, x5, x6, x7, x8, x9, x10, x11, x12, x13, x14, x15, x16, x17, x18, x19, x20, x21, x22, x23, x24, x25, x26, x27, x28, x29, x30, x31, rfl⟩ := list32 X h
  exact built4_e x0 x1 x2 x3 x4 x5 x6 x7 x8 x9 x10 x11 x12 x13 x14 x15 x16 x17 x18 x19 x20 x21 x22 x23 x24 x25 x26 x27 x28 x29 x30 x31 k v l r
end Go.Proofs.YtgicihmdcnelaaaGreatDoor
