import Derived.Test.YtfmpjlpakldheaaGreatDoorZybk
namespace Go.Proofs.YtfmpjlpakldheaaGreatDoor
open Go.RowKit Go.Proofs.Sha

set_option maxRecDepth 100000 in
theorem take_none (a : Option Addr) (xs : List Nat) (cap : Nat) (p : Nat) (hp : p ≤ 100000) (w : World) :
    Calls Tryz.prog 41 #[.slice a xs.length cap, .int .i64 (p : Int), .int .i64 ((0 : Nat) : Int)] w fun e w' => e = .returned (.tuple #[.int .i64 ((0 : Nat) : Int), .int .i64 ((p + 1 : Nat) : Int)]) ∧ Below w.heap.size w w' := by
  have y1 : IntKind.i64.wrap ((p : Int) + 1) = ((p + 1 : Nat) : Int) := by rw [wrap_i64_in _ (by omega) (by omega)]; omega
  obtain ⟨n, hnn⟩ : ∃ n, xs.length = n := ⟨_, rfl⟩
  rw [hnn]
  go_enter Tryz.func41, Tryz.ntmps41
  go_wp2_with fail
  go_ret2
  exact ⟨by first | rfl | rw [y1], Below.refl _ _⟩
/-- One that may be of none. -/
theorem take0_det (a : Option Addr) (xs : List Nat) (cap : Nat) (p m : Nat) (hX : Code8 xs) (hp : p ≤ 100000) (hm : m ≤ 100000) :
    ∃ x : Nat, (0 < m → x < m) ∧ (m = 0 → x = 0) ∧ ∀ w, BL a xs w → Calls Tryz.prog 41 #[.slice a xs.length cap, .int .i64 (p : Int), .int .i64 (m : Int)] w fun e w' => e = .returned (.tuple #[.int .i64 (x : Int), .int .i64 ((p + 1 : Nat) : Int)]) ∧ Below w.heap.size w w' := by
  by_cases h : m = 0
  · subst h
    exact ⟨0, fun h => absurd h (Nat.lt_irrefl _), fun _ => rfl, fun w _ => take_none a xs cap p hp w⟩
  · obtain ⟨x, hx, H⟩ := take_det a xs cap p m hX hp (by omega) hm
    exact ⟨x, fun _ => hx, fun q => absurd q h, H⟩
/-- What a hurt pool is, in memory. -/
def HGot (fz : Nat → Option Obj) (ex : Option Nat) (gz wd : Nat) (ss roots : List ByteArray) (z : Nat) (w0 : World) (e : Ending) (w' : World) : Prop := ∃ ap cp ar cr, e = .returned (.tuple #[.agg #[.int .i64 (wd : Int), .slice ap ss.length cp], .slice ar roots.length cr, .int .i64 (z : Int)]) ∧ SArg ap ss w' ∧ SArg ar roots w' ∧ Below w0.heap.size w0 w' ∧ ∀ q, q < gz → ex ≠ some q → w'.heap[q]? = fz q
/-- A pool while it is hurt. -/
structure HS (fz : Nat → Option Obj) (ex : Option Nat) (w0 : World) (gp g wd : Nat) (ss ys roots : List ByteArray) (ap : Option Addr) (cp : Nat) (ao : Option Addr) (co : Nat) (ar : Option Addr) (cr : Nat) (W : World) : Prop where
  par : W.heap[gp]? = some (.cells #[.int .i64 (wd : Int), .slice ap ss.length cp] 37)
  res : W.heap[gp + 1]? = some (.cells #[.int .i64 0, .slice none 0 0] 37)
  out : W.heap[g]? = some (.cells #[.int .i64 (wd : Int), .slice ao ys.length co] 37)
  n0 : w0.heap.size ≤ gp
  n1 : gp + 1 < g
  oown : OwnT w0 ys ao ys.length co W
  rown : OwnT w0 roots ar roots.length cr W
  dis : ∀ b, (Value.slice ar roots.length cr).ownBlock = some b → (Value.slice ao ys.length co).ownBlock ≠ some b
  fr : ∀ q, q < gp → ex ≠ some q → W.heap[q]? = fz q
  rb : ∀ b, (Value.slice ar roots.length cr).ownBlock = some b → b < gp → ex = some b
  ob : ∀ b, (Value.slice ao ys.length co).ownBlock = some b → gp ≤ b
theorem OwnT.sarg {w W : World} {xs : List ByteArray} {a : Option Addr} {c : Nat} (h : OwnT w xs a xs.length c W) {n s : Nat} (hs : SmT xs n s) (hn : n ≤ 1048576) (hz : s ≤ 1048576) : SArg a xs W :=
  own_sarg h.own (Nat.le_trans hs.len hn) (fun j => Nat.le_trans (hs.getD j) hz)
section
variable {fz : Nat → Option Obj} {ex : Option Nat} {w0 : World} {gp g wd : Nat} {ss ys roots : List ByteArray} {ap : Option Addr} {cp : Nat} {ao : Option Addr} {co : Nat} {ar : Option Addr} {cr : Nat} {W W' : World}
theorem HS.below (h : HS fz ex w0 gp g wd ss ys roots ap cp ao co ar cr W) (hb : Below W.heap.size W W') : HS fz ex w0 gp g wd ss ys roots ap cp ao co ar cr W' :=
  ⟨pblk_below hb h.par, pblk_below hb h.res, pblk_below hb h.out, h.n0, h.n1, h.oown.below hb, h.rown.below hb, h.dis, fun q hq he => (hb.block q (by have := (Array.getElem?_eq_some_iff.1 h.par).1; omega)).trans (h.fr q hq he), h.rb, h.ob⟩
theorem HS.fin (h : HS fz ex w0 gp g wd ss ys roots ap cp ao co ar cr W) {n s n2 s2 z gz : Nat} (hy : SmT ys n s) (hr : SmT roots n2 s2) (h1 : n ≤ 1048576) (h2 : s ≤ 1048576) (h3 : n2 ≤ 1048576) (h4 : s2 ≤ 1048576) (hgz : gz ≤ gp) : HGot fz ex gz wd ys roots z w0 (.returned (.tuple #[.agg #[.int .i64 (wd : Int), .slice ao ys.length co], .slice ar roots.length cr, .int .i64 (z : Int)])) ((W.setCell ⟨gp + 1, 0, none⟩ (.int .i64 (wd : Int))).setCell ⟨gp + 1, 1, none⟩ (.slice ao ys.length co)) := by
  have hm0 := heap_setCell_same W (gp + 1) 0 _ 37 (.int .i64 (wd : Int)) h.res
  have hge : w0.heap.size ≤ gp + 1 := by have := h.n0; omega
  have ho := (h.oown.set h.res hge (o := 0) (.int .i64 (wd : Int))).set hm0 hge (o := 1) (.slice ao ys.length co)
  have hr' := (h.rown.set h.res hge (o := 0) (.int .i64 (wd : Int))).set hm0 hge (o := 1) (.slice ao ys.length co)
  exact ⟨ao, co, ar, cr, rfl, ho.sarg hy h1 h2, hr'.sarg hr h3 h4, ho.bel, fun q hq he => (Below.heap_setCell _ _ _ _ (by show q ≠ gp + 1; omega)).trans ((Below.heap_setCell _ _ _ _ (by show q ≠ gp + 1; omega)).trans (h.fr q (by omega) he))⟩
theorem HS.m1 (h : HS fz ex w0 gp g wd ss ys roots ap cp ao co ar cr W) : ((W.setCell ⟨gp + 1, 0, none⟩ (.int .i64 (wd : Int))).setCell ⟨gp + 1, 1, none⟩ (.slice ao ys.length co)).heap[gp + 1]? = some (.cells #[.int .i64 (wd : Int), .slice ao ys.length co] 37) :=
  heap_setCell_same _ (gp + 1) 1 _ 37 (.slice ao ys.length co) (heap_setCell_same W (gp + 1) 0 _ 37 (.int .i64 (wd : Int)) h.res)
end
set_option maxRecDepth 100000 in
set_option maxHeartbeats 4000000 in
theorem hurt_none (a : Option Addr) (xs : List Nat) (cap p wd : Nat) (ss roots : List ByteArray) (x y : Nat) (_hX : Code8 xs) (_hp : p ≤ 60000) (hss : SmT ss 500 10000) (hr : SmT roots 4 32)
    (HT : ∀ w, BL a xs w → Calls Tryz.prog 41 #[.slice a xs.length cap, .int .i64 (p : Int), .int .i64 6] w fun e w' => e = .returned (.tuple #[.int .i64 (x : Int), .int .i64 ((p + 1 : Nat) : Int)]) ∧ Below w.heap.size w w') (HT2 : ∀ w, BL a xs w → Calls Tryz.prog 41 #[.slice a xs.length cap, .int .i64 ((p + 1 : Nat) : Int), .int .i64 (ss.length : Int)] w fun e w' => e = .returned (.tuple #[.int .i64 (y : Int), .int .i64 ((p + 1 + 1 : Nat) : Int)]) ∧ Below w.heap.size w w') (h0 : ss.length = 0) :
    ∀ w0 w ap cp ar cr, BL a xs w0 → SArg ap ss w → OwnT w0 roots ar roots.length cr w → Calls Tryz.prog 114 #[.slice a xs.length cap, .int .i64 (p : Int), .agg #[.int .i64 (wd : Int), .slice ap ss.length cp], .slice ar roots.length cr] w (HGot (fun q => w.heap[q]?) (Value.slice ar roots.length cr).ownBlock w.heap.size wd ss roots (p + 1 + 1) w0) := by
  intro w0 w ap cp ar cr hB hS hR
  obtain ⟨fz, hfz⟩ : ∃ fz : Nat → Option Obj, (fun q => w.heap[q]?) = fz := ⟨_, rfl⟩
  rw [hfz]
  have hfq : Hid (∀ q : Nat, w.heap[q]? = fz q) := fun q => congrFun hfz q
  clear hfz
  obtain ⟨ex, hex⟩ : ∃ ex, (Value.slice ar roots.length cr).ownBlock = ex := ⟨_, rfl⟩
  rw [hex]
  have hexh : Hid ((Value.slice ar roots.length cr).ownBlock = ex) := hex
  clear hex
  obtain ⟨gz, hgz⟩ : ∃ g, w.heap.size = g := ⟨_, rfl⟩
  rw [hgz]
  have hgzl : gz ≤ w.heap.size := Nat.le_of_eq hgz.symm
  clear hgz
  have HC : Hid (∀ w', Below w.heap.size w w' → Calls Tryz.prog 79 #[.agg #[.int .i64 (wd : Int), .slice ap ss.length cp]] w' fun e w'' => ∃ a' c', e = .returned (.agg #[.int .i64 (wd : Int), .slice a' ss.length c']) ∧ OwnT w' ss a' ss.length c' w'') := fun w' hb => copyPool_any (wd : Int) ap ss cp w' (hS.below hb)
  have hBw := hB.below hR.bel
  have HT' : Hid (∀ w', Below w.heap.size w w' → Calls Tryz.prog 41 #[.slice a xs.length cap, .int .i64 (p : Int), .int .i64 6] w' fun e w'' => e = .returned (.tuple #[.int .i64 (x : Int), .int .i64 ((p + 1 : Nat) : Int)]) ∧ Below w'.heap.size w' w'') := fun w' hb => HT w' (hBw.below hb)
  have HT2' : Hid (∀ w', Below w.heap.size w w' → Calls Tryz.prog 41 #[.slice a xs.length cap, .int .i64 ((p + 1 : Nat) : Int), .int .i64 (ss.length : Int)] w' fun e w'' => e = .returned (.tuple #[.int .i64 (y : Int), .int .i64 ((p + 1 + 1 : Nat) : Int)]) ∧ Below w'.heap.size w' w'') := fun w' hb => HT2 w' (hBw.below hb)
  clear HT HT2
  have hslen : ss.length ≤ 500 := hss.len
  have hrlen : roots.length ≤ 4 := hr.len
  obtain ⟨L, hLL⟩ : ∃ L, xs.length = L := ⟨_, rfl⟩
  rw [hLL] at HT' HT2' ⊢
  obtain ⟨q2, hq2⟩ : ∃ q, p + 1 + 1 = q := ⟨_, rfl⟩
  rw [hq2] at HT2' ⊢
  obtain ⟨q1, hq1⟩ : ∃ q, p + 1 = q := ⟨_, rfl⟩
  rw [hq1] at HT' HT2'
  have hqq : p ≠ q1 := by omega
  clear hq1 hLL
  obtain ⟨N, hN⟩ : ∃ N, ss.length = N := ⟨_, rfl⟩
  rw [hN] at HT2' HC hslen ⊢
  obtain ⟨R, hRn⟩ : ∃ R, roots.length = R := ⟨_, rfl⟩
  rw [hRn] at hrlen ⊢
  have hA : Below w.heap.size w ((w.alloc (.cells #[.int .i64 (wd : Int), .slice ap N cp] 37)).alloc (.cells #[.int .i64 0, .slice none 0 0] 37)) := ((Below.refl _ _).alloc (Nat.le_refl _) _).alloc (by simp) _
  have nA0 : ((w.alloc (.cells #[.int .i64 (wd : Int), .slice ap N cp] 37)).alloc (.cells #[.int .i64 0, .slice none 0 0] 37)).heap[w.heap.size]? = some (.cells #[.int .i64 (wd : Int), .slice ap N cp] 37) := (Below.heap_alloc _ _ _ (by simp)).trans (heap_alloc_new w _)
  have nA1 : ((w.alloc (.cells #[.int .i64 (wd : Int), .slice ap N cp] 37)).alloc (.cells #[.int .i64 0, .slice none 0 0] 37)).heap[w.heap.size + 1]? = some (.cells #[.int .i64 0, .slice none 0 0] 37) := by
    have := heap_alloc_new (w.alloc (.cells #[.int .i64 (wd : Int), .slice ap N cp] 37)) (.cells #[.int .i64 0, .slice none 0 0] 37)
    rw [World.size_alloc] at this
    exact this
  have hgw : w0.heap.size ≤ w.heap.size := hR.bel.size
  clear hBw hB hS
  go_enter Tryz.func114, Tryz.ntmps114
  go_upto_region 2 with fail
  generalize (w.alloc (.cells #[.int .i64 (wd : Int), .slice ap N cp] 37)).alloc (.cells #[.int .i64 0, .slice none 0 0] 37) = wA at hA nA0 nA1 ⊢
  obtain ⟨gp, hgp⟩ : ∃ g, w.heap.size = g := ⟨_, rfl⟩
  rw [hgp] at nA0 nA1 hgw
  try rw [hgp]
  have cA0 := Lib.cell_of_heap nA0 0
  have cA1 := Lib.cell_of_heap nA0 1
  go_upto_region 3 with (first | (go_at_call_of 41 (Value.int .i64 (p : Int)); refine (HT'.out _ hA).mono ?_; rintro e w1 ⟨rfl, hb1⟩; have hbw1 := hA.trans (hb1.mono hA.size)))
  have nB0 := pblk_below hb1 nA0
  have nB1 := pblk_below hb1 nA1
  clear cA0 cA1 nA0 nA1
  have cA0 := Lib.cell_of_heap nB0 0
  have cA1 := Lib.cell_of_heap nB0 1
  go_upto_region 4 with (first | (go_at_call_of 41 (Value.int .i64 (q1 : Int)); refine (HT2'.out _ hbw1).mono ?_; rintro e w2 ⟨rfl, hb2⟩; have hbw2 := hbw1.trans (hb2.mono hbw1.size)))
  have nC0 := pblk_below hb2 nB0
  have nC1 := pblk_below hb2 nB1
  clear cA0 cA1 nB0 nB1
  have cA0 := Lib.cell_of_heap nC0 0
  have cA1 := Lib.cell_of_heap nC0 1
  go_upto_region 5 with (first | (go_at_call 79; refine (HC.out _ hbw2).mono ?_; rintro e w3 ⟨ao, co, rfl, hT3⟩))
  have al3 : Below w3.heap.size w3 (w3.alloc (.cells #[.int .i64 (wd : Int), .slice ao N co] 37)) := (Below.refl _ _).alloc (Nat.le_refl _) _
  have hb23 : Below w2.heap.size w2 (w3.alloc (.cells #[.int .i64 (wd : Int), .slice ao N co] 37)) := hT3.bel.trans (al3.mono hT3.bel.size)
  have hbw4 := hbw2.trans (hb23.mono hbw2.size)
  have hH : HS fz ex w0 gp w3.heap.size wd ss ss roots ap cp ao co ar cr (w3.alloc (.cells #[.int .i64 (wd : Int), .slice ao N co] 37)) := by
    refine ⟨by rw [hN]; exact pblk_below hb23 nC0, pblk_below hb23 nC1, by rw [hN]; exact heap_alloc_new w3 _, hgw, ?_, ?_, hR.below (hgp ▸ hbw4), fun b hb he => ?_, fun q hq he => (hbw4.block q (by omega)).trans (hfq.out q), fun b hb _ => hexh.out.symm.trans hb, fun b hb => ?_⟩
    · have h1 := (Array.getElem?_eq_some_iff.1 nC1).1
      have := hT3.bel.size
      omega
    · have h1 := OwnT.up (w := w0) (hT3.below al3) (hR.bel.trans (hbw2.mono hR.bel.size))
      rw [hN]
      exact h1
    · have h1 := (ownG_cells hR.own hb).2.1
      rw [hN] at he
      have h2 := (ownG_cells hT3.own he).1
      have := hbw2.size
      omega
    · rw [hN] at hb
      have h2 := (ownG_cells hT3.own hb).1
      have := hbw2.size
      omega
  generalize w3.alloc (.cells #[.int .i64 (wd : Int), .slice ao N co] 37) = w4 at al3 hb23 hbw4 hH ⊢
  obtain ⟨g, hg⟩ : ∃ g, w3.heap.size = g := ⟨_, rfl⟩
  rw [hg] at hH
  try rw [hg]
  clear hg hT3 hb23 al3 nC0 nC1 cA0 cA1 hb1 hb2 hbw1 hbw2 HC HT' HT2' hA hqq
  have o0 := Lib.cell_of_heap hH.out 0
  have o1 := Lib.cell_of_heap hH.out 1
  rw [hN] at o1 o0
  have hfin : Hid (HGot fz ex gz wd ss roots q2 w0 _ _) := hH.fin (z := q2) hss hr (by omega) (by omega) (by omega) (by omega) (by omega)
  have m1 := hH.m1
  rw [hN, hRn] at hfin
  rw [hN] at m1
  have e0 := Lib.cell_of_heap hH.res 0
  have e1 := Lib.cell_of_heap hH.res 1
  have ef : ∀ j, w4.frozen? ⟨gp + 1, j, none⟩ = false := fun j => by rw [World.frozen?, hH.res]; rfl
  have zN : ((N : Int) == 0) = true := by simp; omega
  clear hH
  go_wp2_with fail
  exact retPT Tryz.results114 rfl rfl rfl rfl m1 hfin.out
end Go.Proofs.YtfmpjlpakldheaaGreatDoor
namespace Go.Proofs.YtfmpjlpakldheaaGreatDoor
open Go.RowKit Go.Proofs.Sha

/-- All but one. -/
def butT (ys : List ByteArray) (y : Nat) : Nat → List ByteArray
  | 0 => []
  | k + 1 => if k = y then butT ys y k else butT ys y k ++ [ys.getD k ⟨#[]⟩]
theorem butT_sm {ys : List ByteArray} {n s : Nat} (h : SmT ys n s) (y : Nat) : ∀ k, SmT (butT ys y k) k s
  | 0 => ⟨Nat.le_refl _, fun x hx => by cases hx⟩
  | k + 1 => by
    have ih := butT_sm h y k
    rw [butT]
    split
    · exact ⟨Nat.le_succ_of_le ih.len, ih.sz⟩
    · exact ih.app (m := 1) ⟨Nat.le_refl _, fun x hx => by rw [List.mem_singleton.1 hx]; exact h.getD k⟩
theorem HS.put {fz : Nat → Option Obj} {ex : Option Nat} {w0 : World} {gp g wd : Nat} {ss ys roots : List ByteArray} {ap : Option Addr} {cp : Nat} {ao : Option Addr} {co : Nat} {ar : Option Addr} {cr : Nat} {W : World} (h : HS fz ex w0 gp g wd ss ys roots ap cp ao co ar cr W) {zs : List ByteArray} {a' : Option Addr} {c' : Nat} (hT : OwnT w0 zs a' zs.length c' W) (hd : ∀ b, (Value.slice ar roots.length cr).ownBlock = some b → (Value.slice a' zs.length c').ownBlock ≠ some b) (hob : ∀ b, (Value.slice a' zs.length c').ownBlock = some b → gp ≤ b) : HS fz ex w0 gp g wd ss zs roots ap cp a' c' ar cr (W.setCell ⟨g, 1, none⟩ (.slice a' zs.length c')) := by
  have hge : w0.heap.size ≤ g := by have := h.n0; have := h.n1; omega
  have n1 := h.n1
  exact ⟨(Below.heap_setCell _ _ _ _ (by show gp ≠ g; omega)).trans h.par, (Below.heap_setCell _ _ _ _ (by show gp + 1 ≠ g; omega)).trans h.res, heap_setCell_same W g 1 _ 37 (.slice a' zs.length c') h.out, h.n0, h.n1, hT.set h.out hge _, h.rown.set h.out hge _, hd, fun q hq he => (Below.heap_setCell _ _ _ _ (by show q ≠ g; omega)).trans (h.fr q hq he), h.rb, hob⟩
set_option maxRecDepth 100000 in
set_option maxHeartbeats 4000000 in
theorem hurt_drop (a : Option Addr) (xs : List Nat) (cap p wd : Nat) (ss roots : List ByteArray) (x y : Nat) (_hX : Code8 xs) (_hp : p ≤ 60000) (hss : SmT ss 500 10000) (hr : SmT roots 4 32)
    (HT : ∀ w, BL a xs w → Calls Tryz.prog 41 #[.slice a xs.length cap, .int .i64 (p : Int), .int .i64 6] w fun e w' => e = .returned (.tuple #[.int .i64 (x : Int), .int .i64 ((p + 1 : Nat) : Int)]) ∧ Below w.heap.size w w') (HT2 : ∀ w, BL a xs w → Calls Tryz.prog 41 #[.slice a xs.length cap, .int .i64 ((p + 1 : Nat) : Int), .int .i64 (ss.length : Int)] w fun e w' => e = .returned (.tuple #[.int .i64 (y : Int), .int .i64 ((p + 1 + 1 : Nat) : Int)]) ∧ Below w.heap.size w w') (h0 : 0 < ss.length) (hy : y < ss.length) (hx2 : x < 2) :
    ∀ w0 w ap cp ar cr, BL a xs w0 → SArg ap ss w → OwnT w0 roots ar roots.length cr w → Calls Tryz.prog 114 #[.slice a xs.length cap, .int .i64 (p : Int), .agg #[.int .i64 (wd : Int), .slice ap ss.length cp], .slice ar roots.length cr] w (HGot (fun q => w.heap[q]?) (Value.slice ar roots.length cr).ownBlock w.heap.size wd (butT ss y ss.length) roots (p + 1 + 1) w0) := by
  intro w0 w ap cp ar cr hB hS hR
  obtain ⟨fz, hfz⟩ : ∃ fz : Nat → Option Obj, (fun q => w.heap[q]?) = fz := ⟨_, rfl⟩
  rw [hfz]
  have hfq : Hid (∀ q : Nat, w.heap[q]? = fz q) := fun q => congrFun hfz q
  clear hfz
  obtain ⟨ex, hex⟩ : ∃ ex, (Value.slice ar roots.length cr).ownBlock = ex := ⟨_, rfl⟩
  rw [hex]
  have hexh : Hid ((Value.slice ar roots.length cr).ownBlock = ex) := hex
  clear hex
  obtain ⟨gz, hgz⟩ : ∃ g, w.heap.size = g := ⟨_, rfl⟩
  rw [hgz]
  have hgzl : gz ≤ w.heap.size := Nat.le_of_eq hgz.symm
  clear hgz
  have HC : Hid (∀ w', Below w.heap.size w w' → Calls Tryz.prog 79 #[.agg #[.int .i64 (wd : Int), .slice ap ss.length cp]] w' fun e w'' => ∃ a' c', e = .returned (.agg #[.int .i64 (wd : Int), .slice a' ss.length c']) ∧ OwnT w' ss a' ss.length c' w'') := fun w' hb => copyPool_any (wd : Int) ap ss cp w' (hS.below hb)
  have hBw := hB.below hR.bel
  have HT' : Hid (∀ w', Below w.heap.size w w' → Calls Tryz.prog 41 #[.slice a xs.length cap, .int .i64 (p : Int), .int .i64 6] w' fun e w'' => e = .returned (.tuple #[.int .i64 (x : Int), .int .i64 ((p + 1 : Nat) : Int)]) ∧ Below w'.heap.size w' w'') := fun w' hb => HT w' (hBw.below hb)
  have HT2' : Hid (∀ w', Below w.heap.size w w' → Calls Tryz.prog 41 #[.slice a xs.length cap, .int .i64 ((p + 1 : Nat) : Int), .int .i64 (ss.length : Int)] w' fun e w'' => e = .returned (.tuple #[.int .i64 (y : Int), .int .i64 ((p + 1 + 1 : Nat) : Int)]) ∧ Below w'.heap.size w' w'') := fun w' hb => HT2 w' (hBw.below hb)
  clear HT HT2
  have hslen : ss.length ≤ 500 := hss.len
  have hrlen : roots.length ≤ 4 := hr.len
  obtain ⟨L, hLL⟩ : ∃ L, xs.length = L := ⟨_, rfl⟩
  rw [hLL] at HT' HT2' ⊢
  obtain ⟨q2, hq2⟩ : ∃ q, p + 1 + 1 = q := ⟨_, rfl⟩
  rw [hq2] at HT2' ⊢
  obtain ⟨q1, hq1⟩ : ∃ q, p + 1 = q := ⟨_, rfl⟩
  rw [hq1] at HT' HT2'
  have hqq : p ≠ q1 := by omega
  clear hq1 hLL
  obtain ⟨N, hN⟩ : ∃ N, ss.length = N := ⟨_, rfl⟩
  rw [hN] at HT2' HC hslen ⊢
  obtain ⟨R, hRn⟩ : ∃ R, roots.length = R := ⟨_, rfl⟩
  rw [hRn] at hrlen ⊢
  have hA : Below w.heap.size w ((w.alloc (.cells #[.int .i64 (wd : Int), .slice ap N cp] 37)).alloc (.cells #[.int .i64 0, .slice none 0 0] 37)) := ((Below.refl _ _).alloc (Nat.le_refl _) _).alloc (by simp) _
  have nA0 : ((w.alloc (.cells #[.int .i64 (wd : Int), .slice ap N cp] 37)).alloc (.cells #[.int .i64 0, .slice none 0 0] 37)).heap[w.heap.size]? = some (.cells #[.int .i64 (wd : Int), .slice ap N cp] 37) := (Below.heap_alloc _ _ _ (by simp)).trans (heap_alloc_new w _)
  have nA1 : ((w.alloc (.cells #[.int .i64 (wd : Int), .slice ap N cp] 37)).alloc (.cells #[.int .i64 0, .slice none 0 0] 37)).heap[w.heap.size + 1]? = some (.cells #[.int .i64 0, .slice none 0 0] 37) := by
    have := heap_alloc_new (w.alloc (.cells #[.int .i64 (wd : Int), .slice ap N cp] 37)) (.cells #[.int .i64 0, .slice none 0 0] 37)
    rw [World.size_alloc] at this
    exact this
  have hgw : w0.heap.size ≤ w.heap.size := hR.bel.size
  clear hBw hB hS
  go_enter Tryz.func114, Tryz.ntmps114
  go_upto_region 2 with fail
  generalize (w.alloc (.cells #[.int .i64 (wd : Int), .slice ap N cp] 37)).alloc (.cells #[.int .i64 0, .slice none 0 0] 37) = wA at hA nA0 nA1 ⊢
  obtain ⟨gp, hgp⟩ : ∃ g, w.heap.size = g := ⟨_, rfl⟩
  rw [hgp] at nA0 nA1 hgw
  try rw [hgp]
  have cA0 := Lib.cell_of_heap nA0 0
  have cA1 := Lib.cell_of_heap nA0 1
  go_upto_region 3 with (first | (go_at_call_of 41 (Value.int .i64 (p : Int)); refine (HT'.out _ hA).mono ?_; rintro e w1 ⟨rfl, hb1⟩; have hbw1 := hA.trans (hb1.mono hA.size)))
  have nB0 := pblk_below hb1 nA0
  have nB1 := pblk_below hb1 nA1
  clear cA0 cA1 nA0 nA1
  have cA0 := Lib.cell_of_heap nB0 0
  have cA1 := Lib.cell_of_heap nB0 1
  go_upto_region 4 with (first | (go_at_call_of 41 (Value.int .i64 (q1 : Int)); refine (HT2'.out _ hbw1).mono ?_; rintro e w2 ⟨rfl, hb2⟩; have hbw2 := hbw1.trans (hb2.mono hbw1.size)))
  have nC0 := pblk_below hb2 nB0
  have nC1 := pblk_below hb2 nB1
  clear cA0 cA1 nB0 nB1
  have cA0 := Lib.cell_of_heap nC0 0
  have cA1 := Lib.cell_of_heap nC0 1
  go_upto_region 5 with (first | (go_at_call 79; refine (HC.out _ hbw2).mono ?_; rintro e w3 ⟨ao, co, rfl, hT3⟩))
  have al3 : Below w3.heap.size w3 (w3.alloc (.cells #[.int .i64 (wd : Int), .slice ao N co] 37)) := (Below.refl _ _).alloc (Nat.le_refl _) _
  have hb23 : Below w2.heap.size w2 (w3.alloc (.cells #[.int .i64 (wd : Int), .slice ao N co] 37)) := hT3.bel.trans (al3.mono hT3.bel.size)
  have hbw4 := hbw2.trans (hb23.mono hbw2.size)
  have hH : HS fz ex w0 gp w3.heap.size wd ss ss roots ap cp ao co ar cr (w3.alloc (.cells #[.int .i64 (wd : Int), .slice ao N co] 37)) := by
    refine ⟨by rw [hN]; exact pblk_below hb23 nC0, pblk_below hb23 nC1, by rw [hN]; exact heap_alloc_new w3 _, hgw, ?_, ?_, hR.below (hgp ▸ hbw4), fun b hb he => ?_, fun q hq he => (hbw4.block q (by omega)).trans (hfq.out q), fun b hb _ => hexh.out.symm.trans hb, fun b hb => ?_⟩
    · have h1 := (Array.getElem?_eq_some_iff.1 nC1).1
      have := hT3.bel.size
      omega
    · have h1 := OwnT.up (w := w0) (hT3.below al3) (hR.bel.trans (hbw2.mono hR.bel.size))
      rw [hN]
      exact h1
    · have h1 := (ownG_cells hR.own hb).2.1
      rw [hN] at he
      have h2 := (ownG_cells hT3.own he).1
      have := hbw2.size
      omega
    · rw [hN] at hb
      have h2 := (ownG_cells hT3.own hb).1
      have := hbw2.size
      omega
  generalize w3.alloc (.cells #[.int .i64 (wd : Int), .slice ao N co] 37) = w4 at al3 hb23 hbw4 hH ⊢
  obtain ⟨g, hg⟩ : ∃ g, w3.heap.size = g := ⟨_, rfl⟩
  rw [hg] at hH
  try rw [hg]
  clear hg hT3 hb23 al3 nC0 nC1 cA0 cA1 hb1 hb2 hbw1 hbw2 HC HT' HT2' hA hqq
  have o0 := Lib.cell_of_heap hH.out 0
  have o1 := Lib.cell_of_heap hH.out 1
  rw [hN] at o1 o0
  have zN : ((N : Int) == 0) = false := by simp; omega
  have zx : decide ((x : Int) < 2) = true := by simp; omega
  have hy' : y < N := by omega
  have alR : Below w4.heap.size w4 (w4.alloc (.cells #[] 9)) := (Below.refl _ _).alloc (Nat.le_refl _) _
  have hO : OwnT w4 [] (some ⟨w4.heap.size, 0, none⟩) 0 0 (w4.alloc (.cells #[] 9)) := ⟨⟨rfl, .inr ⟨_, 0, #[], rfl, Nat.le_refl _, heap_alloc_new w4 _, by simp⟩⟩, alR, rfl⟩
  obtain ⟨i0, hi0, hz0, hz1, hz2⟩ := info_parts2 info9
  have hsa : SArg ao ss w4 := hH.oown.sarg hss (by omega) (by omega)
  go_upto_region 9 with fail
  generalize w4.alloc (.cells #[] 9) = w5 at alR hO ⊢
  clear o0 o1 alR
  obtain ⟨g4, hg4⟩ : ∃ g, w4.heap.size = g := ⟨_, rfl⟩
  rw [hg4] at hO
  try rw [hg4]
  have hNl : Hid (ss.length = N) := hN
  clear hN
  go_wp2_with fail
  go_loopw [14, 15] (fun t14 t15 wr => ∃ k : Nat, k ≤ N ∧ t15 = .int .i64 (k : Int) ∧ ∃ (a' : Option Addr) (m c' : Nat), t14 = .slice a' m c' ∧ OwnT w4 (butT ss y k) a' m c' wr) (fun _ t15 _ => N - (intOf t15).toNat)
  case atStart => exact ⟨0, Nat.zero_le _, rfl, _, _, _, rfl, hO⟩
  case round =>
    clear hO
    obtain ⟨k, hk, rfl, a', m, c', rfl, hT⟩ := hrel
    have hHr := hH.below hT.bel
    have o0 := Lib.cell_of_heap hHr.out 0
    have o1 := Lib.cell_of_heap hHr.out 1
    rw [hNl.out] at o0 o1
    have own := hT.own
    have hbs := hT.bel.size
    by_cases hlt : k < N
    · have z1 : decide ((k : Int) < (N : Int)) = true := by simp; omega
      have hx0 : (0 : Int) ≤ (k : Int) := Int.natCast_nonneg _
      have hx1 : (k : Int) < (N : Int) := by omega
      have hml : m ≤ 1048576 := by have := hT.len; have := (butT_sm hss y k).len; omega
      by_cases hky : k = y
      · have htk : Hid (butT ss y (k + 1) = butT ss y k) := by show _ = _; rw [butT, if_pos hky]
        have z2 : ((k : Int) == (y : Int)) = true := by simp; omega
        have z3 : ((k : Int) != (y : Int)) = false := by simp; omega
        clear hHr
        go_wp2_with fail
        go_roundw
        case rel => exact ⟨k + 1, hlt, by go_num, _, _, _, rfl, by rw [htk.out]; exact hT⟩
        case measure => simp [intOf]; omega
      · have htk : Hid (butT ss y (k + 1) = butT ss y k ++ [ss.getD k ⟨#[]⟩]) := by show _ = _; rw [butT, if_neg hky]
        have z2 : ((k : Int) == (y : Int)) = false := by simp; omega
        have z3 : ((k : Int) != (y : Int)) = true := by simp; omega
        obtain ⟨b1, off1, rfl, hbl1, hc⟩ := (hsa.below hT.bel).at_ (by rw [hNl.out]; omega)
        have hc1 := hc k (by rw [hNl.out]; exact hlt)
        generalize ss.getD k ⟨#[]⟩ = u at hc1 htk
        clear hc hHr hsa
        go_wp2_with (at_builtin; refine wpList_append_lies _ rfl (.tmp 57) (.tmp 63) 35 rfl w4.heap.size 9 i0 (.string ⟨#[]⟩) 1 16 Tryz.underlying35 hi0 hz0 hz1 hz2 rfl (by decide) (.slice a' m c') m ((butT ss y k).map Value.string) rfl (own.alloc _) ⟨wr.heap.size, 0, none⟩ 1 1 [.string u] rfl rfl (World.news_of_block (heap_alloc_new wr _)) (by simp [Value.oneCell']) (by decide) (by unfold maxLen; omega) (by omega) (by simp; omega) (wr.heap.size + 1) (by simp) ?_; intro g5 c5 w5 hown5 hgrow5 hat5 hlt5)
        go_roundw
        case rel => exact ⟨k + 1, hlt, by go_num, _, _, _, rfl, by rw [htk.out]; exact hT.more hown5 hgrow5 rfl⟩
        case measure => simp [intOf]; omega
    · obtain rfl : k = N := by omega
      have z1 : decide ((k : Int) < (k : Int)) = false := by simp
      have hl := hT.len
      subst hl
      have hT0 : OwnT w0 (butT ss y k) a' (butT ss y k).length c' wr := hT.up (hR.bel.trans (hbw4.mono hR.bel.size))
      have hdd : ∀ b, (Value.slice ar roots.length cr).ownBlock = some b → (Value.slice a' (butT ss y k).length c').ownBlock ≠ some b := fun b hb he => by
        have h1 := (ownG_cells hH.rown.own hb).2.1
        have h2 := (ownG_cells hT.own he).1
        omega
      have hob : ∀ b, (Value.slice a' (butT ss y k).length c').ownBlock = some b → gp ≤ b := fun b hb => by
        have h2 := (ownG_cells hT.own hb).1
        have h3 := (Array.getElem?_eq_some_iff.1 hH.par).1
        omega
      have hP := hHr.put hT0 hdd hob
      have gf : ∀ j, wr.frozen? ⟨g, j, none⟩ = false := fun j => by rw [World.frozen?, hHr.out]; rfl
      clear hT0 hdd hob hT own hHr hH hsa
      go_upto_region 15 with fail
      have hbt := butT_sm hss y k
      generalize wr.setCell ⟨g, 1, none⟩ (.slice a' (butT ss y k).length c') = w6 at hP ⊢
      have hfin : Hid (HGot fz ex gz wd (butT ss y k) roots q2 w0 _ _) := hP.fin (z := q2) hbt hr (by omega) (by omega) (by omega) (by omega) (by omega)
      have m1 := hP.m1
      rw [hRn] at hfin
      have e0 := Lib.cell_of_heap hP.res 0
      have e1 := Lib.cell_of_heap hP.res 1
      have ef : ∀ j, w6.frozen? ⟨gp + 1, j, none⟩ = false := fun j => by rw [World.frozen?, hP.res]; rfl
      have p0 := Lib.cell_of_heap hP.out 0
      have p1 := Lib.cell_of_heap hP.out 1
      clear hP o0 o1 gf hbt
      generalize (butT ss y k).length = M at m1 hfin p0 p1 ⊢
      go_wp2_with fail
      exact retPT Tryz.results114 rfl rfl rfl rfl m1 hfin.out
end Go.Proofs.YtfmpjlpakldheaaGreatDoor
