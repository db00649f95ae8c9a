import Derived.Test.YthopecgcpfhceacDoorZb
namespace Go.Proofs.YthopecgcpfhceacDoor
open Go.RowKit Go.Proofs.Sha

def pfR (D : Dec) (n : Int) (ss : List ByteArray) (hash : ByteArray) : (ByteArray × ByteArray × ByteArray × ByteArray) × Int :=
  if poolOk n ss.length = true ∧ (hash.size : Int) = n then foundR D ss (firstI (hitB n.toNat ss hash) ss.length) else ((⟨#[]⟩, ⟨#[]⟩, ⟨#[]⟩, ⟨#[]⟩), 1)

/-- A node's block. -/
def NBk (g : Nat) (k v l r : ByteArray) (w : World) : Prop := w.heap[g]? = some (.cells #[.string k, .string v, .string l, .string r] 26)
theorem NBk.below {g : Nat} {k v l r : ByteArray} {w w' : World} (h : NBk g k v l r w) (hb : Below w.heap.size w w') : NBk g k v l r w' := (hb.block g (Array.getElem?_eq_some_iff.1 h).1).trans h
theorem NBk.all {g : Nat} {k v l r : ByteArray} {w : World} (h : NBk g k v l r w) (x y z u : ByteArray) : NBk g x y z u ((((w.setCell ⟨g, 0, none⟩ (.string x)).setCell ⟨g, 1, none⟩ (.string y)).setCell ⟨g, 2, none⟩ (.string z)).setCell ⟨g, 3, none⟩ (.string u)) :=
  heap_setCell_same _ g 3 _ 26 _ (heap_setCell_same _ g 2 _ 26 _ (heap_setCell_same _ g 1 _ 26 _ (heap_setCell_same _ g 0 _ 26 _ h)))
theorem NBk.fr {g j : Nat} {k v l r : ByteArray} {w : World} (h : NBk g k v l r w) : w.frozen? ⟨g, j, none⟩ = false := by rw [World.frozen?, show w.heap[g]? = _ from h]; rfl
structure NBc (g : Nat) (k v l r : ByteArray) (w : World) : Prop where
  c0 : w.cell? ⟨g, 0, none⟩ = some (.string k)
  c1 : w.cell? ⟨g, 1, none⟩ = some (.string v)
  c2 : w.cell? ⟨g, 2, none⟩ = some (.string l)
  c3 : w.cell? ⟨g, 3, none⟩ = some (.string r)
  f0 : w.frozen? ⟨g, 0, none⟩ = false
  f1 : w.frozen? ⟨g, 1, none⟩ = false
  f2 : w.frozen? ⟨g, 2, none⟩ = false
  f3 : w.frozen? ⟨g, 3, none⟩ = false
theorem NBk.at {g : Nat} {k v l r : ByteArray} {w : World} (h : NBk g k v l r w) : NBc g k v l r w :=
  ⟨Lib.cell_of_heap h 0, Lib.cell_of_heap h 1, Lib.cell_of_heap h 2, Lib.cell_of_heap h 3, h.fr, h.fr, h.fr, h.fr⟩
set_option maxRecDepth 100000 in
theorem retN {fn : Func} {R : Ending → World → Prop} {A : Act} {p q : Tmp} {gb : Nat} {k v l r : ByteArray} {c : Int} {W : World} (hres : fn.results = #[.cell p 26, .tmp q]) (hp : A.tmps.getD p undef = .pointer (some ⟨gb, 0, none⟩)) (hq : A.tmps.getD q undef = .int .i64 c) (hd : A.defers = []) (n : NBk gb k v l r W)
    (h : R (.returned (nodeT ((k, v, l, r), c))) W) : bodyPost Tryd.prog fn R Exit.ret A W := by
  obtain ⟨c0, c1, c2, c3, _, _, _, _⟩ := n.at
  have hp' : A.tmps[p]?.getD undef = .pointer (some ⟨gb, 0, none⟩) := by simpa using hp
  have hq' : A.tmps[q]?.getD undef = .int .i64 c := by simpa using hq
  refine bodyPost_ret (v := nodeT ((k, v, l, r), c)) ?_ hd h
  unfold nodeT
  simp [results, hres, go_sem, asAddr, hp', hq', c0, c1, c2, c3]
/-- A call whose argument is a pool and which answers a node. -/
structure P2 (w : World) (ga gb : Nat) (n : Int) (a : Option Addr) (m c : Nat) (W : World) : Prop where
  sz : w.heap.size = ga
  nx : gb = ga + 1
  bl : Below ga w W
  na : W.heap[ga]? = some (.cells #[.int .i64 n, .slice a m c] 35)
  nb : NBk gb ⟨#[]⟩ ⟨#[]⟩ ⟨#[]⟩ ⟨#[]⟩ W
section
variable {w : World} {ga gb : Nat} {n : Int} {a : Option Addr} {m c : Nat} {W W' : World}
theorem P2.mk0 (w : World) (n : Int) (a : Option Addr) (m c : Nat) : P2 w w.heap.size (w.heap.size + 1) n a m c ((w.alloc (.cells #[.int .i64 n, .slice a m c] 35)).alloc (.cells #[.string ⟨#[]⟩, .string ⟨#[]⟩, .string ⟨#[]⟩, .string ⟨#[]⟩] 26)) := by
  refine ⟨rfl, rfl, ((Below.refl _ w).alloc (Nat.le_refl _) _).alloc (by simp) _, ?_, ?_⟩
  · exact (((Below.refl _ (w.alloc (.cells #[.int .i64 n, .slice a m c] 35))).alloc (Nat.le_refl _) _).block _ (by simp)).trans (heap_alloc_new w _)
  · have := heap_alloc_new (w.alloc (.cells #[.int .i64 n, .slice a m c] 35)) (.cells #[.string ⟨#[]⟩, .string ⟨#[]⟩, .string ⟨#[]⟩, .string ⟨#[]⟩] 26)
    rw [World.size_alloc] at this
    exact this
theorem P2.below (h : P2 w ga gb n a m c W) (hb : Below W.heap.size W W') : P2 w ga gb n a m c W' :=
  ⟨h.sz, h.nx, h.bl.trans (hb.mono (by have := h.bl.size; have := h.sz; omega)), (hb.block ga (Array.getElem?_eq_some_iff.1 h.na).1).trans h.na, h.nb.below hb⟩
theorem P2.fin (h : P2 w ga gb n a m c W) (x y z u : ByteArray) : Below w.heap.size w ((((W.setCell ⟨gb, 0, none⟩ (.string x)).setCell ⟨gb, 1, none⟩ (.string y)).setCell ⟨gb, 2, none⟩ (.string z)).setCell ⟨gb, 3, none⟩ (.string u)) := by
  have hge : ga ≤ gb := by have := h.nx; omega
  rw [h.sz]
  exact (((h.bl.setCell hge _).setCell hge _).setCell hge _).setCell hge _
theorem P2.set4 (h : P2 w ga gb n a m c W) {g : Nat} (hg : gb < g) (x y z u : Value) : P2 w ga gb n a m c ((((W.setCell ⟨g, 0, none⟩ x).setCell ⟨g, 1, none⟩ y).setCell ⟨g, 2, none⟩ z).setCell ⟨g, 3, none⟩ u) := by
  have hge : gb + 1 ≤ g := hg
  have hb : Below (gb + 1) W ((((W.setCell ⟨g, 0, none⟩ x).setCell ⟨g, 1, none⟩ y).setCell ⟨g, 2, none⟩ z).setCell ⟨g, 3, none⟩ u) := ((((Below.refl _ W).setCell hge _).setCell hge _).setCell hge _).setCell hge _
  have hx := h.nx
  exact ⟨h.sz, h.nx, h.bl.trans (hb.mono (by omega)), (hb.block ga (by omega)).trans h.na, (hb.block gb (by omega)).trans h.nb⟩
theorem P2.bw (h : P2 w ga gb n a m c W) : Below w.heap.size w W := by rw [h.sz]; exact h.bl
end

set_option maxRecDepth 100000 in
set_option maxHeartbeats 2000000 in
theorem pf_impl {K : World → Prop} (HH : Hid (HashSaid K)) (keep : Hid (∀ w1 w2, K w1 → Below w1.heap.size w1 w2 → K w2)) (D : Dec) (n : Int) (HDc : Hid (∀ wd : Nat, (wd : Int) = n → 1 ≤ wd → wd ≤ 32 → DecSaid 28 wd D)) (a : Option Addr) (ss : List ByteArray) (c : Nat) (hash : ByteArray) (w : World) (h : SArg a ss w) (hK : K w) :
    Calls Tryd.prog 12 #[.agg #[.int .i64 n, .slice a ss.length c], .string hash] w fun e w' => e = .returned (nodeT (pfR D n ss hash)) ∧ Below w.heap.size w w' := by
  have hle := h.le
  obtain ⟨b, hb⟩ : ∃ b, poolOk n ss.length = b := ⟨_, rfl⟩
  have HO : Hid (∀ w', Calls Tryd.prog 25 #[.agg #[.int .i64 n, .slice a ss.length c]] w' fun e w'' => e = .returned (.bool b) ∧ Below w'.heap.size w' w'') := fun w' => by rw [← hb]; exact validPool_any n a ss.length c w' hle
  cases b with
  | false =>
    have hr : pfR D n ss hash = ((⟨#[]⟩, ⟨#[]⟩, ⟨#[]⟩, ⟨#[]⟩), 1) := by unfold pfR; rw [if_neg (fun hh => by rw [hb] at hh; cases hh.1)]
    rw [hr]
    clear hr hb
    go_enter Tryd.func12, Tryd.ntmps12
    go_wp2_with fail
    refine (HO.out _).mono ?_
    rintro e w1 ⟨rfl, hb1⟩
    have hS := (P2.mk0 w n a ss.length c).below hb1
    clear hb1
    obtain ⟨ga, hga⟩ : ∃ ga, w.heap.size = ga := ⟨_, rfl⟩
    obtain ⟨gb, hgb⟩ : ∃ gb, w.heap.size + 1 = gb := ⟨_, rfl⟩
    rw [hgb, hga]
    rw [hgb, hga] at hS
    clear hga hgb
    obtain ⟨c0, c1, c2, c3, f0, f1, f2, f3⟩ := hS.nb.at
    go_wp2_with fail
    exact retN Tryd.results12 rfl rfl rfl (hS.nb.all _ _ _ _) ⟨rfl, hS.fin _ _ _ _⟩
  | true =>
    by_cases hz : (hash.size : Int) = n
    · obtain ⟨wd, hwd⟩ : ∃ wd, hash.size = wd := ⟨_, rfl⟩
      rw [hwd] at hz
      subst hz
      have hpo : 1 ≤ wd ∧ wd ≤ 32 := by
        unfold poolOk at hb
        rw [decide_eq_true_eq] at hb
        omega
      obtain ⟨fx, hfx⟩ : ∃ fx, firstI (hitB wd ss hash) ss.length = fx := ⟨_, rfl⟩
      have hr : pfR D (wd : Int) ss hash = foundR D ss fx := by unfold pfR; rw [if_pos ⟨hb, by rw [hwd]⟩, Int.toNat_natCast, hfx]
      rw [hr]
      have hpl : placesF wd ss ss.length (cutW wd hash.data.toList) = fx.map fun i => (i : Int) := by
        rw [placesF_first, ← hfx, show (fun i => decide (keyW wd (ss.getD i ⟨#[]⟩) = cutW wd hash.data.toList)) = hitB wd ss hash from funext fun i => key_hit wd ss hash hpo.2 hwd i]
      have hlt : ∀ i, fx = some i → i < ss.length := fun i hi => firstI_lt (hfx.trans hi)
      have HP : Hid (∀ w', SArg a ss w' → K w' → Calls Tryd.prog 26 #[.agg #[.int .i64 (wd : Int), .slice a ss.length c]] w' fun e w'' => ∃ r, e = .returned (.agg #[.int .i64 (wd : Int), .map (some r)]) ∧ MapF (placesF wd ss ss.length) r w'' ∧ Below w'.heap.size w' w'') := fun w' h1 h2 => places_any HH keep wd a ss c w' h1 h2 hpo.2
      have HDd : Hid (DecSaid 28 wd D) := HDc.out wd rfl hpo.1 hpo.2
      have z1 : ((hash.size : Int) != (wd : Int)) = false := by rw [hwd]; simp
      clear hr hb hfx HDc
      cases fx with
      | none =>
        have HFi : Hid (∀ w' r, MapF (placesF wd ss ss.length) r w' → Calls Tryd.prog 27 #[.agg #[.int .i64 (wd : Int), .map (some r)], .string hash] w' fun e w'' => e = .returned (.tuple #[.int .i64 0, .bool false]) ∧ Below w'.heap.size w' w'') := fun w' r hm => by
          have := find_any wd r _ hash w' hm hpo.2 hwd
          rw [hpl] at this
          exact this
        clear hpl hwd
        unfold foundR
        go_enter Tryd.func12, Tryd.ntmps12
        go_wp2_with fail
        refine (HO.out _).mono ?_
        rintro e w1 ⟨rfl, hb1⟩
        have hS := (P2.mk0 w (wd : Int) _ ss.length c).below hb1
        clear hb1
        obtain ⟨ga, hga⟩ : ∃ ga, w.heap.size = ga := ⟨_, rfl⟩
        obtain ⟨gb, hgb⟩ : ∃ gb, w.heap.size + 1 = gb := ⟨_, rfl⟩
        rw [hgb, hga]
        rw [hgb, hga] at hS
        clear hga hgb
        have d0 := Lib.cell_of_heap hS.na 0
        have d1 := Lib.cell_of_heap hS.na 1
        go_wp2_with fail
        refine (HP.out _ (h.below hS.bw) (keep.out _ _ hK hS.bw)).mono ?_
        rintro e w2 ⟨r, rfl, hM2, hb2⟩
        have hS2 := hS.below hb2
        clear hS hb2 d0 d1
        go_wp2_with fail
        refine (HFi.out _ r hM2).mono ?_
        rintro e w3 ⟨rfl, hb3⟩
        have hS3 := hS2.below hb3
        clear hS2 hb3 hM2
        obtain ⟨c0, c1, c2, c3, f0, f1, f2, f3⟩ := hS3.nb.at
        go_wp2_with fail
        exact retN Tryd.results12 rfl rfl rfl (hS3.nb.all _ _ _ _) ⟨rfl, hS3.fin _ _ _ _⟩
      | some i =>
        have HFi : Hid (∀ w' r, MapF (placesF wd ss ss.length) r w' → Calls Tryd.prog 27 #[.agg #[.int .i64 (wd : Int), .map (some r)], .string hash] w' fun e w'' => e = .returned (.tuple #[.int .i64 (i : Int), .bool true]) ∧ Below w'.heap.size w' w'') := fun w' r hm => by
          have := find_any wd r _ hash w' hm hpo.2 hwd
          rw [hpl] at this
          exact this
        clear hpl hwd
        have hil := hlt i rfl
        obtain ⟨s, hs⟩ : ∃ s, ss.getD i ⟨#[]⟩ = s := ⟨_, rfl⟩
        have hsz : s.size ≤ 1048576 := by rw [← hs]; exact h.sz i
        have hfr : foundR D ss (some i) = if D.ok s then ((D.k s, D.v s, D.l s, D.r s), 0) else ((⟨#[]⟩, ⟨#[]⟩, ⟨#[]⟩, ⟨#[]⟩), 3) := by rw [foundR, hs]
        rw [hfr]
        clear hfr hlt
        obtain ⟨b, off, rfl, hbl, hcs⟩ := h.at_ (by omega)
        have q1 : (i : Int) < (ss.length : Int) := by omega
        obtain ⟨xk, hxk⟩ : ∃ x, D.k s = x := ⟨_, rfl⟩
        obtain ⟨xv, hxv⟩ : ∃ x, D.v s = x := ⟨_, rfl⟩
        obtain ⟨xl, hxl⟩ : ∃ x, D.l s = x := ⟨_, rfl⟩
        obtain ⟨xr, hxr⟩ : ∃ x, D.r s = x := ⟨_, rfl⟩
        rw [hxk, hxv, hxl, hxr]
        cases hok : D.ok s with
        | true =>
          have HD1 : Hid (∀ w', Calls Tryd.prog 28 #[.string s, .int .i64 (wd : Int)] w' fun e w'' => e = .returned (.tuple #[.agg #[.string xk, .string xv, .string xl, .string xr], .bool true]) ∧ Below w'.heap.size w' w'') := fun w' => by
            have := HDd.out s w' hsz
            rw [hok, hxk, hxv, hxl, hxr] at this
            exact this
          rw [if_pos rfl]
          go_enter Tryd.func12, Tryd.ntmps12
          go_wp2_with fail
          refine (HO.out _).mono ?_
          rintro e w1 ⟨rfl, hb1⟩
          have hS := (P2.mk0 w (wd : Int) _ ss.length c).below hb1
          clear hb1
          obtain ⟨ga, hga⟩ : ∃ ga, w.heap.size = ga := ⟨_, rfl⟩
          obtain ⟨gb, hgb⟩ : ∃ gb, w.heap.size + 1 = gb := ⟨_, rfl⟩
          rw [hgb, hga]
          rw [hgb, hga] at hS
          clear hga hgb
          have d0 := Lib.cell_of_heap hS.na 0
          have d1 := Lib.cell_of_heap hS.na 1
          go_wp2_with fail
          refine (HP.out _ (h.below hS.bw) (keep.out _ _ hK hS.bw)).mono ?_
          rintro e w2 ⟨r, rfl, hM2, hb2⟩
          have hS2 := hS.below hb2
          clear hS hb2 d0 d1
          go_wp2_with fail
          refine (HFi.out _ r hM2).mono ?_
          rintro e w3 ⟨rfl, hb3⟩
          have hS3 := hS2.below hb3
          clear hS2 hb3 hM2
          have d0 := Lib.cell_of_heap hS3.na 0
          have d1 := Lib.cell_of_heap hS3.na 1
          have hc0 := hcs i hil
          rw [hs] at hc0
          have hC : Hid (∀ W, P2 w ga gb (wd : Int) (some ⟨b, off, none⟩) ss.length c W → W.cell? ⟨ga, 1, none⟩ = some (.slice (some ⟨b, off, none⟩) ss.length c) ∧ W.cell? ⟨b, off + i, none⟩ = some (.string s) ∧ W.cell? ⟨ga, 0, none⟩ = some (.int .i64 (wd : Int))) := fun W hW => ⟨Lib.cell_of_heap hW.na 1, (hW.bw.cell hbl).trans hc0, Lib.cell_of_heap hW.na 0⟩
          have hcx := (hS3.bw.cell hbl).trans hc0
          have hg3 : Hid (gb < w3.heap.size) := (Array.getElem?_eq_some_iff.1 hS3.nb).1
          clear hcs hs hc0
          go_wp2_with fail
          go_region_held3 (fun w' => w'.cell? ⟨ga, 1, none⟩ = some (.slice (some ⟨b, off, none⟩) ss.length c) ∧ w'.cell? ⟨b, off + i, none⟩ = some (.string s) ∧ w'.cell? ⟨ga, 0, none⟩ = some (.int .i64 (wd : Int))) (first | exact ⟨d1, hcx, d0⟩ | exact hC.out _ (hS3.below ((Below.refl _ w3).drew.alloc (Nat.le_refl _) _)) | exact hC.out _ hS4 | exact hC.out _ (hS4.set4 hg3.out _ _ _ _) | exact hC.out _ (hS4.below ((Below.refl _ _).alloc (Nat.le_refl _) _))) (first | (go_at_call 28; refine (HD1.out _).mono ?_; rintro e w4 ⟨rfl, hb4⟩; have n4 : NBk w3.heap.size ⟨#[]⟩ ⟨#[]⟩ ⟨#[]⟩ ⟨#[]⟩ w4 := NBk.below (show NBk w3.heap.size ⟨#[]⟩ ⟨#[]⟩ ⟨#[]⟩ ⟨#[]⟩ (w3.drew.alloc (.cells #[.string ⟨#[]⟩, .string ⟨#[]⟩, .string ⟨#[]⟩, .string ⟨#[]⟩] 26)) from heap_alloc_new w3.drew _) hb4; have hS4 := (hS3.below ((Below.refl _ w3).drew.alloc (Nat.le_refl _) (.cells #[.string ⟨#[]⟩, .string ⟨#[]⟩, .string ⟨#[]⟩, .string ⟨#[]⟩] 26))).below hb4; clear hb4; obtain ⟨k0, k1, k2, k3, l0, l1, l2, l3⟩ := n4.at) | (go_at_call 28; refine (HD1.out _).mono ?_; rintro e w4 ⟨rfl, hb4⟩; have hS4 := hS3.below ((Below.refl w3.heap.size w3).drew.trans hb4); clear hb4))
          all_goals (clear d0 d1 hcx)
          · have n5 : NBk w4.heap.size xk xv xl xr (w4.alloc (.cells #[.string xk, .string xv, .string xl, .string xr] 26)) := heap_alloc_new _ _
            have hS5 := hS4.below ((Below.refl _ w4).alloc (Nat.le_refl _) (.cells #[.string xk, .string xv, .string xl, .string xr] 26))
            generalize w4.alloc (.cells #[.string xk, .string xv, .string xl, .string xr] 26) = W5 at n5 hS5 ⊢
            generalize w4.heap.size = g5 at n5 ⊢
            clear hS4
            obtain ⟨k0, k1, k2, k3, l0, l1, l2, l3⟩ := n5.at
            obtain ⟨c0, c1, c2, c3, f0, f1, f2, f3⟩ := hS5.nb.at
            go_wp2_with fail
            exact retN Tryd.results12 rfl rfl rfl (hS5.nb.all _ _ _ _) ⟨rfl, hS5.fin _ _ _ _⟩
          · have n5 := n4.all xk xv xl xr
            have hS5 := hS4.set4 hg3.out (.string xk) (.string xv) (.string xl) (.string xr)
            generalize (((w4.setCell ⟨w3.heap.size, 0, none⟩ (.string xk)).setCell ⟨w3.heap.size, 1, none⟩ (.string xv)).setCell ⟨w3.heap.size, 2, none⟩ (.string xl)).setCell ⟨w3.heap.size, 3, none⟩ (.string xr) = W5 at n5 hS5 ⊢
            generalize w3.heap.size = g5 at n5 ⊢
            clear k0 k1 k2 k3 l0 l1 l2 l3 n4 hS4
            obtain ⟨k0, k1, k2, k3, l0, l1, l2, l3⟩ := n5.at
            obtain ⟨c0, c1, c2, c3, f0, f1, f2, f3⟩ := hS5.nb.at
            go_wp2_with fail
            exact retN Tryd.results12 rfl rfl rfl (hS5.nb.all _ _ _ _) ⟨rfl, hS5.fin _ _ _ _⟩
        | false =>
          have HD1 : Hid (∀ w', Calls Tryd.prog 28 #[.string s, .int .i64 (wd : Int)] w' fun e w'' => e = .returned (.tuple #[.agg #[.string xk, .string xv, .string xl, .string xr], .bool false]) ∧ Below w'.heap.size w' w'') := fun w' => by
            have := HDd.out s w' hsz
            rw [hok, hxk, hxv, hxl, hxr] at this
            exact this
          rw [if_neg (by simp)]
          go_enter Tryd.func12, Tryd.ntmps12
          go_wp2_with fail
          refine (HO.out _).mono ?_
          rintro e w1 ⟨rfl, hb1⟩
          have hS := (P2.mk0 w (wd : Int) _ ss.length c).below hb1
          clear hb1
          obtain ⟨ga, hga⟩ : ∃ ga, w.heap.size = ga := ⟨_, rfl⟩
          obtain ⟨gb, hgb⟩ : ∃ gb, w.heap.size + 1 = gb := ⟨_, rfl⟩
          rw [hgb, hga]
          rw [hgb, hga] at hS
          clear hga hgb
          have d0 := Lib.cell_of_heap hS.na 0
          have d1 := Lib.cell_of_heap hS.na 1
          go_wp2_with fail
          refine (HP.out _ (h.below hS.bw) (keep.out _ _ hK hS.bw)).mono ?_
          rintro e w2 ⟨r, rfl, hM2, hb2⟩
          have hS2 := hS.below hb2
          clear hS hb2 d0 d1
          go_wp2_with fail
          refine (HFi.out _ r hM2).mono ?_
          rintro e w3 ⟨rfl, hb3⟩
          have hS3 := hS2.below hb3
          clear hS2 hb3 hM2
          have d0 := Lib.cell_of_heap hS3.na 0
          have d1 := Lib.cell_of_heap hS3.na 1
          have hc0 := hcs i hil
          rw [hs] at hc0
          have hC : Hid (∀ W, P2 w ga gb (wd : Int) (some ⟨b, off, none⟩) ss.length c W → W.cell? ⟨ga, 1, none⟩ = some (.slice (some ⟨b, off, none⟩) ss.length c) ∧ W.cell? ⟨b, off + i, none⟩ = some (.string s) ∧ W.cell? ⟨ga, 0, none⟩ = some (.int .i64 (wd : Int))) := fun W hW => ⟨Lib.cell_of_heap hW.na 1, (hW.bw.cell hbl).trans hc0, Lib.cell_of_heap hW.na 0⟩
          have hcx := (hS3.bw.cell hbl).trans hc0
          have hg3 : Hid (gb < w3.heap.size) := (Array.getElem?_eq_some_iff.1 hS3.nb).1
          clear hcs hs hc0
          go_wp2_with fail
          go_region_held3 (fun w' => w'.cell? ⟨ga, 1, none⟩ = some (.slice (some ⟨b, off, none⟩) ss.length c) ∧ w'.cell? ⟨b, off + i, none⟩ = some (.string s) ∧ w'.cell? ⟨ga, 0, none⟩ = some (.int .i64 (wd : Int))) (first | exact ⟨d1, hcx, d0⟩ | exact hC.out _ (hS3.below ((Below.refl _ w3).drew.alloc (Nat.le_refl _) _)) | exact hC.out _ hS4 | exact hC.out _ (hS4.set4 hg3.out _ _ _ _) | exact hC.out _ (hS4.below ((Below.refl _ _).alloc (Nat.le_refl _) _))) (first | (go_at_call 28; refine (HD1.out _).mono ?_; rintro e w4 ⟨rfl, hb4⟩; have n4 : NBk w3.heap.size ⟨#[]⟩ ⟨#[]⟩ ⟨#[]⟩ ⟨#[]⟩ w4 := NBk.below (show NBk w3.heap.size ⟨#[]⟩ ⟨#[]⟩ ⟨#[]⟩ ⟨#[]⟩ (w3.drew.alloc (.cells #[.string ⟨#[]⟩, .string ⟨#[]⟩, .string ⟨#[]⟩, .string ⟨#[]⟩] 26)) from heap_alloc_new w3.drew _) hb4; have hS4 := (hS3.below ((Below.refl _ w3).drew.alloc (Nat.le_refl _) (.cells #[.string ⟨#[]⟩, .string ⟨#[]⟩, .string ⟨#[]⟩, .string ⟨#[]⟩] 26))).below hb4; clear hb4; obtain ⟨k0, k1, k2, k3, l0, l1, l2, l3⟩ := n4.at) | (go_at_call 28; refine (HD1.out _).mono ?_; rintro e w4 ⟨rfl, hb4⟩; have hS4 := hS3.below ((Below.refl w3.heap.size w3).drew.trans hb4); clear hb4))
          all_goals (clear d0 d1 hcx)
          · have n5 : NBk w4.heap.size xk xv xl xr (w4.alloc (.cells #[.string xk, .string xv, .string xl, .string xr] 26)) := heap_alloc_new _ _
            have hS5 := hS4.below ((Below.refl _ w4).alloc (Nat.le_refl _) (.cells #[.string xk, .string xv, .string xl, .string xr] 26))
            generalize w4.alloc (.cells #[.string xk, .string xv, .string xl, .string xr] 26) = W5 at n5 hS5 ⊢
            generalize w4.heap.size = g5 at n5 ⊢
            clear hS4
            obtain ⟨k0, k1, k2, k3, l0, l1, l2, l3⟩ := n5.at
            obtain ⟨c0, c1, c2, c3, f0, f1, f2, f3⟩ := hS5.nb.at
            go_wp2_with fail
            exact retN Tryd.results12 rfl rfl rfl (hS5.nb.all _ _ _ _) ⟨rfl, hS5.fin _ _ _ _⟩
          · have n5 := n4.all xk xv xl xr
            have hS5 := hS4.set4 hg3.out (.string xk) (.string xv) (.string xl) (.string xr)
            generalize (((w4.setCell ⟨w3.heap.size, 0, none⟩ (.string xk)).setCell ⟨w3.heap.size, 1, none⟩ (.string xv)).setCell ⟨w3.heap.size, 2, none⟩ (.string xl)).setCell ⟨w3.heap.size, 3, none⟩ (.string xr) = W5 at n5 hS5 ⊢
            generalize w3.heap.size = g5 at n5 ⊢
            clear k0 k1 k2 k3 l0 l1 l2 l3 n4 hS4
            obtain ⟨k0, k1, k2, k3, l0, l1, l2, l3⟩ := n5.at
            obtain ⟨c0, c1, c2, c3, f0, f1, f2, f3⟩ := hS5.nb.at
            go_wp2_with fail
            exact retN Tryd.results12 rfl rfl rfl (hS5.nb.all _ _ _ _) ⟨rfl, hS5.fin _ _ _ _⟩
    · have hr : pfR D n ss hash = ((⟨#[]⟩, ⟨#[]⟩, ⟨#[]⟩, ⟨#[]⟩), 1) := by unfold pfR; rw [if_neg (fun hh => hz hh.2)]
      rw [hr]
      clear hr hb
      have z1 : ((hash.size : Int) != n) = true := by rw [bne_iff_ne]; exact hz
      go_enter Tryd.func12, Tryd.ntmps12
      go_wp2_with fail
      refine (HO.out _).mono ?_
      rintro e w1 ⟨rfl, hb1⟩
      have hS := (P2.mk0 w n a ss.length c).below hb1
      clear hb1
      obtain ⟨ga, hga⟩ : ∃ ga, w.heap.size = ga := ⟨_, rfl⟩
      obtain ⟨gb, hgb⟩ : ∃ gb, w.heap.size + 1 = gb := ⟨_, rfl⟩
      rw [hgb, hga]
      rw [hgb, hga] at hS
      clear hga hgb
      obtain ⟨c0, c1, c2, c3, f0, f1, f2, f3⟩ := hS.nb.at
      have d0 := Lib.cell_of_heap hS.na 0
      have d1 := Lib.cell_of_heap hS.na 1
      go_wp2_with fail
      exact retN Tryd.results12 rfl rfl rfl (hS.nb.all _ _ _ _) ⟨rfl, hS.fin _ _ _ _⟩
end Go.Proofs.YthopecgcpfhceacDoor
namespace Go.Proofs.YthopecgcpfhceacDoor
open Go.RowKit Go.Proofs.Sha

/-- What the specification's Digest says, by itself. -/
def DigSaid : Prop := ∀ (t : ByteArray) (k : Nat) (w : World), t.size ≤ 1048576 → 1 ≤ k → k ≤ 32 → Calls Tryd.prog 16 #[.string t, .int .i64 (k : Int)] w fun e w' => e = .returned (.string ⟨((sha t.data.toList).take k).toArray⟩) ∧ Below w.heap.size w w'
/-- A node's hash, at a width. -/
def hashT (wd : Nat) (s : ByteArray) : ByteArray := ⟨((sha (78 :: s.data.toList)).take wd).toArray⟩
theorem info9 : (Tryd.prog.info? 9).map (fun i => (i.zero, i.size, i.bytes)) = some (some (.string ⟨#[]⟩), 1, 16) := by kernel_rfl
theorem ltext_any (e : ByteArray) (w : World) (he : e.size ≤ 1048575) :
    Calls Tryd.prog 17 #[.string e] w fun x w' => ∃ t : ByteArray, x = .returned (.string t) ∧ t.size ≤ 1048576 ∧ Hid (t.data.toList = 78 :: e.data.toList) ∧ w = w' := by
  have z : ¬ (9223372036854775807 < (⟨#[78]⟩ : ByteArray).size + e.size) := by show ¬ _ < 1 + e.size; omega
  have z' : ¬ (9223372036854775807 < 1 + e.size) := by omega
  go_enter Tryd.func17, Tryd.ntmps17
  go_wp2
  go_ret
  refine ⟨_, rfl, ?_, ?_, rfl⟩
  · rw [ByteArray.size_append]; show 1 + e.size ≤ _; omega
  · show (_ : List UInt8) = _
    rw [ByteArray.data_append]
    simp

/-- A call whose argument is a pool. -/
structure P1 (w : World) (ga : Nat) (n : Int) (a : Option Addr) (m c : Nat) (W : World) : Prop where
  sz : w.heap.size = ga
  bl : Below ga w W
  na : W.heap[ga]? = some (.cells #[.int .i64 n, .slice a m c] 35)
section
variable {w : World} {ga : Nat} {n : Int} {a : Option Addr} {m c : Nat} {W W' : World}
theorem P1.mk0 (w : World) (n : Int) (a : Option Addr) (m c : Nat) : P1 w w.heap.size n a m c (w.alloc (.cells #[.int .i64 n, .slice a m c] 35)) :=
  ⟨rfl, (Below.refl _ w).alloc (Nat.le_refl _) _, heap_alloc_new w _⟩
theorem P1.belowAt (h : P1 w ga n a m c W) {k : Nat} (hk : ga < k) (hb : Below k W W') : P1 w ga n a m c W' :=
  ⟨h.sz, h.bl.trans (hb.mono (by omega)), (hb.block ga hk).trans h.na⟩
theorem P1.lt (h : P1 w ga n a m c W) : ga < W.heap.size := (Array.getElem?_eq_some_iff.1 h.na).1
theorem P1.below (h : P1 w ga n a m c W) (hb : Below W.heap.size W W') : P1 w ga n a m c W' := h.belowAt h.lt hb
theorem P1.grown (h : P1 w ga n a m c W) {g : Nat} (hg : W.grownBy W' (some g)) (hl : ga < g) : P1 w ga n a m c W' := h.belowAt (Nat.lt_succ_self ga) (below_of_grown hg hl h.lt)
theorem P1.bw (h : P1 w ga n a m c W) : Below w.heap.size w W := by rw [h.sz]; exact h.bl
end

set_option maxRecDepth 100000 in
set_option maxHeartbeats 2000000 in
theorem hashes_any (HD : Hid DigSaid) (wd : Nat) (a : Option Addr) (ss : List ByteArray) (c : Nat) (w : World) (h : SArg a ss w) (hq : Hid (∀ j, (ss.getD j ⟨#[]⟩).size ≤ 1048575)) (h1 : 1 ≤ wd) (h2 : wd ≤ 32) :
    Calls Tryd.prog 23 #[.agg #[.int .i64 (wd : Int), .slice a ss.length c]] w fun e w' => ∃ g c', e = .returned (.slice (some ⟨g, 0, none⟩) ss.length c') ∧ Row w' (w.heap.size + 1) g ss.length c' ((ss.map (hashT wd)).map Value.string) ∧ Below w.heap.size w w' := by
  have hn := h.le
  obtain ⟨i0, hi0, hz0, hz1, hz2⟩ := info_parts info9
  obtain ⟨N, hN⟩ : ∃ N, ss.length = N := ⟨_, rfl⟩
  rw [hN] at hn
  rw [hN]
  have hrow0 : Row ((w.alloc (.cells #[.int .i64 (wd : Int), .slice a N c] 35)).alloc (.cells #[] 9)) (w.heap.size + 1) (w.heap.size + 1) 0 0 [] := by
    have := Row.of_block (base := w.heap.size + 1) (g := w.heap.size + 1) (Nat.le_refl _) (by have := heap_alloc_new (w.alloc (.cells #[.int .i64 (wd : Int), .slice a N c] 35)) (.cells #[] 9); rw [World.size_alloc] at this; exact this) 0 (Nat.zero_le _) (.inl rfl)
    simpa using this
  have hS0 := (P1.mk0 w (wd : Int) a N c).below ((Below.refl _ _).alloc (Nat.le_refl _) (.cells #[] 9))
  go_enter Tryd.func23, Tryd.ntmps23
  go_wp2_with fail
  obtain ⟨ga, hga⟩ : ∃ ga, w.heap.size = ga := ⟨_, rfl⟩
  generalize (w.alloc (.cells #[.int .i64 (wd : Int), .slice a N c] 35)).alloc (.cells #[] 9) = W0 at hrow0 hS0 ⊢
  rw [hga] at hrow0 hS0 ⊢
  go_loopw [3, 4] (fun t3 t4 wr => ∃ k g c' : Nat, k ≤ N ∧ t4 = .int .i64 (k : Int) ∧ t3 = .slice (some ⟨g, 0, none⟩) k c' ∧ Row wr (ga + 1) g k c' (((ss.take k).map (hashT wd)).map Value.string) ∧ P1 w ga (wd : Int) a N c wr) (fun _ t4 _ => N - (intOf t4).toNat)
  case atStart => exact ⟨0, ga + 1, 0, Nat.zero_le _, rfl, rfl, hrow0, hS0⟩
  case round =>
    clear hrow0 hS0
    obtain ⟨k, g, c', hk, rfl, rfl, hrow, hS⟩ := hrel
    have d0 := Lib.cell_of_heap hS.na 0
    have d1 := Lib.cell_of_heap hS.na 1
    by_cases hlt : k < N
    · have z1 : decide ((k : Int) < (N : Int)) = true := by simp; omega
      obtain ⟨b, off, rfl, hbl, hcs⟩ := h.at_ (by omega)
      obtain ⟨s, hs⟩ : ∃ s, ss.getD k ⟨#[]⟩ = s := ⟨_, rfl⟩
      have hsz : s.size ≤ 1048575 := by rw [← hs]; exact hq.out k
      have hc0 := hcs k (by omega)
      rw [hs] at hc0
      have hC : Hid (∀ W, P1 w ga (wd : Int) (some ⟨b, off, none⟩) N c W → W.cell? ⟨ga, 1, none⟩ = some (.slice (some ⟨b, off, none⟩) N c) ∧ W.cell? ⟨b, off + k, none⟩ = some (.string s) ∧ W.cell? ⟨ga, 0, none⟩ = some (.int .i64 (wd : Int))) := fun W hW => ⟨Lib.cell_of_heap hW.na 1, (hW.bw.cell hbl).trans hc0, Lib.cell_of_heap hW.na 0⟩
      have hcx := (hS.bw.cell hbl).trans hc0
      obtain ⟨X, hX⟩ : ∃ X, hashT wd s = X := ⟨_, rfl⟩
      have HX : Hid (∀ (t : ByteArray) w', t.size ≤ 1048576 → Hid (t.data.toList = 78 :: s.data.toList) → Calls Tryd.prog 16 #[.string t, .int .i64 (wd : Int)] w' fun e w'' => e = .returned (.string X) ∧ Below w'.heap.size w' w'') := fun t w' ht HT => by
        have := HD.out t wd w' ht h1 h2
        rw [HT.out] at this
        rw [← hX]
        exact this
      have hstep : Hid (((ss.take (k + 1)).map (hashT wd)).map Value.string = ((ss.take k).map (hashT wd)).map Value.string ++ [.string X]) := by
        have hkl : k < ss.length := by omega
        have hge : ss[k] = s := by rw [← hs, List.getD_eq_getElem?_getD, List.getElem?_eq_getElem hkl]; rfl
        show _ = _
        rw [List.take_succ_eq_append_getElem hkl, List.map_append, List.map_append, hge, ← hX]
        rfl
      have hgl := hrow.ge
      have hsl := hS.lt
      have hx0 : (0 : Int) ≤ (k : Int) := Int.natCast_nonneg _
      have hx1 : (k : Int) < (N : Int) := by omega
      clear hcs hs hc0 hX
      generalize ((ss.take k).map (hashT wd)).map Value.string = L at hrow hstep
      go_wp2_with fail
      go_region_held3 (fun w' => w'.cell? ⟨ga, 1, none⟩ = some (.slice (some ⟨b, off, none⟩) N c) ∧ w'.cell? ⟨b, off + k, none⟩ = some (.string s) ∧ w'.cell? ⟨ga, 0, none⟩ = some (.int .i64 (wd : Int))) (first | exact ⟨d1, hcx, d0⟩ | exact hC.out _ hS4 | exact hC.out _ hS3 | exact hC.out _ hS2) (first | (go_at_call 17; refine (ltext_any s _ hsz).mono ?_; rintro e w1 ⟨t, rfl, ht, HT, rfl⟩) | (go_at_call 16; refine (HX.out t _ ht HT).mono ?_; rintro e w2 ⟨rfl, hb2⟩; have hbx : Below wr.heap.size wr w2 := (Below.refl wr.heap.size wr).drew.trans hb2; have hS2 := hS.below hbx; have hrow2 := hrow.below hbx; have hS3 := hS2.below ((Below.refl _ w2).alloc (Nat.le_refl _) (.cells #[.string X] 9)); have hsz2 := hbx.size; clear hb2) | (refine step_append_row _ (by rfl) (.tmp 13) (.tmp 23) 29 (by rfl) 9 i0 (.string ⟨#[]⟩) 16 Tryd.underlying29 hi0 hz0 hz1 hz2 (by rfl) (ga + 1) g k c' _ (by rfl) (hrow2.alloc _) ⟨w2.heap.size, 0, none⟩ 1 1 [.string X] (by rfl) rfl (World.news_of_block (heap_alloc_new w2 _)) (by simp [Value.oneCell']) (by unfold maxLen; omega) (by omega) (by simp; omega) (w2.heap.size + 1) (by simp) ?_; intro g4 c4 w4 hrow4 hgrow4 hg4 hkeep4; have hS4 := hS3.grown hgrow4 hgl))
      go_wp2_with fail
      go_roundw
      case rel => exact ⟨k + 1, g4, c4, hlt, by go_num, rfl, by rw [hstep.out]; exact hrow4, hS4⟩
      case measure => simp [intOf]; omega
    · obtain rfl : k = N := by omega
      have z1 : decide ((k : Int) < (k : Int)) = false := by simp
      have htk : ss.take k = ss := List.take_of_length_le (by omega)
      rw [htk] at hrow
      go_wp2_with fail
      go_ret
      exact ⟨g, c', rfl, by rw [hga]; exact hrow, hS.bw⟩
end Go.Proofs.YthopecgcpfhceacDoor
