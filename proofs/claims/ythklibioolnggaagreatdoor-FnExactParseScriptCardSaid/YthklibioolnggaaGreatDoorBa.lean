import Derived.Test.YthklibioolnggaaGreatDoorAz
namespace Go.Proofs.YthklibioolnggaaGreatDoor
open Go.RowKit Go.Proofs.Sha

/-- Where an operation lies. -/
theorem OpsAt.cells {base : Nat} {es : List OE} {a : Option Addr} {c : Nat} {W : World} (h : OpsAt base es a c W) (i : Nat) (hi : i < es.length) : ∃ g, a = some ⟨g, 0, none⟩ ∧ ∀ W', Below W.heap.size W W' → W'.cell? ⟨g, i * 6, none⟩ = some (.int .i64 (es[i].1.kind : Int)) ∧ W'.cell? ⟨g, i * 6 + 1, none⟩ = some (.string es[i].1.key) ∧ W'.cell? ⟨g, i * 6 + 2, none⟩ = some (.string es[i].1.val) ∧ W'.cell? ⟨g, i * 6 + 3, none⟩ = some (.int .i64 es[i].1.n) ∧ W'.cell? ⟨g, i * 6 + 4, none⟩ = some (.int .i64 es[i].1.m) ∧ W'.cell? ⟨g, i * 6 + 5, none⟩ = some (.slice es[i].2.1 es[i].1.picks.length es[i].2.2) := by
  rcases h.row.2 with ⟨hv, hn⟩ | ⟨g, cap, cur, hv, hrest⟩
  · omega
  · injection hv with e1 e2 e3
    subst e1
    refine ⟨g, rfl, fun W' hW => ?_⟩
    have hc : ∀ f, f < 6 → W'.cell? ⟨g, i * 6 + f, none⟩ = (opL es[i])[f]? := fun f hf => by
      have h1 := (h.below hW).row.cellAt (i * 6 + f) (by omega)
      rw [h1, Nat.mul_comm, flatE_get es i f hi hf]
    exact ⟨hc 0 (by omega), hc 1 (by omega), hc 2 (by omega), hc 3 (by omega), hc 4 (by omega), hc 5 (by omega)⟩
theorem OpsAt.picks {base : Nat} {es : List OE} {a : Option Addr} {c : Nat} {W : World} (h : OpsAt base es a c W) (i : Nat) (hi : i < es.length) : IArg es[i].2.1 es[i].1.picks W := by
  have hp := h.pk es[i] (List.getElem_mem hi)
  refine ⟨fun h0 => ?_⟩
  rcases hp.2 with ⟨hv, hn⟩ | ⟨g, cap, cur, hv, hb, hg, _⟩
  · omega
  · injection hv with e1 e2 e3
    refine ⟨g, 0, e1, (Array.getElem?_eq_some_iff.1 hg).1, fun j hj => ?_⟩
    rw [e1] at hp
    have h1 := hp.cellAt j (by omega)
    rw [Nat.zero_add, h1, List.getElem?_map, List.getElem?_eq_getElem hj, List.getD_eq_getElem?_getD, List.getElem?_eq_getElem hj]; rfl

set_option maxRecDepth 100000 in
set_option maxHeartbeats 400000 in
theorem eqOp_same (k : Int) (ky vl : ByteArray) (n m : Int) (a b : Option Addr) (c d : Nat) (xs : List Int) (w : World) (ha : IArg a xs w) (hb : IArg b xs w) (hn : xs.length ≤ 1048576) :
    Calls Tryz.prog 28 #[.agg #[.int .i64 k, .string ky, .string vl, .int .i64 n, .int .i64 m, .slice a xs.length c], .agg #[.int .i64 k, .string ky, .string vl, .int .i64 n, .int .i64 m, .slice b xs.length d]] w fun e w' => e = .returned (.bool true) ∧ Below w.heap.size w w' := by
  have HE : Hid (∀ W, Below w.heap.size w W → Calls Tryz.prog 50 #[.slice a xs.length c, .slice b xs.length d] W fun e w' => e = .returned (.bool true) ∧ Below W.heap.size W w') := fun W hW => eqInt_same a b c d xs W (ha.below hW) (hb.below hW) hn
  have q0 : (ky.toList != ky.toList) = false := by simp
  have q2 : (vl.toList != vl.toList) = false := by simp
  generalize xs.length = N at HE ⊢
  have b1 : Below w.heap.size w (w.alloc (.cells #[.int .i64 k, .string ky, .string vl, .int .i64 n, .int .i64 m, .slice a N c] 37)) := (Below.refl _ w).alloc (Nat.le_refl _) _
  have b2 := b1.alloc b1.size (.cells #[.int .i64 k, .string ky, .string vl, .int .i64 n, .int .i64 m, .slice b N d] 37)
  clear ha hb hn
  go_enter Tryz.func28, Tryz.ntmps28
  go_wp2_with (first | (go_at_call 50; refine (HE.out _ b2).mono ?_; rintro e w1 ⟨rfl, hb1⟩))
  go_ret
  exact ⟨rfl, b2.trans (hb1.mono b2.size)⟩

theorem eq_fst {e f : OE} (h : e.1 = f.1) : f = (e.1, f.2) := by rw [h]

set_option maxRecDepth 100000 in
set_option maxHeartbeats 1000000 in
theorem eqOps_same (es fs : List OE) (hef : es.map (·.1) = fs.map (·.1)) (b1 b2 : Nat) (a b : Option Addr) (c d : Nat) (w : World) (ha : OpsAt b1 es a c w) (hb : OpsAt b2 fs b d w) (hn : es.length ≤ 1048576) (hp : ∀ e ∈ es, e.1.picks.length ≤ 1048576) :
    Calls Tryz.prog 16 #[.slice a es.length c, .slice b fs.length d] w fun e w' => e = .returned (.bool true) ∧ Below w.heap.size w w' := by
  have hl : fs.length = es.length := by have := congrArg List.length hef; simpa using this.symm
  rw [hl]
  obtain ⟨n, hn'⟩ : ∃ n, es.length = n := ⟨_, rfl⟩
  have hno : Hid (es.length = n ∧ fs.length = n) := ⟨hn', hl.trans hn'⟩
  have hfo : Hid (es.map (·.1) = fs.map (·.1)) := hef
  rw [hn'] at hn ⊢
  clear hn' hl hef
  go_enter Tryz.func16, Tryz.ntmps16
  go_wp2_with fail
  go_loopw [5] (fun t5 wr => ∃ k : Nat, k ≤ n ∧ t5 = .int .i64 (k : Int) ∧ Below w.heap.size w wr) (fun t5 _ => n - (intOf t5).toNat)
  case atStart => exact ⟨0, Nat.zero_le _, rfl, Below.refl _ _⟩
  case round =>
    obtain ⟨k, hk, rfl, hbw⟩ := hrel
    by_cases hlt : k < n
    · have hx0 : (0 : Int) ≤ (k : Int) := Int.natCast_nonneg _
      have hx1 : (k : Int) < (n : Int) := by omega
      have hk1 : k < es.length := by rw [hno.out.1]; exact hlt
      have hk2 : k < fs.length := by rw [hno.out.2]; exact hlt
      have hsame : es[k].1 = fs[k].1 := by
        have h1 : (es.map (·.1))[k]? = (fs.map (·.1))[k]? := by rw [hfo.out]
        rw [List.getElem?_map, List.getElem?_map, List.getElem?_eq_getElem hk1, List.getElem?_eq_getElem hk2] at h1
        exact Option.some.inj h1
      obtain ⟨g1, rfl, h1⟩ := ha.cells k hk1
      obtain ⟨g2, rfl, h2⟩ := hb.cells k hk2
      have p1 := ha.picks k hk1
      have p2 := hb.picks k hk2
      have p3 := hp _ (List.getElem_mem hk1)
      rw [← hsame] at h2 p2
      generalize es[k].1 = o at h1 h2 p1 p2 p3
      generalize es[k].2 = x1 at h1 p1
      generalize fs[k].2 = x2 at h2 p2
      have HEO : Hid (∀ W, Below w.heap.size w W → Calls Tryz.prog 28 #[.agg #[.int .i64 (o.kind : Int), .string o.key, .string o.val, .int .i64 o.n, .int .i64 o.m, .slice x1.1 o.picks.length x1.2], .agg #[.int .i64 (o.kind : Int), .string o.key, .string o.val, .int .i64 o.n, .int .i64 o.m, .slice x2.1 o.picks.length x2.2]] W fun e w' => e = .returned (.bool true) ∧ Below W.heap.size W w') := fun W hW => eqOp_same _ _ _ _ _ _ _ _ _ _ W (p1.below hW) (p2.below hW) p3
      have H1 : Hid _ := h1
      have H2 : Hid _ := h2
      clear h1 h2 p1 p2 p3 hsame
      have hdw : Below wr.heap.size wr wr.drew := (Below.refl _ _).drew
      have bwq := hbw.trans (hdw.mono hbw.size)
      go_upto_region 6 with fail
      refine wp_region_held_drew (S := fun W => Below w.heap.size w W) (by kernel_rfl) bwq (fun hHeld => ?_)
      generalize wr.drew = wq at bwq hHeld ⊢
      clear hdw
      refine tkI 0 ?_
      simp only [Act.put, zq]
      refine tkI 1 ?_
      simp only [Act.put, zq]
      refine tkI 2 ?_
      simp only [Act.put, zq]
      refine tkH (i := 3) (by rfl) (Or.inl ⟨by rfl, fun W hSW => by obtain ⟨k0, k1, k2, k3, k4, k5⟩ := H1.out W hSW; go_simp; rfl⟩) ?_
      simp only [Act.put, zq]
      refine tkI 4 ?_
      simp only [Act.put, zq]
      refine tkI 5 ?_
      simp only [Act.put, zq]
      refine tkI 6 ?_
      simp only [Act.put, zq]
      refine tkH (i := 7) (by rfl) (Or.inl ⟨by rfl, fun W hSW => by obtain ⟨k0, k1, k2, k3, k4, k5⟩ := H2.out W hSW; go_simp; rfl⟩) ?_
      simp only [Act.put, zq]
      refine rdH 8 (fun K hK => ?_)
      go_simp
      refine (HEO.out _ bwq).mono ?_
      rintro e wa ⟨rfl, hba⟩
      have bwa := bwq.trans (hba.mono bwq.size)
      refine hK.out _ _ bwa (fun hHeld => ?_)
      clear hK K
      refine tkI 9 ?_
      simp only [Act.put, zq]
      refine wpAnyH_done (by kernel_rfl) ?_ _
      go_wp2_with fail
      go_roundw
      case rel => exact ⟨k + 1, hlt, rfl, bwa⟩
      case measure => simp [intOf]; omega
    · obtain rfl : k = n := by omega
      go_wp2_with fail
      go_ret
      exact ⟨rfl, hbw⟩
set_option maxRecDepth 100000 in
set_option maxHeartbeats 400000 in
theorem eqScript_same (x y : Int) (es fs : List OE) (hef : es.map (·.1) = fs.map (·.1)) (b1 b2 : Nat) (a b : Option Addr) (c d : Nat) (w : World) (ha : OpsAt b1 es a c w) (hb : OpsAt b2 fs b d w) (hn : es.length ≤ 1048576) (hp : ∀ e ∈ es, e.1.picks.length ≤ 1048576) :
    Calls Tryz.prog 6 #[.agg #[.int .i64 x, .int .i64 y, .slice a es.length c], .agg #[.int .i64 x, .int .i64 y, .slice b fs.length d]] w fun e w' => e = .returned (.bool true) ∧ Below w.heap.size w w' := by
  have HE : Hid (∀ W, Below w.heap.size w W → Calls Tryz.prog 16 #[.slice a es.length c, .slice b fs.length d] W fun e w' => e = .returned (.bool true) ∧ Below W.heap.size W w') := fun W hW => eqOps_same es fs hef b1 b2 a b c d W (ha.below hW) (hb.below hW) hn hp
  generalize es.length = N at HE ⊢
  generalize fs.length = N2 at HE ⊢
  have b1 : Below w.heap.size w (w.alloc (.cells #[.int .i64 x, .int .i64 y, .slice a N c] 24)) := (Below.refl _ w).alloc (Nat.le_refl _) _
  have b2 := b1.alloc b1.size (.cells #[.int .i64 x, .int .i64 y, .slice b N2 d] 24)
  clear ha hb hn hp hef
  go_enter Tryz.func6, Tryz.ntmps6
  go_wp2_with (first | (go_at_call 16; refine (HE.out _ b2).mono ?_; rintro e w1 ⟨rfl, hb1⟩))
  go_ret
  exact ⟨rfl, b2.trans (hb1.mono b2.size)⟩
end Go.Proofs.YthklibioolnggaaGreatDoor
