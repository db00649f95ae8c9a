import Derived.Test.YtibjhkpgaaapaaaGreatDoorZgau
set_option maxRecDepth 100000
set_option maxHeartbeats 2000000
namespace Go.Proofs.YtibjhkpgaaapaaaGreatDoor
open Go.RowKit Go.Proofs.Sha

theorem strNe {t s : ByteArray} (h : ¬ t = s) : (t.toList == s.toList) = false := by
  rw [beq_eq_false_iff_ne]
  intro he
  rw [ByteArray.toList_eq, ByteArray.toList_eq] at he
  exact h (ByteArray.ext (Array.toList_inj.1 he))
theorem firstI_step_no {p : Nat → Bool} {k : Nat} (h : firstI p k = none) (h1 : p k = false) : firstI p (k + 1) = none := by
  rw [firstI, h, h1]; rfl
theorem firstI_step_yes {p : Nat → Bool} {k : Nat} (h : firstI p k = none) (h1 : p k = true) : firstI p (k + 1) = some k := by
  rw [firstI, h, h1]; rfl
theorem firstI_up {p : Nat → Bool} {k i : Nat} (h : firstI p k = some i) (m : Nat) : firstI p (k + m) = some i := by
  induction m with
  | zero => exact h
  | succ m ih => rw [← Nat.add_assoc, firstI, ih]
theorem firstI_congr {p q : Nat → Bool} {k : Nat} (h : ∀ j, j < k → p j = q j) : firstI p k = firstI q k := by
  induction k with
  | zero => rfl
  | succ k ih => rw [firstI, firstI, ih (fun j hj => h j (by omega)), h k (Nat.lt_succ_self k)]

theorem lfind_any (D : Dec) (wd : Nat) (HDd : Hid (DecSaid 146 wd D)) (a : Option Addr) (ss : List ByteArray) (c : Nat) (g c' : Nat) (hs : List ByteArray) (hash : ByteArray) (w : World) (h : SArg a ss w) (_hl : hs.length = ss.length) (hg : g < w.heap.size) (hh : ∀ j, j < ss.length → w.cell? ⟨g, j, none⟩ = some (.string (hs.getD j ⟨#[]⟩))) :
    Calls Tryz.prog 107 #[.agg #[.int .i64 (wd : Int), .slice a ss.length c], .slice (some ⟨g, 0, none⟩) ss.length c', .string hash] w fun e w' => e = .returned (nodeT (foundR D ss (firstI (fun i => decide (hs.getD i ⟨#[]⟩ = hash)) ss.length))) ∧ Below w.heap.size w w' := by
  have hn := h.le
  obtain ⟨p, hp⟩ : ∃ p : Nat → Bool, (fun i => decide (hs.getD i ⟨#[]⟩ = hash)) = p := ⟨_, rfl⟩
  obtain ⟨fx, hfx⟩ : ∃ fx, firstI p ss.length = fx := ⟨_, rfl⟩
  obtain ⟨N, hN⟩ : ∃ N, ss.length = N := ⟨_, rfl⟩
  rw [hp, hfx]
  rw [hN] at hn hfx hh
  rw [hN]
  obtain ⟨R, hR⟩ : ∃ R, foundR D ss fx = R := ⟨_, rfl⟩
  rw [hR]
  have hS0 := P2.mk0 w (wd : Int) a N c
  go_enter Tryz.func107, Tryz.ntmps107
  go_wp2_with fail
  obtain ⟨ga, hga⟩ : ∃ ga, w.heap.size = ga := ⟨_, rfl⟩
  obtain ⟨gb, hgb⟩ : ∃ gb, w.heap.size + 1 = gb := ⟨_, rfl⟩
  generalize (w.alloc (.cells #[.int .i64 (wd : Int), .slice a N c] 31)).alloc (.cells #[.string ⟨#[]⟩, .string ⟨#[]⟩, .string ⟨#[]⟩, .string ⟨#[]⟩] 73) = W0 at hS0 ⊢
  rw [hgb, hga] at hS0 ⊢
  clear hgb
  replace hga : Hid _ := hga
  go_loopw [8] (fun t8 wr => ∃ k : Nat, k ≤ N ∧ t8 = .int .i64 (k : Int) ∧ firstI p k = none ∧ P2 w ga gb (wd : Int) a N c wr) (fun t8 _ => N - (intOf t8).toNat)
  case atStart => exact ⟨0, Nat.zero_le _, rfl, rfl, hS0⟩
  case round =>
    clear hS0
    obtain ⟨k, hk, rfl, hf, hS⟩ := hrel
    by_cases hlt : k < N
    · have z1 : decide ((k : Int) < (N : Int)) = true := by simp; omega
      have hx0 : (0 : Int) ≤ (k : Int) := Int.natCast_nonneg _
      have hx1 : (k : Int) < (N : Int) := by omega
      obtain ⟨x, hx⟩ : ∃ x, hs.getD k ⟨#[]⟩ = x := ⟨_, rfl⟩
      have hcy := (hS.bw.cell hg).trans (hh k hlt)
      rw [hx] at hcy
      have hpk : p k = decide (x = hash) := by rw [← hp, ← hx]
      by_cases he : x = hash
      · have z2 : (x.toList == hash.toList) = true := by rw [he]; simp
        have hfk : fx = some k := by
          have h1 := firstI_up (firstI_step_yes hf (hpk.trans (decide_eq_true he))) (N - (k + 1))
          rw [show k + 1 + (N - (k + 1)) = N by omega, hfx] at h1
          exact h1
        obtain ⟨b, off, rfl, hbl, hcs⟩ := h.at_ (by omega)
        obtain ⟨s, hs'⟩ : ∃ s, ss.getD k ⟨#[]⟩ = s := ⟨_, rfl⟩
        have hsz : s.size ≤ 1048576 := by rw [← hs']; exact h.sz k
        have hR1 : R = if D.ok s then ((D.k s, D.v s, D.l s, D.r s), 0) else ((⟨#[]⟩, ⟨#[]⟩, ⟨#[]⟩, ⟨#[]⟩), 3) := by rw [← hR, hfk, foundR, hs']
        have hc0 := hcs k (by omega)
        rw [hs'] at hc0
        have hC : Hid (∀ W, P2 w ga gb (wd : Int) (some ⟨b, off, none⟩) N c W → W.cell? ⟨ga, 1, none⟩ = some (.slice (some ⟨b, off, none⟩) N c) ∧ W.cell? ⟨b, off + k, none⟩ = some (.string s) ∧ W.cell? ⟨ga, 0, none⟩ = some (.int .i64 (wd : Int))) := fun W hW => ⟨Lib.cell_of_heap hW.na 1, (hW.bw.cell hbl).trans hc0, Lib.cell_of_heap hW.na 0⟩
        have hcx := (hS.bw.cell hbl).trans hc0
        have hg3 : Hid (gb < wr.heap.size) := (Array.getElem?_eq_some_iff.1 hS.nb).1
        clear hcs hs' hc0 hpk hf hh hR hfk hfx hp hx _hl hN
        go_upto_region 5 with fail
        clear hcy z1 z2 he
        have d0 := Lib.cell_of_heap hS.na 0
        have d1 := Lib.cell_of_heap hS.na 1
        obtain ⟨xk, hxk⟩ : ∃ x, D.k s = x := ⟨_, rfl⟩
        obtain ⟨xv, hxv⟩ : ∃ x, D.v s = x := ⟨_, rfl⟩
        obtain ⟨xl, hxl⟩ : ∃ x, D.l s = x := ⟨_, rfl⟩
        obtain ⟨xr, hxr⟩ : ∃ x, D.r s = x := ⟨_, rfl⟩
        cases hok : D.ok s with
        | true =>
          have HD1 : Hid (∀ w', Calls Tryz.prog 146 #[.string s, .int .i64 (wd : Int)] w' fun e w'' => e = .returned (.tuple #[.agg #[.string xk, .string xv, .string xl, .string xr], .bool true]) ∧ Below w'.heap.size w' w'') := fun w' => by
            have := HDd.out s w' hsz
            rw [hok, hxk, hxv, hxl, hxr] at this
            exact this
          have HR : Hid (R = ((xk, xv, xl, xr), 0)) := by
            show R = _
            rw [hR1, hok, hxk, hxv, hxl, hxr]
            rfl
          clear hxk hxv hxl hxr hok hR1
          go_region_held3 (fun w' => w'.cell? ⟨ga, 1, none⟩ = some (.slice (some ⟨b, off, none⟩) N c) ∧ w'.cell? ⟨b, off + k, none⟩ = some (.string s) ∧ w'.cell? ⟨ga, 0, none⟩ = some (.int .i64 (wd : Int))) (first | exact ⟨d1, hcx, d0⟩ | exact hC.out _ (hS.below ((Below.refl _ wr).drew.alloc (Nat.le_refl _) _)) | exact hC.out _ hS4 | exact hC.out _ (hS4.set4 hg3.out _ _ _ _) | exact hC.out _ (hS4.below ((Below.refl _ _).alloc (Nat.le_refl _) _))) (first | (go_at_call 146; refine (HD1.out _).mono ?_; rintro e w4 ⟨rfl, hb4⟩; have n4 : NBk wr.heap.size ⟨#[]⟩ ⟨#[]⟩ ⟨#[]⟩ ⟨#[]⟩ w4 := NBk.below (show NBk wr.heap.size ⟨#[]⟩ ⟨#[]⟩ ⟨#[]⟩ ⟨#[]⟩ (wr.drew.alloc (.cells #[.string ⟨#[]⟩, .string ⟨#[]⟩, .string ⟨#[]⟩, .string ⟨#[]⟩] 73)) from heap_alloc_new wr.drew _) hb4; have hS4 := (hS.below ((Below.refl _ wr).drew.alloc (Nat.le_refl _) (.cells #[.string ⟨#[]⟩, .string ⟨#[]⟩, .string ⟨#[]⟩, .string ⟨#[]⟩] 73))).below hb4; clear hb4; obtain ⟨k0, k1, k2, k3, l0, l1, l2, l3⟩ := n4.at) | (go_at_call 146; refine (HD1.out _).mono ?_; rintro e w4 ⟨rfl, hb4⟩; have hS4 := hS.below ((Below.refl wr.heap.size wr).drew.trans hb4); clear hb4))
          all_goals (clear d0 d1 hcx)
          · have n5 : NBk w4.heap.size xk xv xl xr (w4.alloc (.cells #[.string xk, .string xv, .string xl, .string xr] 73)) := heap_alloc_new _ _
            have hS5 := hS4.below ((Below.refl _ w4).alloc (Nat.le_refl _) (.cells #[.string xk, .string xv, .string xl, .string xr] 73))
            generalize w4.alloc (.cells #[.string xk, .string xv, .string xl, .string xr] 73) = W5 at n5 hS5 ⊢
            generalize w4.heap.size = g5 at n5 ⊢
            clear hS4
            obtain ⟨k0, k1, k2, k3, l0, l1, l2, l3⟩ := n5.at
            obtain ⟨c0, c1, c2, c3, f0, f1, f2, f3⟩ := hS5.nb.at
            go_wp2_with fail
            exact retN Tryz.results107 rfl rfl rfl (hS5.nb.all _ _ _ _) ⟨by rw [HR.out], hS5.fin _ _ _ _⟩
          · have n5 := n4.all xk xv xl xr
            have hS5 := hS4.set4 hg3.out (.string xk) (.string xv) (.string xl) (.string xr)
            generalize (((w4.setCell ⟨wr.heap.size, 0, none⟩ (.string xk)).setCell ⟨wr.heap.size, 1, none⟩ (.string xv)).setCell ⟨wr.heap.size, 2, none⟩ (.string xl)).setCell ⟨wr.heap.size, 3, none⟩ (.string xr) = W5 at n5 hS5 ⊢
            generalize wr.heap.size = g5 at n5 ⊢
            clear k0 k1 k2 k3 l0 l1 l2 l3 n4 hS4
            obtain ⟨k0, k1, k2, k3, l0, l1, l2, l3⟩ := n5.at
            obtain ⟨c0, c1, c2, c3, f0, f1, f2, f3⟩ := hS5.nb.at
            go_wp2_with fail
            exact retN Tryz.results107 rfl rfl rfl (hS5.nb.all _ _ _ _) ⟨by rw [HR.out], hS5.fin _ _ _ _⟩
        | false =>
          have HD1 : Hid (∀ w', Calls Tryz.prog 146 #[.string s, .int .i64 (wd : Int)] w' fun e w'' => e = .returned (.tuple #[.agg #[.string xk, .string xv, .string xl, .string xr], .bool false]) ∧ Below w'.heap.size w' w'') := fun w' => by
            have := HDd.out s w' hsz
            rw [hok, hxk, hxv, hxl, hxr] at this
            exact this
          have HR : Hid (R = ((⟨#[]⟩, ⟨#[]⟩, ⟨#[]⟩, ⟨#[]⟩), 3)) := by
            show R = _
            rw [hR1, hok, hxk, hxv, hxl, hxr]
            rfl
          clear hxk hxv hxl hxr hok hR1
          go_region_held3 (fun w' => w'.cell? ⟨ga, 1, none⟩ = some (.slice (some ⟨b, off, none⟩) N c) ∧ w'.cell? ⟨b, off + k, none⟩ = some (.string s) ∧ w'.cell? ⟨ga, 0, none⟩ = some (.int .i64 (wd : Int))) (first | exact ⟨d1, hcx, d0⟩ | exact hC.out _ (hS.below ((Below.refl _ wr).drew.alloc (Nat.le_refl _) _)) | exact hC.out _ hS4 | exact hC.out _ (hS4.set4 hg3.out _ _ _ _) | exact hC.out _ (hS4.below ((Below.refl _ _).alloc (Nat.le_refl _) _))) (first | (go_at_call 146; refine (HD1.out _).mono ?_; rintro e w4 ⟨rfl, hb4⟩; have n4 : NBk wr.heap.size ⟨#[]⟩ ⟨#[]⟩ ⟨#[]⟩ ⟨#[]⟩ w4 := NBk.below (show NBk wr.heap.size ⟨#[]⟩ ⟨#[]⟩ ⟨#[]⟩ ⟨#[]⟩ (wr.drew.alloc (.cells #[.string ⟨#[]⟩, .string ⟨#[]⟩, .string ⟨#[]⟩, .string ⟨#[]⟩] 73)) from heap_alloc_new wr.drew _) hb4; have hS4 := (hS.below ((Below.refl _ wr).drew.alloc (Nat.le_refl _) (.cells #[.string ⟨#[]⟩, .string ⟨#[]⟩, .string ⟨#[]⟩, .string ⟨#[]⟩] 73))).below hb4; clear hb4; obtain ⟨k0, k1, k2, k3, l0, l1, l2, l3⟩ := n4.at) | (go_at_call 146; refine (HD1.out _).mono ?_; rintro e w4 ⟨rfl, hb4⟩; have hS4 := hS.below ((Below.refl wr.heap.size wr).drew.trans hb4); clear hb4))
          all_goals (clear d0 d1 hcx)
          · have n5 : NBk w4.heap.size xk xv xl xr (w4.alloc (.cells #[.string xk, .string xv, .string xl, .string xr] 73)) := heap_alloc_new _ _
            have hS5 := hS4.below ((Below.refl _ w4).alloc (Nat.le_refl _) (.cells #[.string xk, .string xv, .string xl, .string xr] 73))
            generalize w4.alloc (.cells #[.string xk, .string xv, .string xl, .string xr] 73) = W5 at n5 hS5 ⊢
            generalize w4.heap.size = g5 at n5 ⊢
            clear hS4
            obtain ⟨k0, k1, k2, k3, l0, l1, l2, l3⟩ := n5.at
            obtain ⟨c0, c1, c2, c3, f0, f1, f2, f3⟩ := hS5.nb.at
            go_wp2_with fail
            exact retN Tryz.results107 rfl rfl rfl (hS5.nb.all _ _ _ _) ⟨by rw [HR.out], hS5.fin _ _ _ _⟩
          · have n5 := n4.all xk xv xl xr
            have hS5 := hS4.set4 hg3.out (.string xk) (.string xv) (.string xl) (.string xr)
            generalize (((w4.setCell ⟨wr.heap.size, 0, none⟩ (.string xk)).setCell ⟨wr.heap.size, 1, none⟩ (.string xv)).setCell ⟨wr.heap.size, 2, none⟩ (.string xl)).setCell ⟨wr.heap.size, 3, none⟩ (.string xr) = W5 at n5 hS5 ⊢
            generalize wr.heap.size = g5 at n5 ⊢
            clear k0 k1 k2 k3 l0 l1 l2 l3 n4 hS4
            obtain ⟨k0, k1, k2, k3, l0, l1, l2, l3⟩ := n5.at
            obtain ⟨c0, c1, c2, c3, f0, f1, f2, f3⟩ := hS5.nb.at
            go_wp2_with fail
            exact retN Tryz.results107 rfl rfl rfl (hS5.nb.all _ _ _ _) ⟨by rw [HR.out], hS5.fin _ _ _ _⟩
      · have z2 : (x.toList == hash.toList) = false := strNe he
        have hf' := firstI_step_no hf (hpk.trans (decide_eq_false he))
        clear hpk hx
        go_wp2_with fail
        go_roundw
        case rel => exact ⟨k + 1, hlt, by go_num, hf', hS⟩
        case measure => simp [intOf]; omega
    · obtain rfl : k = N := by omega
      have z1 : decide ((k : Int) < (k : Int)) = false := by simp
      have HR : Hid (R = ((⟨#[]⟩, ⟨#[]⟩, ⟨#[]⟩, ⟨#[]⟩), 2)) := by
        show R = _
        rw [← hR, ← hfx, hf]
        rfl
      clear hh hR hfx hf hp
      obtain ⟨c0, c1, c2, c3, f0, f1, f2, f3⟩ := hS.nb.at
      go_wp2_with fail
      exact retN Tryz.results107 rfl rfl rfl (hS.nb.all _ _ _ _) ⟨by rw [HR.out], hS.fin _ _ _ _⟩
theorem hashT_hit (wd : Nat) (s hash : ByteArray) : decide (hashT wd s = hash) = decide ((sha (78 :: s.data.toList)).take wd = hash.data.toList) := by
  unfold hashT
  by_cases h : (sha (78 :: s.data.toList)).take wd = hash.data.toList
  · rw [decide_eq_true h, decide_eq_true]
    rw [h]
  · rw [decide_eq_false h, decide_eq_false]
    intro he
    apply h
    rw [← he]
theorem first_hash (wd : Nat) (ss : List ByteArray) (hash : ByteArray) : firstI (fun i => decide ((ss.map (hashT wd)).getD i ⟨#[]⟩ = hash)) ss.length = firstI (hitB wd ss hash) ss.length := by
  refine firstI_congr fun j hj => ?_
  have h1 : (ss.map (hashT wd)).getD j ⟨#[]⟩ = hashT wd (ss.getD j ⟨#[]⟩) := by
    rw [List.getD_eq_getElem?_getD, List.getElem?_map, List.getD_eq_getElem?_getD, List.getElem?_eq_getElem hj]
    rfl
  rw [h1, hitB, hashT_hit]

theorem wr_in (n : Int) (h : -9223372036854775808 ≤ n ∧ n ≤ 9223372036854775807) : wrap64 n = n := by unfold wrap64; omega
end Go.Proofs.YtibjhkpgaaapaaaGreatDoor
