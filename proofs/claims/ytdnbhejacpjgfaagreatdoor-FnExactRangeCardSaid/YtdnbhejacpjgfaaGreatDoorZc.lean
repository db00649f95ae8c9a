import Derived.Test.YtdnbhejacpjgfaaGreatDoorZb
import Derived.Laws.MakeOwn
import Derived.Laws.OwnMore
import Derived.Test.YtdnbhejacpjgfaaGreatDoorProg
import Derived.WalkSpells
import Derived.WalkLawsBesides
import Derived.StillTactics
import Derived.Laws.Pointers
import Derived.Deep.RegionHeld3
namespace Go.Proofs.YtdnbhejacpjgfaaGreatDoor
open Go.RowKit Go.Proofs.Sha

/-- What the specification's Digest says, by itself. -/
def DigSaid : Prop := ∀ (t : ByteArray) (k : Nat) (w : World), t.size ≤ 1048576 → 1 ≤ k → k ≤ 32 → Calls Tryz.prog 32 #[.string t, .int .i64 (k : Int)] w fun e w' => e = .returned (.string ⟨((sha t.data.toList).take k).toArray⟩) ∧ Below w.heap.size w w'
/-- A node's hash, at a width. -/
def hashT (wd : Nat) (s : ByteArray) : ByteArray := ⟨((sha (78 :: s.data.toList)).take wd).toArray⟩
theorem info9 : (Tryz.prog.info? 9).map (fun i => (i.zero, i.size, i.bytes)) = some (some (.string ⟨#[]⟩), 1, 16) := by kernel_rfl
theorem ltext_any (e : ByteArray) (w : World) (he : e.size ≤ 1048575) :
    Calls Tryz.prog 33 #[.string e] w fun x w' => ∃ t : ByteArray, x = .returned (.string t) ∧ t.size ≤ 1048576 ∧ Hid (t.data.toList = 78 :: e.data.toList) ∧ w = w' := by
  have z : ¬ (9223372036854775807 < (⟨#[78]⟩ : ByteArray).size + e.size) := by show ¬ _ < 1 + e.size; omega
  have z' : ¬ (9223372036854775807 < 1 + e.size) := by omega
  go_enter Tryz.func33, Tryz.ntmps33
  go_wp2
  go_ret
  refine ⟨_, rfl, ?_, ?_, rfl⟩
  · rw [ByteArray.size_append]; show 1 + e.size ≤ _; omega
  · show (_ : List UInt8) = _
    rw [ByteArray.data_append]
    simp

/-- A call whose argument is a pool. -/
structure P1 (w : World) (ga : Nat) (n : Int) (a : Option Addr) (m c : Nat) (W : World) : Prop where
  sz : w.heap.size = ga
  bl : Below ga w W
  na : W.heap[ga]? = some (.cells #[.int .i64 n, .slice a m c] 29)
section
variable {w : World} {ga : Nat} {n : Int} {a : Option Addr} {m c : Nat} {W W' : World}
theorem P1.mk0 (w : World) (n : Int) (a : Option Addr) (m c : Nat) : P1 w w.heap.size n a m c (w.alloc (.cells #[.int .i64 n, .slice a m c] 29)) :=
  ⟨rfl, (Below.refl _ w).alloc (Nat.le_refl _) _, heap_alloc_new w _⟩
theorem P1.belowAt (h : P1 w ga n a m c W) {k : Nat} (hk : ga < k) (hb : Below k W W') : P1 w ga n a m c W' :=
  ⟨h.sz, h.bl.trans (hb.mono (by omega)), (hb.block ga hk).trans h.na⟩
theorem P1.lt (h : P1 w ga n a m c W) : ga < W.heap.size := (Array.getElem?_eq_some_iff.1 h.na).1
theorem P1.below (h : P1 w ga n a m c W) (hb : Below W.heap.size W W') : P1 w ga n a m c W' := h.belowAt h.lt hb
theorem P1.grown (h : P1 w ga n a m c W) {g : Nat} (hg : W.grownBy W' (some g)) (hl : ga < g) : P1 w ga n a m c W' := h.belowAt (Nat.lt_succ_self ga) (below_of_grown hg hl h.lt)
theorem P1.bw (h : P1 w ga n a m c W) : Below w.heap.size w W := by rw [h.sz]; exact h.bl
end

set_option maxRecDepth 100000 in
set_option maxHeartbeats 2000000 in
theorem hashes_any (HD : Hid DigSaid) (wd : Nat) (a : Option Addr) (ss : List ByteArray) (c : Nat) (w : World) (h : SArg a ss w) (hq : Hid (∀ j, (ss.getD j ⟨#[]⟩).size ≤ 1048575)) (h1 : 1 ≤ wd) (h2 : wd ≤ 32) :
    Calls Tryz.prog 17 #[.agg #[.int .i64 (wd : Int), .slice a ss.length c]] w fun e w' => ∃ g c', e = .returned (.slice (some ⟨g, 0, none⟩) ss.length c') ∧ Row w' (w.heap.size + 1) g ss.length c' ((ss.map (hashT wd)).map Value.string) ∧ Below w.heap.size w w' := by
  have hn := h.le
  obtain ⟨i0, hi0, hz0, hz1, hz2⟩ := info_parts info9
  obtain ⟨N, hN⟩ : ∃ N, ss.length = N := ⟨_, rfl⟩
  rw [hN] at hn
  rw [hN]
  have hrow0 : Row ((w.alloc (.cells #[.int .i64 (wd : Int), .slice a N c] 29)).alloc (.cells #[] 9)) (w.heap.size + 1) (w.heap.size + 1) 0 0 [] := by
    have := Row.of_block (base := w.heap.size + 1) (g := w.heap.size + 1) (Nat.le_refl _) (by have := heap_alloc_new (w.alloc (.cells #[.int .i64 (wd : Int), .slice a N c] 29)) (.cells #[] 9); rw [World.size_alloc] at this; exact this) 0 (Nat.zero_le _) (.inl rfl)
    simpa using this
  have hS0 := (P1.mk0 w (wd : Int) a N c).below ((Below.refl _ _).alloc (Nat.le_refl _) (.cells #[] 9))
  go_enter Tryz.func17, Tryz.ntmps17
  go_wp2_with fail
  obtain ⟨ga, hga⟩ : ∃ ga, w.heap.size = ga := ⟨_, rfl⟩
  generalize (w.alloc (.cells #[.int .i64 (wd : Int), .slice a N c] 29)).alloc (.cells #[] 9) = W0 at hrow0 hS0 ⊢
  rw [hga] at hrow0 hS0 ⊢
  go_loopw [3, 4] (fun t3 t4 wr => ∃ k g c' : Nat, k ≤ N ∧ t4 = .int .i64 (k : Int) ∧ t3 = .slice (some ⟨g, 0, none⟩) k c' ∧ Row wr (ga + 1) g k c' (((ss.take k).map (hashT wd)).map Value.string) ∧ P1 w ga (wd : Int) a N c wr) (fun _ t4 _ => N - (intOf t4).toNat)
  case atStart => exact ⟨0, ga + 1, 0, Nat.zero_le _, rfl, rfl, hrow0, hS0⟩
  case round =>
    clear hrow0 hS0
    obtain ⟨k, g, c', hk, rfl, rfl, hrow, hS⟩ := hrel
    have d0 := Lib.cell_of_heap hS.na 0
    have d1 := Lib.cell_of_heap hS.na 1
    by_cases hlt : k < N
    · have z1 : decide ((k : Int) < (N : Int)) = true := by simp; omega
      obtain ⟨b, off, rfl, hbl, hcs⟩ := h.at_ (by omega)
      obtain ⟨s, hs⟩ : ∃ s, ss.getD k ⟨#[]⟩ = s := ⟨_, rfl⟩
      have hsz : s.size ≤ 1048575 := by rw [← hs]; exact hq.out k
      have hc0 := hcs k (by omega)
      rw [hs] at hc0
      have hC : Hid (∀ W, P1 w ga (wd : Int) (some ⟨b, off, none⟩) N c W → W.cell? ⟨ga, 1, none⟩ = some (.slice (some ⟨b, off, none⟩) N c) ∧ W.cell? ⟨b, off + k, none⟩ = some (.string s) ∧ W.cell? ⟨ga, 0, none⟩ = some (.int .i64 (wd : Int))) := fun W hW => ⟨Lib.cell_of_heap hW.na 1, (hW.bw.cell hbl).trans hc0, Lib.cell_of_heap hW.na 0⟩
      have hcx := (hS.bw.cell hbl).trans hc0
      obtain ⟨X, hX⟩ : ∃ X, hashT wd s = X := ⟨_, rfl⟩
      have HX : Hid (∀ (t : ByteArray) w', t.size ≤ 1048576 → Hid (t.data.toList = 78 :: s.data.toList) → Calls Tryz.prog 32 #[.string t, .int .i64 (wd : Int)] w' fun e w'' => e = .returned (.string X) ∧ Below w'.heap.size w' w'') := fun t w' ht HT => by
        have := HD.out t wd w' ht h1 h2
        rw [HT.out] at this
        rw [← hX]
        exact this
      have hstep : Hid (((ss.take (k + 1)).map (hashT wd)).map Value.string = ((ss.take k).map (hashT wd)).map Value.string ++ [.string X]) := by
        have hkl : k < ss.length := by omega
        have hge : ss[k] = s := by rw [← hs, List.getD_eq_getElem?_getD, List.getElem?_eq_getElem hkl]; rfl
        show _ = _
        rw [List.take_succ_eq_append_getElem hkl, List.map_append, List.map_append, hge, ← hX]
        rfl
      have hgl := hrow.ge
      have hsl := hS.lt
      have hx0 : (0 : Int) ≤ (k : Int) := Int.natCast_nonneg _
      have hx1 : (k : Int) < (N : Int) := by omega
      clear hcs hs hc0 hX
      generalize ((ss.take k).map (hashT wd)).map Value.string = L at hrow hstep
      go_wp2_with fail
      go_region_held3 (fun w' => w'.cell? ⟨ga, 1, none⟩ = some (.slice (some ⟨b, off, none⟩) N c) ∧ w'.cell? ⟨b, off + k, none⟩ = some (.string s) ∧ w'.cell? ⟨ga, 0, none⟩ = some (.int .i64 (wd : Int))) (first | exact ⟨d1, hcx, d0⟩ | exact hC.out _ hS4 | exact hC.out _ hS3 | exact hC.out _ hS2) (first | (go_at_call 33; refine (ltext_any s _ hsz).mono ?_; rintro e w1 ⟨t, rfl, ht, HT, rfl⟩) | (go_at_call 32; refine (HX.out t _ ht HT).mono ?_; rintro e w2 ⟨rfl, hb2⟩; have hbx : Below wr.heap.size wr w2 := (Below.refl wr.heap.size wr).drew.trans hb2; have hS2 := hS.below hbx; have hrow2 := hrow.below hbx; have hS3 := hS2.below ((Below.refl _ w2).alloc (Nat.le_refl _) (.cells #[.string X] 9)); have hsz2 := hbx.size; clear hb2) | (refine step_append_row _ (by rfl) (.tmp 13) (.tmp 23) 22 (by rfl) 9 i0 (.string ⟨#[]⟩) 16 Tryz.underlying22 hi0 hz0 hz1 hz2 (by rfl) (ga + 1) g k c' _ (by rfl) (hrow2.alloc _) ⟨w2.heap.size, 0, none⟩ 1 1 [.string X] (by rfl) rfl (World.news_of_block (heap_alloc_new w2 _)) (by simp [Value.oneCell']) (by unfold maxLen; omega) (by omega) (by simp; omega) (w2.heap.size + 1) (by simp) ?_; intro g4 c4 w4 hrow4 hgrow4 hg4 hkeep4; have hS4 := hS3.grown hgrow4 hgl))
      go_wp2_with fail
      go_roundw
      case rel => exact ⟨k + 1, g4, c4, hlt, by go_num, rfl, by rw [hstep.out]; exact hrow4, hS4⟩
      case measure => simp [intOf]; omega
    · obtain rfl : k = N := by omega
      have z1 : decide ((k : Int) < (k : Int)) = false := by simp
      have htk : ss.take k = ss := List.take_of_length_le (by omega)
      rw [htk] at hrow
      go_wp2_with fail
      go_ret
      exact ⟨g, c', rfl, by rw [hga]; exact hrow, hS.bw⟩
end Go.Proofs.YtdnbhejacpjgfaaGreatDoor
namespace Go.Proofs.YtdnbhejacpjgfaaGreatDoor
open Go.RowKit Go.Proofs.Sha

theorem strNe {t s : ByteArray} (h : ¬ t = s) : (t.toList == s.toList) = false := by
  rw [beq_eq_false_iff_ne]
  intro he
  rw [ByteArray.toList_eq, ByteArray.toList_eq] at he
  exact h (ByteArray.ext (Array.toList_inj.1 he))
theorem firstI_step_no {p : Nat → Bool} {k : Nat} (h : firstI p k = none) (h1 : p k = false) : firstI p (k + 1) = none := by
  rw [firstI, h, h1]; rfl
theorem firstI_step_yes {p : Nat → Bool} {k : Nat} (h : firstI p k = none) (h1 : p k = true) : firstI p (k + 1) = some k := by
  rw [firstI, h, h1]; rfl
theorem firstI_up {p : Nat → Bool} {k i : Nat} (h : firstI p k = some i) (m : Nat) : firstI p (k + m) = some i := by
  induction m with
  | zero => exact h
  | succ m ih => rw [← Nat.add_assoc, firstI, ih]
theorem firstI_congr {p q : Nat → Bool} {k : Nat} (h : ∀ j, j < k → p j = q j) : firstI p k = firstI q k := by
  induction k with
  | zero => rfl
  | succ k ih => rw [firstI, firstI, ih (fun j hj => h j (by omega)), h k (Nat.lt_succ_self k)]

set_option maxRecDepth 100000 in
set_option maxHeartbeats 2000000 in
theorem lfind_any (D : Dec) (wd : Nat) (HDd : Hid (DecSaid 42 wd D)) (a : Option Addr) (ss : List ByteArray) (c : Nat) (g c' : Nat) (hs : List ByteArray) (hash : ByteArray) (w : World) (h : SArg a ss w) (_hl : hs.length = ss.length) (hg : g < w.heap.size) (hh : ∀ j, j < ss.length → w.cell? ⟨g, j, none⟩ = some (.string (hs.getD j ⟨#[]⟩))) :
    Calls Tryz.prog 28 #[.agg #[.int .i64 (wd : Int), .slice a ss.length c], .slice (some ⟨g, 0, none⟩) ss.length c', .string hash] w fun e w' => e = .returned (nodeT (foundR D ss (firstI (fun i => decide (hs.getD i ⟨#[]⟩ = hash)) ss.length))) ∧ Below w.heap.size w w' := by
  have hn := h.le
  obtain ⟨p, hp⟩ : ∃ p : Nat → Bool, (fun i => decide (hs.getD i ⟨#[]⟩ = hash)) = p := ⟨_, rfl⟩
  obtain ⟨fx, hfx⟩ : ∃ fx, firstI p ss.length = fx := ⟨_, rfl⟩
  obtain ⟨N, hN⟩ : ∃ N, ss.length = N := ⟨_, rfl⟩
  rw [hp, hfx]
  rw [hN] at hn hfx hh
  rw [hN]
  obtain ⟨R, hR⟩ : ∃ R, foundR D ss fx = R := ⟨_, rfl⟩
  rw [hR]
  have hS0 := P2.mk0 w (wd : Int) a N c
  go_enter Tryz.func28, Tryz.ntmps28
  go_wp2_with fail
  obtain ⟨ga, hga⟩ : ∃ ga, w.heap.size = ga := ⟨_, rfl⟩
  obtain ⟨gb, hgb⟩ : ∃ gb, w.heap.size + 1 = gb := ⟨_, rfl⟩
  generalize (w.alloc (.cells #[.int .i64 (wd : Int), .slice a N c] 29)).alloc (.cells #[.string ⟨#[]⟩, .string ⟨#[]⟩, .string ⟨#[]⟩, .string ⟨#[]⟩] 59) = W0 at hS0 ⊢
  rw [hgb, hga] at hS0 ⊢
  clear hgb
  replace hga : Hid _ := hga
  go_loopw [8] (fun t8 wr => ∃ k : Nat, k ≤ N ∧ t8 = .int .i64 (k : Int) ∧ firstI p k = none ∧ P2 w ga gb (wd : Int) a N c wr) (fun t8 _ => N - (intOf t8).toNat)
  case atStart => exact ⟨0, Nat.zero_le _, rfl, rfl, hS0⟩
  case round =>
    clear hS0
    obtain ⟨k, hk, rfl, hf, hS⟩ := hrel
    by_cases hlt : k < N
    · have z1 : decide ((k : Int) < (N : Int)) = true := by simp; omega
      have hx0 : (0 : Int) ≤ (k : Int) := Int.natCast_nonneg _
      have hx1 : (k : Int) < (N : Int) := by omega
      obtain ⟨x, hx⟩ : ∃ x, hs.getD k ⟨#[]⟩ = x := ⟨_, rfl⟩
      have hcy := (hS.bw.cell hg).trans (hh k hlt)
      rw [hx] at hcy
      have hpk : p k = decide (x = hash) := by rw [← hp, ← hx]
      by_cases he : x = hash
      · have z2 : (x.toList == hash.toList) = true := by rw [he]; simp
        have hfk : fx = some k := by
          have h1 := firstI_up (firstI_step_yes hf (hpk.trans (decide_eq_true he))) (N - (k + 1))
          rw [show k + 1 + (N - (k + 1)) = N by omega, hfx] at h1
          exact h1
        obtain ⟨b, off, rfl, hbl, hcs⟩ := h.at_ (by omega)
        obtain ⟨s, hs'⟩ : ∃ s, ss.getD k ⟨#[]⟩ = s := ⟨_, rfl⟩
        have hsz : s.size ≤ 1048576 := by rw [← hs']; exact h.sz k
        have hR1 : R = if D.ok s then ((D.k s, D.v s, D.l s, D.r s), 0) else ((⟨#[]⟩, ⟨#[]⟩, ⟨#[]⟩, ⟨#[]⟩), 3) := by rw [← hR, hfk, foundR, hs']
        have hc0 := hcs k (by omega)
        rw [hs'] at hc0
        have hC : Hid (∀ W, P2 w ga gb (wd : Int) (some ⟨b, off, none⟩) N c W → W.cell? ⟨ga, 1, none⟩ = some (.slice (some ⟨b, off, none⟩) N c) ∧ W.cell? ⟨b, off + k, none⟩ = some (.string s) ∧ W.cell? ⟨ga, 0, none⟩ = some (.int .i64 (wd : Int))) := fun W hW => ⟨Lib.cell_of_heap hW.na 1, (hW.bw.cell hbl).trans hc0, Lib.cell_of_heap hW.na 0⟩
        have hcx := (hS.bw.cell hbl).trans hc0
        have hg3 : Hid (gb < wr.heap.size) := (Array.getElem?_eq_some_iff.1 hS.nb).1
        clear hcs hs' hc0 hpk hf hh hR hfk hfx hp hx _hl hN
        go_upto_region 5 with fail
        clear hcy z1 z2 he
        have d0 := Lib.cell_of_heap hS.na 0
        have d1 := Lib.cell_of_heap hS.na 1
        obtain ⟨xk, hxk⟩ : ∃ x, D.k s = x := ⟨_, rfl⟩
        obtain ⟨xv, hxv⟩ : ∃ x, D.v s = x := ⟨_, rfl⟩
        obtain ⟨xl, hxl⟩ : ∃ x, D.l s = x := ⟨_, rfl⟩
        obtain ⟨xr, hxr⟩ : ∃ x, D.r s = x := ⟨_, rfl⟩
        cases hok : D.ok s with
        | true =>
          have HD1 : Hid (∀ w', Calls Tryz.prog 42 #[.string s, .int .i64 (wd : Int)] w' fun e w'' => e = .returned (.tuple #[.agg #[.string xk, .string xv, .string xl, .string xr], .bool true]) ∧ Below w'.heap.size w' w'') := fun w' => by
            have := HDd.out s w' hsz
            rw [hok, hxk, hxv, hxl, hxr] at this
            exact this
          have HR : Hid (R = ((xk, xv, xl, xr), 0)) := by
            show R = _
            rw [hR1, hok, hxk, hxv, hxl, hxr]
            rfl
          clear hxk hxv hxl hxr hok hR1
          go_region_held3 (fun w' => w'.cell? ⟨ga, 1, none⟩ = some (.slice (some ⟨b, off, none⟩) N c) ∧ w'.cell? ⟨b, off + k, none⟩ = some (.string s) ∧ w'.cell? ⟨ga, 0, none⟩ = some (.int .i64 (wd : Int))) (first | exact ⟨d1, hcx, d0⟩ | exact hC.out _ (hS.below ((Below.refl _ wr).drew.alloc (Nat.le_refl _) _)) | exact hC.out _ hS4 | exact hC.out _ (hS4.set4 hg3.out _ _ _ _) | exact hC.out _ (hS4.below ((Below.refl _ _).alloc (Nat.le_refl _) _))) (first | (go_at_call 42; refine (HD1.out _).mono ?_; rintro e w4 ⟨rfl, hb4⟩; have n4 : NBk wr.heap.size ⟨#[]⟩ ⟨#[]⟩ ⟨#[]⟩ ⟨#[]⟩ w4 := NBk.below (show NBk wr.heap.size ⟨#[]⟩ ⟨#[]⟩ ⟨#[]⟩ ⟨#[]⟩ (wr.drew.alloc (.cells #[.string ⟨#[]⟩, .string ⟨#[]⟩, .string ⟨#[]⟩, .string ⟨#[]⟩] 59)) from heap_alloc_new wr.drew _) hb4; have hS4 := (hS.below ((Below.refl _ wr).drew.alloc (Nat.le_refl _) (.cells #[.string ⟨#[]⟩, .string ⟨#[]⟩, .string ⟨#[]⟩, .string ⟨#[]⟩] 59))).below hb4; clear hb4; obtain ⟨k0, k1, k2, k3, l0, l1, l2, l3⟩ := n4.at) | (go_at_call 42; refine (HD1.out _).mono ?_; rintro e w4 ⟨rfl, hb4⟩; have hS4 := hS.below ((Below.refl wr.heap.size wr).drew.trans hb4); clear hb4))
          all_goals (clear d0 d1 hcx)
          · have n5 : NBk w4.heap.size xk xv xl xr (w4.alloc (.cells #[.string xk, .string xv, .string xl, .string xr] 59)) := heap_alloc_new _ _
            have hS5 := hS4.below ((Below.refl _ w4).alloc (Nat.le_refl _) (.cells #[.string xk, .string xv, .string xl, .string xr] 59))
            generalize w4.alloc (.cells #[.string xk, .string xv, .string xl, .string xr] 59) = W5 at n5 hS5 ⊢
            generalize w4.heap.size = g5 at n5 ⊢
            clear hS4
            obtain ⟨k0, k1, k2, k3, l0, l1, l2, l3⟩ := n5.at
            obtain ⟨c0, c1, c2, c3, f0, f1, f2, f3⟩ := hS5.nb.at
            go_wp2_with fail
            exact retN Tryz.results28 rfl rfl rfl (hS5.nb.all _ _ _ _) ⟨by rw [HR.out], hS5.fin _ _ _ _⟩
          · have n5 := n4.all xk xv xl xr
            have hS5 := hS4.set4 hg3.out (.string xk) (.string xv) (.string xl) (.string xr)
            generalize (((w4.setCell ⟨wr.heap.size, 0, none⟩ (.string xk)).setCell ⟨wr.heap.size, 1, none⟩ (.string xv)).setCell ⟨wr.heap.size, 2, none⟩ (.string xl)).setCell ⟨wr.heap.size, 3, none⟩ (.string xr) = W5 at n5 hS5 ⊢
            generalize wr.heap.size = g5 at n5 ⊢
            clear k0 k1 k2 k3 l0 l1 l2 l3 n4 hS4
            obtain ⟨k0, k1, k2, k3, l0, l1, l2, l3⟩ := n5.at
            obtain ⟨c0, c1, c2, c3, f0, f1, f2, f3⟩ := hS5.nb.at
            go_wp2_with fail
            exact retN Tryz.results28 rfl rfl rfl (hS5.nb.all _ _ _ _) ⟨by rw [HR.out], hS5.fin _ _ _ _⟩
        | false =>
          have HD1 : Hid (∀ w', Calls Tryz.prog 42 #[.string s, .int .i64 (wd : Int)] w' fun e w'' => e = .returned (.tuple #[.agg #[.string xk, .string xv, .string xl, .string xr], .bool false]) ∧ Below w'.heap.size w' w'') := fun w' => by
            have := HDd.out s w' hsz
            rw [hok, hxk, hxv, hxl, hxr] at this
            exact this
          have HR : Hid (R = ((⟨#[]⟩, ⟨#[]⟩, ⟨#[]⟩, ⟨#[]⟩), 3)) := by
            show R = _
            rw [hR1, hok, hxk, hxv, hxl, hxr]
            rfl
          clear hxk hxv hxl hxr hok hR1
          go_region_held3 (fun w' => w'.cell? ⟨ga, 1, none⟩ = some (.slice (some ⟨b, off, none⟩) N c) ∧ w'.cell? ⟨b, off + k, none⟩ = some (.string s) ∧ w'.cell? ⟨ga, 0, none⟩ = some (.int .i64 (wd : Int))) (first | exact ⟨d1, hcx, d0⟩ | exact hC.out _ (hS.below ((Below.refl _ wr).drew.alloc (Nat.le_refl _) _)) | exact hC.out _ hS4 | exact hC.out _ (hS4.set4 hg3.out _ _ _ _) | exact hC.out _ (hS4.below ((Below.refl _ _).alloc (Nat.le_refl _) _))) (first | (go_at_call 42; refine (HD1.out _).mono ?_; rintro e w4 ⟨rfl, hb4⟩; have n4 : NBk wr.heap.size ⟨#[]⟩ ⟨#[]⟩ ⟨#[]⟩ ⟨#[]⟩ w4 := NBk.below (show NBk wr.heap.size ⟨#[]⟩ ⟨#[]⟩ ⟨#[]⟩ ⟨#[]⟩ (wr.drew.alloc (.cells #[.string ⟨#[]⟩, .string ⟨#[]⟩, .string ⟨#[]⟩, .string ⟨#[]⟩] 59)) from heap_alloc_new wr.drew _) hb4; have hS4 := (hS.below ((Below.refl _ wr).drew.alloc (Nat.le_refl _) (.cells #[.string ⟨#[]⟩, .string ⟨#[]⟩, .string ⟨#[]⟩, .string ⟨#[]⟩] 59))).below hb4; clear hb4; obtain ⟨k0, k1, k2, k3, l0, l1, l2, l3⟩ := n4.at) | (go_at_call 42; refine (HD1.out _).mono ?_; rintro e w4 ⟨rfl, hb4⟩; have hS4 := hS.below ((Below.refl wr.heap.size wr).drew.trans hb4); clear hb4))
          all_goals (clear d0 d1 hcx)
          · have n5 : NBk w4.heap.size xk xv xl xr (w4.alloc (.cells #[.string xk, .string xv, .string xl, .string xr] 59)) := heap_alloc_new _ _
            have hS5 := hS4.below ((Below.refl _ w4).alloc (Nat.le_refl _) (.cells #[.string xk, .string xv, .string xl, .string xr] 59))
            generalize w4.alloc (.cells #[.string xk, .string xv, .string xl, .string xr] 59) = W5 at n5 hS5 ⊢
            generalize w4.heap.size = g5 at n5 ⊢
            clear hS4
            obtain ⟨k0, k1, k2, k3, l0, l1, l2, l3⟩ := n5.at
            obtain ⟨c0, c1, c2, c3, f0, f1, f2, f3⟩ := hS5.nb.at
            go_wp2_with fail
            exact retN Tryz.results28 rfl rfl rfl (hS5.nb.all _ _ _ _) ⟨by rw [HR.out], hS5.fin _ _ _ _⟩
          · have n5 := n4.all xk xv xl xr
            have hS5 := hS4.set4 hg3.out (.string xk) (.string xv) (.string xl) (.string xr)
            generalize (((w4.setCell ⟨wr.heap.size, 0, none⟩ (.string xk)).setCell ⟨wr.heap.size, 1, none⟩ (.string xv)).setCell ⟨wr.heap.size, 2, none⟩ (.string xl)).setCell ⟨wr.heap.size, 3, none⟩ (.string xr) = W5 at n5 hS5 ⊢
            generalize wr.heap.size = g5 at n5 ⊢
            clear k0 k1 k2 k3 l0 l1 l2 l3 n4 hS4
            obtain ⟨k0, k1, k2, k3, l0, l1, l2, l3⟩ := n5.at
            obtain ⟨c0, c1, c2, c3, f0, f1, f2, f3⟩ := hS5.nb.at
            go_wp2_with fail
            exact retN Tryz.results28 rfl rfl rfl (hS5.nb.all _ _ _ _) ⟨by rw [HR.out], hS5.fin _ _ _ _⟩
      · have z2 : (x.toList == hash.toList) = false := strNe he
        have hf' := firstI_step_no hf (hpk.trans (decide_eq_false he))
        clear hpk hx
        go_wp2_with fail
        go_roundw
        case rel => exact ⟨k + 1, hlt, by go_num, hf', hS⟩
        case measure => simp [intOf]; omega
    · obtain rfl : k = N := by omega
      have z1 : decide ((k : Int) < (k : Int)) = false := by simp
      have HR : Hid (R = ((⟨#[]⟩, ⟨#[]⟩, ⟨#[]⟩, ⟨#[]⟩), 2)) := by
        show R = _
        rw [← hR, ← hfx, hf]
        rfl
      clear hh hR hfx hf hp
      obtain ⟨c0, c1, c2, c3, f0, f1, f2, f3⟩ := hS.nb.at
      go_wp2_with fail
      exact retN Tryz.results28 rfl rfl rfl (hS.nb.all _ _ _ _) ⟨by rw [HR.out], hS.fin _ _ _ _⟩
end Go.Proofs.YtdnbhejacpjgfaaGreatDoor
namespace Go.Proofs.YtdnbhejacpjgfaaGreatDoor
open Go.RowKit Go.Proofs.Sha

theorem P2.na4 {w : World} {ga gb : Nat} {n : Int} {a : Option Addr} {m c : Nat} {W : World} (h : P2 w ga gb n a m c W) (x y z u : Value) : ((((W.setCell ⟨gb, 0, none⟩ x).setCell ⟨gb, 1, none⟩ y).setCell ⟨gb, 2, none⟩ z).setCell ⟨gb, 3, none⟩ u).heap[ga]? = some (.cells #[.int .i64 n, .slice a m c] 29) := by
  have hge : ga + 1 ≤ gb := by have := h.nx; omega
  have hb : Below (ga + 1) W ((((W.setCell ⟨gb, 0, none⟩ x).setCell ⟨gb, 1, none⟩ y).setCell ⟨gb, 2, none⟩ z).setCell ⟨gb, 3, none⟩ u) := ((((Below.refl _ W).setCell hge _).setCell hge _).setCell hge _).setCell hge _
  exact (hb.block ga (by omega)).trans h.na
theorem hashT_hit (wd : Nat) (s hash : ByteArray) : decide (hashT wd s = hash) = decide ((sha (78 :: s.data.toList)).take wd = hash.data.toList) := by
  unfold hashT
  by_cases h : (sha (78 :: s.data.toList)).take wd = hash.data.toList
  · rw [decide_eq_true h, decide_eq_true]
    rw [h]
  · rw [decide_eq_false h, decide_eq_false]
    intro he
    apply h
    rw [← he]
theorem first_hash (wd : Nat) (ss : List ByteArray) (hash : ByteArray) : firstI (fun i => decide ((ss.map (hashT wd)).getD i ⟨#[]⟩ = hash)) ss.length = firstI (hitB wd ss hash) ss.length := by
  refine firstI_congr fun j hj => ?_
  have h1 : (ss.map (hashT wd)).getD j ⟨#[]⟩ = hashT wd (ss.getD j ⟨#[]⟩) := by
    rw [List.getD_eq_getElem?_getD, List.getElem?_map, List.getD_eq_getElem?_getD, List.getElem?_eq_getElem hj]
    rfl
  rw [h1, hitB, hashT_hit]

end Go.Proofs.YtdnbhejacpjgfaaGreatDoor
namespace Go.Proofs.YtdnbhejacpjgfaaGreatDoor
open Go.RowKit Go.Proofs.Sha

/-- A slice of texts that was handed in, whatever its size. -/
structure RArg (a : Option Addr) (ss : List ByteArray) (w : World) : Prop where
  at_ : 0 < ss.length → ∃ b off : Nat, a = some ⟨b, off, none⟩ ∧ b < w.heap.size ∧ ∀ j, j < ss.length → w.cell? ⟨b, off + j, none⟩ = some (.string (ss.getD j ⟨#[]⟩))
theorem RArg.below {a : Option Addr} {ss : List ByteArray} {w w' : World} (h : RArg a ss w) (hb : Below w.heap.size w w') : RArg a ss w' := by
  refine ⟨fun hn => ?_⟩
  obtain ⟨b, off, ha, hlt, hc⟩ := h.at_ hn
  exact ⟨b, off, ha, Nat.lt_of_lt_of_le hlt hb.size, fun j hj => (hb.cell hlt).trans (hc j hj)⟩
/-- Within the law's bound. -/
def SmallS (ss : List ByteArray) : Prop := ss.length ≤ 1048576 ∧ ∀ j, (ss.getD j ⟨#[]⟩).size ≤ 1048575
theorem RArg.sarg {a : Option Addr} {ss : List ByteArray} {w : World} (h : RArg a ss w) (hs : SmallS ss) : SArg a ss w := ⟨hs.1, fun j => Nat.le_trans (hs.2 j) (by decide), h.at_⟩
theorem wr_in (n : Int) (h : -9223372036854775808 ≤ n ∧ n ≤ 9223372036854775807) : wrap64 n = n := by unfold wrap64; omega
theorem getD_out (ss : List ByteArray) (j : Nat) (h : ss.length ≤ j) : ss.getD j ⟨#[]⟩ = ⟨#[]⟩ := by
  rw [List.getD_eq_getElem?_getD, List.getElem?_eq_none h]; rfl
set_option maxRecDepth 100000 in
set_option maxHeartbeats 1000000 in
theorem szStringS_any (a : Option Addr) (ss : List ByteArray) (c : Nat) (w : World) (h : RArg a ss w) (hN : ss.length ≤ maxLen) (hM : ∀ j, (ss.getD j ⟨#[]⟩).size ≤ maxLen) :
    Calls Tryz.prog 13 #[.slice a ss.length c, .int .i64 1048576] w fun e w' => ∃ r : Int, e = .returned (.int .i64 r) ∧ Hid (0 ≤ r → SmallS ss) ∧ w = w' := by
  unfold maxLen at hN hM
  obtain ⟨N, hl⟩ : ∃ N, ss.length = N := ⟨_, rfl⟩
  rw [hl] at hN
  rw [hl]
  by_cases hx : 1048576 < N
  · have z1 : decide ((1048576 : Int) - (N : Int) < 0) = true := by rw [decide_eq_true_eq]; omega
    have z3 : (-9223372036854775808 : Int) ≤ 1048576 - (N : Int) := by omega
    have z4 : (1048576 : Int) - (N : Int) ≤ 9223372036854775807 := by omega
    have z5 : wrap64 (1048576 - (N : Int)) = 1048576 - (N : Int) := wr_in _ (by omega)
    go_enter Tryz.func13, Tryz.ntmps13
    go_wp2_with fail
    go_ret
    exact ⟨_, rfl, fun hh => absurd hh (by decide), rfl⟩
  · have z1 : decide ((1048576 : Int) - (N : Int) < 0) = false := by rw [decide_eq_false_iff_not]; omega
    have z5 : wrap64 (1048576 - (N : Int)) = 1048576 - (N : Int) := wr_in _ (by omega)
    obtain ⟨q, hq⟩ : ∃ q : Nat, 1048576 - (N : Int) = (q : Int) := ⟨1048576 - N, by omega⟩
    rw [hq] at z1 z5
    go_enter Tryz.func13, Tryz.ntmps13
    go_wp2_with fail
    go_loopw [1, 5] (fun t1 t5 wr => ∃ k r : Nat, k ≤ N ∧ t5 = .int .i64 (k : Int) ∧ t1 = .int .i64 (r : Int) ∧ r ≤ q ∧ (∀ j, j < k → (ss.getD j ⟨#[]⟩).size ≤ q) ∧ w = wr) (fun _ t5 _ => N - (intOf t5).toNat)
    case atStart => exact ⟨0, q, Nat.zero_le _, rfl, by first | rfl | rw [z5], Nat.le_refl _, fun j hj => absurd hj (Nat.not_lt_zero j), rfl⟩
    case round =>
      obtain ⟨k, r, hk, rfl, rfl, hr, hall, rfl⟩ := hrel
      by_cases hlt : k < N
      · have y1 : decide ((k : Int) < (N : Int)) = true := by simp; omega
        have hx0 : (0 : Int) ≤ (k : Int) := Int.natCast_nonneg _
        have hx1 : (k : Int) < (N : Int) := by omega
        obtain ⟨b, off, rfl, hbl, hcs⟩ := h.at_ (by omega)
        obtain ⟨s, hs⟩ : ∃ s, ss.getD k ⟨#[]⟩ = s := ⟨_, rfl⟩
        have hsz : s.size ≤ 9223372036854775807 := by rw [← hs]; exact hM k
        have hcx := hcs k (by omega)
        rw [hs] at hcx
        by_cases hc : s.size ≤ r
        · obtain ⟨r', hr'⟩ : ∃ r' : Nat, (r : Int) - (s.size : Int) = (r' : Int) := ⟨r - s.size, by omega⟩
          have y2 : wrap64 ((r : Int) - (s.size : Int)) = (r' : Int) := by rw [hr']; exact wr_in _ (by omega)
          have y3 : decide ((r' : Int) < 0) = false := by rw [decide_eq_false_iff_not]; omega
          have hall' : ∀ j, j < k + 1 → (ss.getD j ⟨#[]⟩).size ≤ q := fun j hj => by
            by_cases hjk : j < k
            · exact hall j hjk
            · obtain rfl : j = k := by omega
              rw [hs]; omega
          clear hall hcs
          go_wp2_with fail
          go_roundw
          case rel => exact ⟨k + 1, r', hlt, by go_num, rfl, by omega, hall', by first | trivial | rfl⟩
          case measure => simp [intOf]; omega
        · obtain ⟨v, hv⟩ : ∃ v : Int, (r : Int) - (s.size : Int) = v := ⟨_, rfl⟩
          have y2 : wrap64 ((r : Int) - (s.size : Int)) = v := by rw [hv]; exact wr_in _ (by omega)
          have y3 : decide (v < 0) = true := by rw [decide_eq_true_eq]; omega
          clear hall hcs
          go_wp2_with fail
          go_ret
          exact ⟨_, rfl, fun hh => absurd hh (by decide), rfl⟩
      · obtain rfl : k = N := by omega
        have y1 : decide ((k : Int) < (k : Int)) = false := by simp
        have HS : Hid (SmallS ss) := by
          refine ⟨by omega, fun j => ?_⟩
          by_cases hj : j < k
          · have := hall j hj; omega
          · rw [getD_out ss j (by omega)]; exact Nat.zero_le _
        clear hall
        go_wp2_with fail
        go_ret
        exact ⟨_, rfl, fun _ => HS.out, rfl⟩
end Go.Proofs.YtdnbhejacpjgfaaGreatDoor
namespace Go.Proofs.YtdnbhejacpjgfaaGreatDoor
open Go.RowKit Go.Proofs.Sha

theorem make29 (n : Nat) (hn : n ≤ 1048576) (W : World) : (Instr.makeSlice 22 (.int .i64 (n : Int)) (.int .i64 (n : Int))).run Tryz.prog W = .ok (.slice (some ⟨W.heap.size, 0, none⟩) n n) (W.alloc (.cells ((List.replicate n ⟨#[]⟩).map Value.string).toArray 9)) := by
  obtain ⟨i0, hi, hz0, hz1, hz2⟩ := info_parts info9
  have e : madeCells (Value.string ⟨#[]⟩).cells (((n : Nat) : Int).toNat * i0.size) = ((List.replicate n ⟨#[]⟩).map Value.string).toArray := by
    rw [hz1, Int.toNat_natCast, Nat.mul_one]
    show madeCells #[.string ⟨#[]⟩] n = _
    rw [← Array.toList_inj, toList_madeCells_one, List.map_replicate]
  have h := run_make (P := Tryz.prog) W 22 9 i0 (.string ⟨#[]⟩) Tryz.underlying22 hi hz0 .i64 .i64 (n : Int) (n : Int) (by omega) (by omega) (by rw [hz2]; omega) (by omega)
  rw [e] at h
  simpa using h
theorem Row.sarg {w : World} {base g c : Nat} {ss : List ByteArray} (h : Row w base g ss.length c (ss.map Value.string)) (hs : SmallS ss) : SArg (some ⟨g, 0, none⟩) ss w := by
  refine RArg.sarg ⟨fun _ => ⟨g, 0, rfl, h.lt, fun j hj => ?_⟩⟩ hs
  rw [Nat.zero_add, h.cell j hj, List.getElem?_map, List.getElem?_eq_getElem hj, List.getD_eq_getElem?_getD, List.getElem?_eq_getElem hj]
  rfl

/-- The first k of xs, and zeros. -/
def partS (xs : List ByteArray) (k : Nat) : List ByteArray := xs.take k ++ List.replicate (xs.length - k) ⟨#[]⟩
theorem partS_zero (xs : List ByteArray) : partS xs 0 = List.replicate xs.length ⟨#[]⟩ := by simp [partS]
theorem partS_all (xs : List ByteArray) : partS xs xs.length = xs := by simp [partS]
theorem partS_len (xs : List ByteArray) (k : Nat) (h : k ≤ xs.length) : (partS xs k).length = xs.length := by simp [partS]; omega
theorem partS_set (xs : List ByteArray) (k : Nat) (h : k < xs.length) : ((partS xs k).map Value.string).set k (Value.string (xs.getD k ⟨#[]⟩)) = (partS xs (k + 1)).map Value.string := by
  rw [← List.map_set]
  congr 1
  have e : xs.take (k + 1) = xs.take k ++ [xs[k]] := by rw [List.take_add_one, List.getElem?_eq_getElem h]; rfl
  unfold partS
  rw [show xs.length - k = (xs.length - (k + 1)) + 1 by omega, List.replicate_succ, List.set_append_right _ _ (by rw [List.length_take]; omega), List.length_take, show k - min k xs.length = 0 by omega, List.set_cons_zero, e, List.getD_eq_getElem?_getD, List.getElem?_eq_getElem h, List.append_assoc]
  rfl

set_option maxRecDepth 100000 in
theorem toStringS_any (a : Option Addr) (xs : List ByteArray) (c : Nat) (w : World) (h : SArg a xs w) :
    Calls Tryz.prog 18 #[.slice a xs.length c] w fun e w' => ∃ g, e = .returned (.slice (some ⟨g, 0, none⟩) xs.length xs.length) ∧ Row w' w.heap.size g xs.length xs.length (xs.map Value.string) ∧ Below w.heap.size w w' := by
  have hn := h.le
  have hmk := make29 xs.length hn
  go_enter Tryz.func18, Tryz.ntmps18
  have hrow0 : Row (w.alloc (.cells ((List.replicate xs.length ⟨#[]⟩).map Value.string).toArray 9)) w.heap.size w.heap.size xs.length xs.length ((partS xs 0).map Value.string) := by
    have := Row.of_block (Nat.le_refl w.heap.size) (heap_alloc_new w (.cells ((List.replicate xs.length ⟨#[]⟩).map Value.string).toArray 9)) xs.length (by simp) (.inl rfl)
    simpa [partS_zero] using this
  have hb0 : Below w.heap.size w (w.alloc (.cells ((List.replicate xs.length ⟨#[]⟩).map Value.string).toArray 9)) := (Below.refl _ _).alloc (Nat.le_refl _) _
  obtain ⟨o, ho⟩ : ∃ o, (.cells ((List.replicate xs.length ⟨#[]⟩).map Value.string).toArray 9 : Obj) = o := ⟨_, rfl⟩
  rw [ho] at hrow0 hb0 hmk
  clear ho
  go_wp2_with fail
  go_loopw [4] (fun t wr => ∃ k : Nat, k ≤ xs.length ∧ t = .int .i64 (k : Int) ∧ Row wr w.heap.size w.heap.size xs.length xs.length ((partS xs k).map Value.string) ∧ Below w.heap.size w wr) (fun t _ => xs.length - (intOf t).toNat)
  case atStart => exact ⟨0, Nat.zero_le _, rfl, hrow0, hb0⟩
  case round =>
    clear hrow0 hb0 hmk
    obtain ⟨k, hk, rfl, hrow, hbel⟩ := hrel
    by_cases hlt : k < xs.length
    · have z1 : decide ((k : Int) < (xs.length : Int)) = true := by simp; omega
      obtain ⟨b, off, rfl, hbl, hc⟩ := (h.below hbel).at_ (by omega)
      have hcx := hc k hlt
      obtain ⟨y, hy⟩ := Option.isSome_iff_exists.1 (hrow.room k hlt)
      have hfr := hrow.free k hlt
      obtain ⟨x, hx⟩ : ∃ x, xs.getD k ⟨#[]⟩ = x := ⟨_, rfl⟩
      rw [hx] at hcx
      clear hc
      obtain ⟨g, hg⟩ : ∃ g, w.heap.size = g := ⟨_, rfl⟩
      rw [hg] at hy hfr hrow hbel ⊢
      go_wp2_with fail
      go_roundw
      case rel =>
        have e := hrow.set k hlt (Value.string (xs.getD k ⟨#[]⟩))
        rw [partS_set xs k hlt, hx] at e
        exact ⟨k + 1, hlt, rfl, e, hbel.setCell (Nat.le_refl _) _⟩
      case measure => simp [intOf]; omega
    · obtain rfl : k = xs.length := by omega
      have z1 : decide ((xs.length : Int) < (xs.length : Int)) = false := by simp
      rw [partS_all] at hrow
      go_wp2_with fail
      go_ret
      exact ⟨_, rfl, hrow, hbel⟩

set_option maxRecDepth 100000 in
theorem eqStringS_same (a a2 : Option Addr) (xs : List ByteArray) (c c2 : Nat) (w : World) (h : SArg a xs w) (h2 : SArg a2 xs w) :
    Calls Tryz.prog 23 #[.slice a xs.length c, .slice a2 xs.length c2] w fun e w' => e = .returned (.bool true) ∧ Below w.heap.size w w' := by
  have hn := h.le
  go_enter Tryz.func23, Tryz.ntmps23
  go_wp2_with fail
  go_loopw [5] (fun t wr => ∃ k : Nat, k ≤ xs.length ∧ t = .int .i64 (k : Int) ∧ Below w.heap.size w wr) (fun t _ => xs.length - (intOf t).toNat)
  case atStart => exact ⟨0, Nat.zero_le _, rfl, Below.refl _ _⟩
  case round =>
    obtain ⟨k, hk, rfl, hbel⟩ := hrel
    by_cases hlt : k < xs.length
    · have z1 : decide ((k : Int) < (xs.length : Int)) = true := by simp; omega
      obtain ⟨b, off, rfl, hbl, hc⟩ := (h.below hbel).at_ (by omega)
      obtain ⟨b2, off2, rfl, hbl2, hc2⟩ := (h2.below hbel).at_ (by omega)
      have hcx := hc k hlt
      have hcy := hc2 k hlt
      obtain ⟨x, hx⟩ : ∃ x, xs.getD k ⟨#[]⟩ = x := ⟨_, rfl⟩
      rw [hx] at hcx hcy
      have hq : (x.toList != x.toList) = false := by simp
      clear hc hc2 hx
      have b1 : (k : Int) < (xs.length : Int) := by omega
      go_wp2_with fail
      go_region_held3 (fun W => W.cell? ⟨b, off + k, none⟩ = some (.string x) ∧ W.cell? ⟨b2, off2 + k, none⟩ = some (.string x)) (exact ⟨hcx, hcy⟩) (fail)
      go_wp2_with fail
      go_roundw
      case rel => exact ⟨k + 1, hlt, rfl, hbel.drew⟩
      case measure => simp [intOf]; omega
    · obtain rfl : k = xs.length := by omega
      have z1 : decide ((xs.length : Int) < (xs.length : Int)) = false := by simp
      go_wp2_with fail
      go_ret
      exact ⟨rfl, hbel⟩
end Go.Proofs.YtdnbhejacpjgfaaGreatDoor
namespace Go.Proofs.YtdnbhejacpjgfaaGreatDoor
open Go.RowKit Go.Proofs.Sha

def byteS (n : Nat) : ByteArray := ⟨#[UInt8.ofNat n]⟩
theorem byte_form (n : Nat) : Value.int .u8 ((n : Int) % 256) = B (UInt8.ofNat n) := by
  unfold B
  rw [UInt8.toNat_ofNat']
  show Value.int .u8 _ = Value.int .u8 ((n % 256 : Nat) : Int)
  rw [Int.natCast_emod]; rfl

set_option maxRecDepth 100000 in
set_option maxHeartbeats 400000 in
theorem byte_any (n : Nat) (_hn : n ≤ 1048576) (w : World) :
    Calls Tryz.prog 61 #[.int .i64 (n : Int)] w fun e w' => e = .returned (.string (byteS n)) ∧ Below w.heap.size w w' := by
  have hrow : Row (w.alloc (.cells #[.int .u8 ((n : Int) % 256)] 5)) w.heap.size w.heap.size 1 1 ([UInt8.ofNat n].map B) := by
    have e : [UInt8.ofNat n].map B = [.int .u8 ((n : Int) % 256)] := by rw [byte_form]; rfl
    rw [e]
    exact Row.of_block (Nat.le_refl _) (heap_alloc_new w (.cells #[.int .u8 ((n : Int) % 256)] 5)) 1 (by simp) (.inl rfl)
  go_enter Tryz.func61, Tryz.ntmps61
  go_wp2_with (refine wpList_string_row _ rfl (.tmp 5) 80 9 5 rfl w.heap.size w.heap.size 1 1 [UInt8.ofNat n] rfl hrow Tryz.underlying80 Tryz.underlying5 Tryz.underlying9 ?_)
  go_ret
  exact ⟨rfl, (Below.refl _ _).alloc (Nat.le_refl _) _⟩

theorem byte_i (m : Int) (h0 : 0 ≤ m) (h1 : m ≤ 1048576) (w : World) :
    Calls Tryz.prog 61 #[.int .i64 m] w fun e w' => ∃ t : ByteArray, e = .returned (.string t) ∧ t.size ≤ 1 ∧ Hid (t = byteS m.toNat) ∧ Below w.heap.size w w' := by
  obtain ⟨n, rfl⟩ := Int.eq_ofNat_of_zero_le h0
  rw [Int.toNat_natCast]
  exact (byte_any n (by omega) w).mono fun e w' ⟨he, hb⟩ => ⟨_, he, Nat.le_refl _, rfl, hb⟩

/-- A text of bytes. -/
def T (l : List UInt8) : ByteArray := ⟨l.toArray⟩
theorem T_data (l : List UInt8) : (T l).data.toList = l := rfl
theorem T_size (l : List UInt8) : (T l).size = l.length := rfl
theorem T_of (s : ByteArray) : T s.data.toList = s := by cases s; rfl
theorem T_append (a b : List UInt8) : T a ++ T b = T (a ++ b) := by
  apply ByteArray.ext
  show (T a ++ T b).data = _
  rw [ByteArray.data_append]
  apply Array.ext'
  simp [T]

def sized (l : List UInt8) : List UInt8 := UInt8.ofNat (l.length / 256) :: UInt8.ofNat (l.length % 256) :: l
theorem byteS_T (n : Nat) : byteS n = T [UInt8.ofNat n] := rfl

set_option maxRecDepth 100000 in
set_option maxHeartbeats 400000 in
theorem sized_any (l : List UInt8) (hl : l.length ≤ 1048576) (w : World) :
    Calls Tryz.prog 60 #[.string (T l)] w fun e w' => e = .returned (.string (T (sized l))) ∧ Below w.heap.size w w' := by
  have hs := T_size l
  obtain ⟨s, hS⟩ : ∃ s, T l = s := ⟨_, rfl⟩
  rw [hS] at hs
  rw [hS]
  have HS : Hid (T l = s ∧ s.size = l.length) := ⟨hS, hs⟩
  have hs2 : s.size ≤ 1048576 := by omega
  clear hS hs
  go_enter Tryz.func60, Tryz.ntmps60
  go_wp2_with fail
  refine (byte_i _ (by omega) (by omega) _).mono ?_
  rintro e w1 ⟨t1, rfl, hz1, HT1, hb1⟩
  go_wp2_with fail
  refine (byte_i _ (by omega) (by omega) _).mono ?_
  rintro e w2 ⟨t2, rfl, hz2, HT2, hb2⟩
  go_wp2
  go_ret
  refine ⟨congrArg (fun z => Ending.returned (.string z)) ?_, hb1.trans (hb2.mono hb1.size)⟩
  show t1 ++ t2 ++ s = T (sized l)
  rw [HT1.out, HT2.out, byteS_T, byteS_T, ← HS.out.1, T_append, T_append]
  have e1 : ((T l).size / 256 : Int).toNat = l.length / 256 := by rw [T_size]; omega
  have e2 : ((T l).size % 256 : Int).toNat = l.length % 256 := by rw [T_size]; omega
  rw [e1, e2]; rfl

def hashOk (n : Nat) (w : Int) : Bool := decide (n = 0) || decide ((n : Int) = w)
set_option maxRecDepth 100000 in
set_option maxHeartbeats 400000 in
theorem hashOk_any (s : ByteArray) (k : Int) (w : World) (_hs : s.size ≤ 1048576) :
    Calls Tryz.prog 15 #[.string s, .int .i64 k] w fun e w' => e = .returned (.bool (hashOk s.size k)) ∧ w = w' := by
  by_cases h0 : s.size = 0
  · have c0 : ((s.size : Int) == 0) = true := by rw [h0]; rfl
    have HR : Hid (hashOk s.size k = true) := by show hashOk s.size k = true; unfold hashOk; simp [h0]
    clear h0
    go_enter Tryz.func15, Tryz.ntmps15
    go_wp2
    go_ret
    exact ⟨by rw [HR.out]; rfl, rfl⟩
  · have c0 : ((s.size : Int) == 0) = false := by rw [beq_eq_false_iff_ne]; omega
    have HR : Hid (hashOk s.size k = ((s.size : Int) == k)) := by
      show hashOk s.size k = ((s.size : Int) == k)
      unfold hashOk; rw [decide_eq_false h0, Bool.false_or, Bool.eq_iff_iff]; simp
    clear h0
    go_enter Tryz.func15, Tryz.ntmps15
    go_wp2
    go_ret
    exact ⟨by rw [HR.out]; rfl, rfl⟩

/-- Is the node valid for the width? -/
def nodeOk (k v l r : Nat) (w : Int) : Bool := decide (1 ≤ w ∧ w ≤ 32 ∧ 1 ≤ k ∧ k ≤ 256 ∧ v ≤ 2000) && (hashOk l w && hashOk r w)

set_option maxRecDepth 100000 in
set_option maxHeartbeats 400000 in
theorem nodeOk_any (k v l r : ByteArray) (n : Int) (w : World) (hk : k.size ≤ 1048576) (hv : v.size ≤ 1048576) (hl : l.size ≤ 1048576) (hr : r.size ≤ 1048576) :
    Calls Tryz.prog 59 #[.agg #[.string k, .string v, .string l, .string r], .int .i64 n] w fun e w' => e = .returned (.bool (nodeOk k.size v.size l.size r.size n)) ∧ Below w.heap.size w w' := by
  have hfin : Below w.heap.size w (w.alloc (.cells #[.string k, .string v, .string l, .string r] 59)) := (Below.refl _ _).alloc (Nat.le_refl _) _
  by_cases h1 : n < 1
  · have HR : Hid (nodeOk k.size v.size l.size r.size n = false) := by
      show nodeOk k.size v.size l.size r.size n = false
      unfold nodeOk; rw [decide_eq_false (by omega), Bool.false_and]
    have c1 : decide (1 ≤ n) = false := by simpa using h1
    go_enter Tryz.func59, Tryz.ntmps59
    go_wp2_with (first | (go_at_call 15; refine (hashOk_any _ _ _ (by assumption)).mono ?_; rintro e w' ⟨rfl, rfl⟩) | go_in)
    go_ret
    exact ⟨by rw [HR.out]; rfl, hfin⟩
  by_cases h2 : 32 < n
  · have HR : Hid (nodeOk k.size v.size l.size r.size n = false) := by
      show nodeOk k.size v.size l.size r.size n = false
      unfold nodeOk; rw [decide_eq_false (by omega), Bool.false_and]
    have c1 : decide (1 ≤ n) = true := by simp; omega
    have c2 : decide (n ≤ 32) = false := by simpa using h2
    go_enter Tryz.func59, Tryz.ntmps59
    go_wp2_with (first | (go_at_call 15; refine (hashOk_any _ _ _ (by assumption)).mono ?_; rintro e w' ⟨rfl, rfl⟩) | go_in)
    go_ret
    exact ⟨by rw [HR.out]; rfl, hfin⟩
  by_cases h3 : k.size < 1
  · have HR : Hid (nodeOk k.size v.size l.size r.size n = false) := by
      show nodeOk k.size v.size l.size r.size n = false
      unfold nodeOk; rw [decide_eq_false (by omega), Bool.false_and]
    have c1 : decide (1 ≤ n) = true := by simp; omega
    have c2 : decide (n ≤ 32) = true := by simp; omega
    have c3 : decide ((k.size : Int) < 1) = true := by simp; omega
    go_enter Tryz.func59, Tryz.ntmps59
    go_wp2_with (first | (go_at_call 15; refine (hashOk_any _ _ _ (by assumption)).mono ?_; rintro e w' ⟨rfl, rfl⟩) | go_in)
    go_ret
    exact ⟨by rw [HR.out]; rfl, hfin⟩
  by_cases h4 : 256 < k.size
  · have HR : Hid (nodeOk k.size v.size l.size r.size n = false) := by
      show nodeOk k.size v.size l.size r.size n = false
      unfold nodeOk; rw [decide_eq_false (by omega), Bool.false_and]
    have c1 : decide (1 ≤ n) = true := by simp; omega
    have c2 : decide (n ≤ 32) = true := by simp; omega
    have c3 : decide ((k.size : Int) < 1) = false := by simp; omega
    have c4 : decide ((256 : Int) < (k.size : Int)) = true := by simp; omega
    go_enter Tryz.func59, Tryz.ntmps59
    go_wp2_with (first | (go_at_call 15; refine (hashOk_any _ _ _ (by assumption)).mono ?_; rintro e w' ⟨rfl, rfl⟩) | go_in)
    go_ret
    exact ⟨by rw [HR.out]; rfl, hfin⟩
  by_cases h5 : 2000 < v.size
  · have HR : Hid (nodeOk k.size v.size l.size r.size n = false) := by
      show nodeOk k.size v.size l.size r.size n = false
      unfold nodeOk; rw [decide_eq_false (by omega), Bool.false_and]
    have c1 : decide (1 ≤ n) = true := by simp; omega
    have c2 : decide (n ≤ 32) = true := by simp; omega
    have c3 : decide ((k.size : Int) < 1) = false := by simp; omega
    have c4 : decide ((256 : Int) < (k.size : Int)) = false := by simp; omega
    have c5 : decide ((2000 : Int) < (v.size : Int)) = true := by simp; omega
    go_enter Tryz.func59, Tryz.ntmps59
    go_wp2_with (first | (go_at_call 15; refine (hashOk_any _ _ _ (by assumption)).mono ?_; rintro e w' ⟨rfl, rfl⟩) | go_in)
    go_ret
    exact ⟨by rw [HR.out]; rfl, hfin⟩
  by_cases h6 : hashOk l.size n = false
  · have HR : Hid (nodeOk k.size v.size l.size r.size n = false) := by
      show nodeOk k.size v.size l.size r.size n = false
      unfold nodeOk; rw [decide_eq_true (by omega), Bool.true_and, h6, Bool.false_and]
    have c1 : decide (1 ≤ n) = true := by simp; omega
    have c2 : decide (n ≤ 32) = true := by simp; omega
    have c3 : decide ((k.size : Int) < 1) = false := by simp; omega
    have c4 : decide ((256 : Int) < (k.size : Int)) = false := by simp; omega
    have c5 : decide ((2000 : Int) < (v.size : Int)) = false := by simp; omega
    go_enter Tryz.func59, Tryz.ntmps59
    go_wp2_with (first | (go_at_call 15; refine (hashOk_any _ _ _ (by assumption)).mono ?_; rintro e w' ⟨rfl, rfl⟩) | go_in)
    go_ret
    exact ⟨by rw [HR.out]; rfl, hfin⟩
  have h6' : hashOk l.size n = true := by simpa using h6
  clear h6
  have HR : Hid (nodeOk k.size v.size l.size r.size n = hashOk r.size n) := by
    show nodeOk k.size v.size l.size r.size n = hashOk r.size n
    unfold nodeOk; rw [decide_eq_true (by omega), Bool.true_and, h6', Bool.true_and]
  have c1 : decide (1 ≤ n) = true := by simp; omega
  have c2 : decide (n ≤ 32) = true := by simp; omega
  have c3 : decide ((k.size : Int) < 1) = false := by simp; omega
  have c4 : decide ((256 : Int) < (k.size : Int)) = false := by simp; omega
  have c5 : decide ((2000 : Int) < (v.size : Int)) = false := by simp; omega
  go_enter Tryz.func59, Tryz.ntmps59
  go_wp2_with (first | (go_at_call 15; refine (hashOk_any _ _ _ (by assumption)).mono ?_; rintro e w' ⟨rfl, rfl⟩) | go_in)
  go_ret
  exact ⟨by rw [HR.out]; rfl, hfin⟩
end Go.Proofs.YtdnbhejacpjgfaaGreatDoor
namespace Go.Proofs.YtdnbhejacpjgfaaGreatDoor
open Go.RowKit Go.Proofs.Sha

/-- What is left of a number, and its digits so far. -/
def leftK (k : Nat) : Nat → Nat
  | 0 => k
  | j + 1 => leftK k j / 10
def digs (k : Nat) : Nat → ByteArray
  | 0 => ⟨#[]⟩
  | j + 1 => ⟨#[UInt8.ofNat (48 + leftK k j % 10)]⟩ ++ digs k j
theorem digs_size (k j : Nat) : (digs k j).size = j := by
  induction j with
  | zero => rfl
  | succ j ih => rw [digs, ByteArray.size_append, ih]; show 1 + j = _; omega
theorem leftK_le (k j : Nat) (h : ∀ i, i < j → 0 < leftK k i) : leftK k j + j ≤ k := by
  induction j with
  | zero => exact Nat.le_refl _
  | succ j ih =>
    have h1 := ih (fun i hi => h i (by omega))
    have h2 := h j (by omega)
    rw [leftK]
    omega
theorem leftK_ends (k : Nat) : ∃ j, leftK k j = 0 ∧ ∀ i, i < j → 0 < leftK k i := by
  by_cases h : ∀ j, ∀ i, i < j → 0 < leftK k i
  · exfalso
    have := leftK_le k (k + 1) (h (k + 1))
    omega
  · obtain ⟨j, hj⟩ := Classical.not_forall.1 h
    clear h
    induction j with
    | zero => exact absurd (fun i hi => absurd hi (Nat.not_lt_zero i)) hj
    | succ j ih =>
      by_cases hs : ∀ i, i < j → 0 < leftK k i
      · refine ⟨j, ?_, hs⟩
        apply Nat.eq_zero_of_not_pos
        intro hp
        exact hj (fun i hi => by
          by_cases e : i = j
          · subst e; exact hp
          · exact hs i (by omega))
      · exact ih hs
set_option maxRecDepth 100000 in
set_option maxHeartbeats 400000 in
theorem markText_ex (k : Nat) (hk : 1 ≤ k) (hk2 : k ≤ 4000000) : ∃ X : ByteArray, ∀ w, Calls Tryz.prog 25 #[.int .i64 (k : Int)] w fun e w' => e = .returned (.string X) ∧ Below w.heap.size w w' := by
  obtain ⟨j0, hj0, hpos⟩ := leftK_ends k
  have hjb : j0 ≤ k := by have := leftK_le k j0 hpos; omega
  refine ⟨⟨#[109]⟩ ++ digs k j0, fun w => ?_⟩
  have z0 : decide ((k : Int) ≤ 0) = false := by rw [decide_eq_false_iff_not]; omega
  have z00 : decide (k = 0) = false := by rw [decide_eq_false_iff_not]; omega
  have z01 : ¬ k = 0 := by omega
  obtain ⟨Y, hY⟩ : ∃ Y, (⟨#[109]⟩ : ByteArray) ++ digs k j0 = Y := ⟨_, rfl⟩
  rw [hY]
  have HY : Hid ((⟨#[109]⟩ : ByteArray) ++ digs k j0 = Y) := hY
  clear hY
  go_enter Tryz.func25, Tryz.ntmps25
  go_wp2_with fail
  go_loopw [0, 3] (fun t0 t3 wr => ∃ j : Nat, j ≤ j0 ∧ t0 = .int .i64 (leftK k j : Int) ∧ t3 = .string (digs k j) ∧ Below w.heap.size w wr) (fun t0 _ _ => (intOf t0).toNat)
  case atStart => exact ⟨0, Nat.zero_le _, rfl, rfl, Below.refl _ _⟩
  case round =>
    obtain ⟨j, hj, rfl, rfl, hbw⟩ := hrel
    have hKb : leftK k j ≤ 4000000 := by have := leftK_le k j (fun i hi => hpos i (by omega)); omega
    have hsz := digs_size k j
    by_cases hlt : j < j0
    · have hp := hpos j hlt
      have hnx : Hid (leftK k (j + 1) = leftK k j / 10) := rfl
      have hdx : Hid (digs k (j + 1) = ⟨#[UInt8.ofNat (48 + leftK k j % 10)]⟩ ++ digs k j) := rfl
      generalize leftK k j = K at hp hKb hnx hdx ⊢
      generalize hD : digs k j = D at hsz hdx ⊢
      have z1 : decide ((K : Int) > 0) = true := by rw [decide_eq_true_eq]; omega
      have z2 : decide ((0 : Int) < (K : Int)) = true := by rw [decide_eq_true_eq]; omega
      have z3 : decide (0 < K) = true := by rw [decide_eq_true_eq]; omega
      obtain ⟨d, hd⟩ : ∃ d, 48 + K % 10 = d := ⟨_, rfl⟩
      have hrow : Row (wr.alloc (.cells #[.int .u8 (48 + (K : Int) % 10)] 5)) wr.heap.size wr.heap.size 1 1 ([UInt8.ofNat d].map B) := by
        have e : [UInt8.ofNat d].map B = [.int .u8 (48 + (K : Int) % 10)] := by
          show [B (UInt8.ofNat d)] = _
          unfold B
          have h8 : ((UInt8.ofNat d).toNat : Int) = 48 + (K : Int) % 10 := by
            rw [UInt8.toNat_ofNat']; omega
          rw [h8]
        rw [e]
        exact Row.of_block (Nat.le_refl _) (heap_alloc_new wr (.cells #[.int .u8 (48 + (K : Int) % 10)] 5)) 1 (by simp) (.inl rfl)
      have hbn : Below w.heap.size w (wr.alloc (.cells #[.int .u8 (48 + (K : Int) % 10)] 5)) := hbw.alloc hbw.size _
      rw [hd] at hdx
      have z4 : ¬ (9223372036854775807 < (⟨[UInt8.ofNat d].toArray⟩ : ByteArray).size + D.size) := by show ¬ _ < 1 + _; omega
      have z5 : ¬ (9223372036854775807 < 1 + D.size) := by omega
      have z6 : ¬ (9223372036854775807 < (⟨#[UInt8.ofNat d]⟩ : ByteArray).size + D.size) := by show ¬ _ < 1 + _; omega
      clear hd hpos
      go_upto_region 5 with fail
      go_wp2_with (first | (refine wpList_string_row _ rfl (.tmp 12) 80 9 5 rfl wr.heap.size wr.heap.size 1 1 [UInt8.ofNat d] rfl hrow Tryz.underlying80 Tryz.underlying5 Tryz.underlying9 ?_))
      go_roundw
      case rel => exact ⟨j + 1, hlt, by rw [hnx.out]; rfl, by rw [hdx.out], hbn⟩
      case measure => simp [intOf]; omega
    · obtain rfl : j = j0 := by omega
      rw [hj0]
      have z4 : ¬ (9223372036854775807 < (⟨#[109]⟩ : ByteArray).size + (digs k j).size) := by show ¬ _ < 1 + _; omega
      have z5 : ¬ (9223372036854775807 < 1 + (digs k j).size) := by omega
      go_wp2_with fail
      go_ret
      exact ⟨by rw [← HY.out]; rfl, hbw⟩
end Go.Proofs.YtdnbhejacpjgfaaGreatDoor
