import Derived.Test.YtibjhkpgaaapaaaGreatDoorZgbs
import Derived.Test.YtibjhkpgaaapaaaGreatDoorZgbq
import Derived.Test.YtibjhkpgaaapaaaGreatDoorZgbr
import Derived.Test.YtibjhkpgaaapaaaGreatDoorZgbp
set_option maxRecDepth 100000
set_option maxHeartbeats 4000000
namespace Go.Proofs.YtibjhkpgaaapaaaGreatDoor
open Go.RowKit Go.Proofs.Sha

/-- Pairs that are short. -/
structure SmR (ps : List PairT) (n : Nat) : Prop where
  len : ps.length ≤ n
  sz : ∀ q ∈ ps, q.1.size ≤ 70 ∧ q.2.size ≤ 300
theorem SmR.drop {ps : List PairT} {n : Nat} (h : SmR ps n) (j : Nat) : SmR (ps.drop j) n := ⟨by have := h.len; rw [List.length_drop]; omega, fun q hq => h.sz q (List.mem_of_mem_drop hq)⟩
/-- What the draw of a proof gives. -/
def DpG (w : World) (e : Ending) (w' : World) : Prop := ∃ (wd : Nat) (root lo hi proof : ByteArray) (ps : List PairT) (a' : Option Addr) (c' y : Nat),
  e = .returned (.tuple #[.int .i64 (wd : Int), .string root, .string lo, .string hi, .string proof, .slice a' ps.length c', .int .i64 (y : Int)]) ∧ (1 ≤ wd ∧ wd ≤ 32) ∧ root.size ≤ 32 ∧ lo.size ≤ 80 ∧ hi.size ≤ 80 ∧ proof.size ≤ 33640 ∧ SmR ps 14 ∧ PArg a' ps w' ∧ ps.length ≤ c' ∧ y ≤ 1000 ∧ Below w.heap.size w w'
theorem saveO_nil (wd : Nat) (h1 : 1 ≤ wd) (h2 : wd ≤ 32) : (saveO (wd : Int) [] []).cd = 0 := by
  unfold saveO
  have hp : poolOk (wd : Int) ([] : List ByteArray).length = true := decide_eq_true ⟨by omega, by omega, by decide⟩
  have hm : isMapT [] = true := by decide
  rw [hp, hm, Bool.and_self, if_pos rfl, Int.toNat_natCast]
  have hc : cutTree [] = .nil := by rw [cutTree, dif_neg (by decide)]
  rw [hc]
  rfl
/-- The block of a saving, in a world. -/
structure SvB (gs : Nat) (o : SvO) (a : Option Addr) (c : Nat) (W : World) : Prop where
  nb : W.heap[gs]? = some (.cells #[.int .i64 o.cd, .int .i64 o.n, .slice a o.xs.length c, .string o.root, .string o.x, .string o.y] 56)
  sa : SArg a o.xs W
theorem OwnT.far {w W : World} {xs : List ByteArray} {a : Option Addr} {m c : Nat} (h : OwnT w xs a m c W) : ∀ b off, a = some (⟨b, off, none⟩ : Addr) → 0 < xs.length → w.heap.size ≤ b := fun b off e h0 => by
  have hl := h.len
  rcases h.own.2 with ⟨e1, h1⟩ | ⟨g, cap', cur, e1, hb, _⟩
  · omega
  · simp only [Value.slice.injEq] at e1
    obtain ⟨rfl, _, _⟩ := e1
    cases e
    exact hb
theorem dproof_any (a : Option Addr) (xs : List Nat) (cap p : Nat) (hX : Code8 xs) (hp : p ≤ 100) (w : World) (hB : BL a xs w) (HDg : Hid DigSaid) : Calls Tryz.prog 59 #[.slice a xs.length cap, .int .i64 (p : Int)] w (DpG w) := by
  obtain ⟨wd, hwd, HWd'⟩ := width_det a xs cap p hX (by omega)
  obtain ⟨m, hm⟩ : ∃ m : Nat, (if 14 < 2 + xs.length / 8 then 14 else 2 + xs.length / 8) = m := ⟨_, rfl⟩
  have hm14 : m ≤ 14 := by rw [← hm]; split <;> omega
  have HC' := fun w' => count_any a xs.length cap 8 2 14 w' (by omega) hX.le (by omega) (by omega)
  rw [hm] at HC'
  obtain ⟨ps, hps, HM'⟩ := map_det a xs cap (p + 1) m hX (by omega) (by omega)
  obtain ⟨lo, hi, hlh, HBd'⟩ := bounds_det a xs cap (p + 1 + 3 * m) hX (by omega)
  have HWd0 : ∀ w', Below w.heap.size w w' → Calls Tryz.prog 73 #[.slice a xs.length cap, .int .i64 (p : Int)] w' fun e w'' => e = .returned (.tuple #[.int .i64 (wd : Int), .int .i64 ((p + 1 : Nat) : Int)]) ∧ Below w'.heap.size w' w'' := fun w' hb => HWd' w' (hB.below hb)
  have HC0 : ∀ w', Calls Tryz.prog 118 #[.slice a xs.length cap, .int .i64 8, .int .i64 2, .int .i64 14] w' fun e w'' => e = .returned (.int .i64 (m : Int)) ∧ w'' = w' := HC'
  have HM0 : ∀ w', Below w.heap.size w w' → Calls Tryz.prog 117 #[.slice a xs.length cap, .int .i64 ((p + 1 : Nat) : Int), .int .i64 (m : Int)] w' fun e w'' => ∃ a' c', e = .returned (.tuple #[.slice a' ps.length c', .int .i64 ((p + 1 + 3 * m : Nat) : Int)]) ∧ OwnP w' ps a' ps.length c' w'' := fun w' hb => HM' w' (hB.below hb)
  have HBd0 : ∀ w', Below w.heap.size w w' → Calls Tryz.prog 77 #[.slice a xs.length cap, .int .i64 ((p + 1 + 3 * m : Nat) : Int)] w' fun e w'' => e = .returned (.tuple #[.string lo, .string hi, .int .i64 ((p + 1 + 3 * m + 1 + 1 + 1 : Nat) : Int)]) ∧ Below w'.heap.size w' w'' := fun w' hb => HBd' w' (hB.below hb)
  have hsm : Hid (SmallP ps) := hps.small (by omega)
  have hR : SmR ps 14 := ⟨Nat.le_trans hps.len hm14, hps.sz⟩
  obtain ⟨sv, hsv⟩ : ∃ sv : List PairT → SvO, ∀ qs, saveO (wd : Int) [] qs = sv qs := ⟨_, fun _ => rfl⟩
  have HS : Hid (∀ a1 c1 (qs : List PairT) w', PArg a1 qs w' → qs.length ≤ c1 → Calls Tryz.prog 33 #[.agg #[.int .i64 (wd : Int), .slice none 0 0], .slice a1 qs.length c1] w' (SavedIs (sv qs) w')) := fun a1 c1 qs w' h2 hc => by
    rw [← hsv]
    exact ssave_any HDg (wd : Int) none [] 0 a1 qs c1 w' ⟨Nat.zero_le _, fun j => Nat.zero_le _, fun q => absurd q (Nat.lt_irrefl _)⟩ (fun j => Nat.zero_le _) h2 hc
  have HF : Hid (∀ qs : List PairT, qs.length ≤ 14 → SmT (sv qs).xs 100 10000 ∧ (sv qs).root.size ≤ 32) := fun qs hq => by
    rw [← hsv]
    have := draw_facts wd hwd.1 hwd.2 qs (by omega)
    exact ⟨this.1, this.2.1⟩
  have HN : Hid ((sv []).cd = 0) := by
    show _ = _
    rw [← hsv]
    exact saveO_nil wd hwd.1 hwd.2
  have HP : Hid (∀ (qs : List PairT), qs.length ≤ 14 → ∃ pf : ByteArray, pf.size ≤ 33640 ∧ ∃ q : Int, ∀ a1 c1 w', SArg a1 (sv qs).xs w' → Calls Tryz.prog 12 #[.agg #[.int .i64 (sv qs).n, .slice a1 (sv qs).xs.length c1], .string (sv qs).root, .string lo, .string hi] w' fun e w'' => e = .returned (.tuple #[.string pf, .int .i64 q]) ∧ Below w'.heap.size w' w'') := fun qs hq => by
    rw [← hsv]
    obtain ⟨f1, f2, f3⟩ := draw_facts wd hwd.1 hwd.2 qs (by omega)
    obtain ⟨D, d1, _, d3, d4⟩ := dec_all (saveO (wd : Int) [] qs).n
    refine ⟨_, ?_, _, fun a1 c1 w' hs => sprove_any HDg D _ d3 d1 a1 _ c1 _ lo hi w' hs (fun j => by have := f1.getD j; omega) (by omega) (by omega) (by omega)⟩
    have := f3 D d1 d4 lo hi
    omega
  obtain ⟨L, hL⟩ : ∃ L, xs.length = L := ⟨_, rfl⟩
  obtain ⟨q1, hq1⟩ : ∃ q, p + 1 = q := ⟨_, rfl⟩
  rw [hq1] at HWd0 HM0 HBd0
  obtain ⟨q2, hq2⟩ : ∃ q, q1 + 3 * m = q := ⟨_, rfl⟩
  rw [hq2] at HM0 HBd0
  obtain ⟨q3, hq3⟩ : ∃ q, q2 + 1 + 1 + 1 = q := ⟨_, rfl⟩
  rw [hq3] at HBd0
  have hy : q3 ≤ 1000 := by omega
  rw [hL] at HWd0 HM0 HBd0 HC0 ⊢
  have HWd : Hid _ := HWd0
  have HM : Hid _ := HM0
  have HBd : Hid _ := HBd0
  have HC : Hid _ := HC0
  clear HWd' HC' HM' HBd' HWd0 HM0 HBd0 HC0 hps HDg hm hsv hB hX hq1 hq2 hq3 hp hL hm14
  have hw32 : wd ≤ 32 := hwd.2
  go_enter Tryz.func59, Tryz.ntmps59
  go_upto_region 2 with (first | (go_at_call 73; refine (HWd.out _ (Below.refl _ _)).mono ?_; rintro e w1 ⟨rfl, hb1⟩))
  go_upto_region 3 with (first | (go_at_call 118; refine (HC.out _).mono ?_; rintro e w1' ⟨rfl, rfl⟩) | (go_at_call 117; refine (HM.out _ hb1).mono ?_; rintro e w2 ⟨a1, c1, rfl, hO1⟩))
  have hP1 := ownp_parg hO1 hsm.out
  have hc1 := own2_le hO1.own
  have hb2 := hb1.trans (hO1.bel.mono hb1.size)
  clear hO1 HWd HC HM
  go_upto_region 4 with (first | (go_at_call 77; refine (HBd.out _ hb2).mono ?_; rintro e w3 ⟨rfl, hb3'⟩))
  have hP3 := hP1.below hb3'
  have hb3 := hb2.trans (hb3'.mono hb2.size)
  clear hP1 hb3' hb2 hb1 HBd
  have HF0 := HF.out ps hR.len
  have HS0 := fun (_ : Unit) => HS.out a1 c1 ps w3 hP3 hc1
  unfold SavedIs at HS0
  obtain ⟨o, ho⟩ : ∃ o, sv ps = o := ⟨_, rfl⟩
  rw [ho] at HF0 HS0
  replace HS0 : Hid _ := HS0
  have ho : Hid (sv ps = o) := ho
  unfold svV at HS0
  obtain ⟨cd, n, ys, root, x, y⟩ := o
  simp only at HF0 HS0
  obtain ⟨N, hN⟩ : ∃ N, ys.length = N := ⟨_, rfl⟩
  rw [hN] at HS0
  obtain ⟨P, hPl⟩ : ∃ P, ps.length = P := ⟨_, rfl⟩
  rw [hPl] at HS0
  try rw [hPl]
  go_upto_region 5 with (first | (go_at_call 33; refine (HS0.out ()).mono ?_; rintro e w4 ⟨a2, c2, rfl, hO2⟩))
  have al : Below w4.heap.size w4 (w4.alloc (.cells #[.int .i64 cd, .int .i64 n, .slice a2 N c2, .string root, .string x, .string y] 56)) := (Below.refl _ _).alloc (Nat.le_refl _) _
  have nS := heap_alloc_new w4 (.cells #[.int .i64 cd, .int .i64 n, .slice a2 N c2, .string root, .string x, .string y] 56)
  have hb34 := hO2.bel.trans (al.mono hO2.bel.size)
  have hSB : SvB w4.heap.size (sv ps) a2 c2 (w4.alloc (.cells #[.int .i64 cd, .int .i64 n, .slice a2 N c2, .string root, .string x, .string y] 56)) := by
    rw [ho.out]
    refine ⟨by rw [← hN] at nS ⊢; exact nS, ?_⟩
    have h1 := hO2
    rw [← hN] at h1
    have hs := HF0.1
    exact (h1.sarg hs (by omega) (by omega)).below al
  have hP4 := hP3.below hb34
  have hb4 := hb3.trans (hb34.mono hb3.size)
  have hgs : w3.heap.size ≤ w4.heap.size := hO2.bel.size
  have hgs0 : w.heap.size ≤ w4.heap.size := Nat.le_trans hb3.size hgs
  have hbg : 0 < ps.length → ∃ b off, a1 = some (⟨b, off, none⟩ : Addr) ∧ b < w4.heap.size := fun h0 => by
    obtain ⟨b, off, e, hb, _⟩ := hP3.at_ h0
    exact ⟨b, off, e, Nat.lt_of_lt_of_le hb hgs⟩
  generalize w4.alloc (.cells #[.int .i64 cd, .int .i64 n, .slice a2 N c2, .string root, .string x, .string y] 56) = w5 at hSB hP4 hb4 ⊢
  obtain ⟨gs, hgs'⟩ : ∃ g, w4.heap.size = g := ⟨_, rfl⟩
  rw [hgs'] at hSB hbg hgs0
  try rw [hgs']
  clear hgs' hgs al nS hO2 hb34 HF0 HS0 hN hP3 hb3 ho
  have hsl : ps.length = P := hPl
  replace hbg : Hid _ := hbg
  replace hPl : Hid _ := hPl
  have hPle : P ≤ 14 := by have := hR.len; omega
  clear hsl
  go_upto_region 6 with fail
  go_loopw [13, 19] (fun t13 t19 wr => ∃ (j : Nat) (a1 : Option Addr) (c1 : Nat) (qs : List PairT), t13 = .slice a1 qs.length c1 ∧ t19 = .int .i64 ((wd + j : Nat) : Int) ∧ j + qs.length = P ∧ SmR qs 14 ∧ PArg a1 qs wr ∧ qs.length ≤ c1 ∧ (0 < qs.length → ∃ b off, a1 = some (⟨b, off, none⟩ : Addr) ∧ b < gs) ∧ (∃ a c, SvB gs (sv qs) a c wr) ∧ Below w.heap.size w wr) (fun _ t19 _ => wd + P - (intOf t19).toNat)
  case atStart => exact ⟨0, a1, c1, ps, by rw [hPl.out], rfl, by rw [hPl.out]; omega, hR, hP4, hc1, hbg.out, ⟨a2, c2, hSB⟩, hb4⟩
  case round =>
    clear hSB hP4 hb4 hbg hc1 hR hsm hPl
    obtain ⟨j, a1, c1, qs, rfl, rfl, hjl, hR, hPa, hc1, hbg, ⟨a2, c2, hSB⟩, hbw⟩ := hrel
    have hF := HF.out qs hR.len
    by_cases hcd : (sv qs).cd = 0
    · obtain ⟨pf, hpf, q, HPq⟩ := HP.out qs hR.len
      have nb := hSB.nb
      have hsa := hSB.sa
      clear hSB
      obtain ⟨o, ho⟩ : ∃ o, sv qs = o := ⟨_, rfl⟩
      rw [ho] at hF hcd HPq nb hsa
      obtain ⟨cd, n, ys, root, x, y⟩ := o
      simp only at hF hcd HPq nb hsa
      subst hcd
      obtain ⟨N, hN⟩ : ∃ N, ys.length = N := ⟨_, rfl⟩
      rw [hN] at HPq nb
      obtain ⟨Q, hQ⟩ : ∃ Q, qs.length = Q := ⟨_, rfl⟩
      try rw [hQ]
      have HP1 := fun w' (hb : Below wr.heap.size wr w') => HPq a2 c2 w' (hsa.below hb)
      have HP2 : Hid _ := HP1
      have HE : Hid (∀ W, Below w.heap.size w W → Below wr.heap.size wr W → DpG w (.returned (.tuple #[.int .i64 (wd : Int), .string root, .string lo, .string hi, .string pf, .slice a1 Q c1, .int .i64 (q3 : Int)])) W) := fun W hb hb' => ⟨wd, root, lo, hi, pf, qs, a1, c1, q3, by rw [hQ], hwd, hF.2, hlh.1, hlh.2, hpf, hR, hPa.below hb', hc1, hy, hb⟩
      clear HPq HP1 HP HF HS HN hF hPa hR hc1 hbg ho hsa
      have s0 := Lib.cell_of_heap nb 0
      have s1 := Lib.cell_of_heap nb 1
      have s2 := Lib.cell_of_heap nb 2
      have s3 := Lib.cell_of_heap nb 3
      go_upto_region 11 with (first | (go_at_call 12; refine (HP2.out _ (Below.refl _ _)).mono ?_; rintro e w6 ⟨rfl, hb6⟩))
      have nb6 := below_cells hb6 nb
      have t3 := Lib.cell_of_heap nb6 3
      have hb7 := hbw.trans (hb6.mono hbw.size)
      clear s0 s1 s2 s3
      go_region
      have hdr : ∀ k, Below w6.heap.size w6 (w6.drewN k) := fun k => draws_below k (Below.refl _ _)
      go_wp2_with fail
      exact bodyPost_ret (v := .tuple #[.int .i64 (wd : Int), .string root, .string lo, .string hi, .string pf, .slice a1 Q c1, .int .i64 (q3 : Int)]) (by simp [results, Tryz.results59, go_sem]) rfl (HE.out _ (hb7.trans ((hdr _).mono hb7.size)) (hb6.trans ((hdr _).mono hb6.size)))
    · have hq0 : 0 < qs.length := by
        rcases Nat.eq_zero_or_pos qs.length with h0 | h0
        · obtain rfl := List.length_eq_zero_iff.1 h0
          exact absurd HN.out hcd
        · exact h0
      obtain ⟨b, off, rfl, hblt⟩ := hbg hq0
      obtain ⟨x0, qs', rfl⟩ : ∃ x0 qs', qs = x0 :: qs' := by cases qs with
        | nil => cases hq0
        | cons x0 qs' => exact ⟨x0, qs', rfl⟩
      have hPd := hPa.drop 1
      have hRd := hR.drop 1
      simp only [List.drop_succ_cons, List.drop_zero] at hPd hRd
      have nb := hSB.nb
      clear hSB
      generalize sv (x0 :: qs') = o at hcd hF nb
      obtain ⟨cd, n, ys, root, x, y⟩ := o
      simp only at hcd hF nb
      have hF' := HF.out qs' hRd.len
      rw [List.length_cons] at hjl hc1 hq0 ⊢
      obtain ⟨Q, hQ⟩ : ∃ Q, qs'.length = Q := ⟨_, rfl⟩
      rw [hQ] at hjl hc1 hq0 ⊢
      obtain ⟨A, hA⟩ : ∃ A : Option Addr, (if c1 = 1 then some (⟨b, off, none⟩ : Addr) else some ⟨b, off + 1 * 2, none⟩) = A := ⟨_, rfl⟩
      have hPA : PArg A qs' wr := by
        rw [← hA]
        by_cases e : c1 = 1
        · rw [if_pos e]
          have : qs' = [] := List.length_eq_zero_iff.1 (by omega)
          rw [this]; exact PArg.empty _ _
        · rw [if_neg e]; exact hPd
      have hAb : 0 < qs'.length → ∃ b off, A = some (⟨b, off, none⟩ : Addr) ∧ b < gs := fun _ => by
        rw [← hA]
        split
        · exact ⟨b, off, rfl, hblt⟩
        · exact ⟨b, _, rfl, hblt⟩
      have HS0 := fun (_ : Unit) => HS.out A (c1 - 1) qs' wr hPA (by omega)
      unfold SavedIs at HS0
      obtain ⟨o', ho'⟩ : ∃ o', sv qs' = o' := ⟨_, rfl⟩
      rw [ho'] at hF' HS0
      have ho' : Hid (sv qs' = o') := ho'
      replace HS0 : Hid _ := HS0
      unfold svV at HS0
      obtain ⟨cd', n', ys', root', x', y'⟩ := o'
      simp only at hF' HS0
      obtain ⟨N', hN'⟩ : ∃ N, ys'.length = N := ⟨_, rfl⟩
      rw [hN', hQ] at HS0
      have hcd1 : (cd == 0) = false := by rw [beq_eq_false_iff_ne]; exact hcd
      have hcd2 : (cd != 0) = true := by rw [bne_iff_ne]; exact hcd
      have hq1 : decide ((0 : Int) < ((Q + 1 : Nat) : Int)) = true := by apply decide_eq_true; omega
      have hq2 : decide ((0 : Int) < (Q : Int) + 1) = true := by apply decide_eq_true; omega
      have z1 : (1 : Int) ≤ (Q : Int) + 1 := by omega
      have z2 : (Q : Int) + 1 ≤ (c1 : Int) := by omega
      have s0 := Lib.cell_of_heap nb 0
      clear HP HF hF hR HN hPa hPd
      go_upto_region 9 with fail
      have hglt : gs < wr.heap.size := (Array.getElem?_eq_some_iff.1 nb).1
      go_wp2_with (first | (go_at_call 33; refine (HS0.out ()).mono ?_; rintro e w7 ⟨a7, c7, rfl, hO7⟩; have nb7 := below_cells hO7.bel nb; have d0 := Lib.cell_of_heap nb7 0; have d1 := Lib.cell_of_heap nb7 1; have d2 := Lib.cell_of_heap nb7 2; have d3 := Lib.cell_of_heap nb7 3; have d4 := Lib.cell_of_heap nb7 4; have d5 := Lib.cell_of_heap nb7 5; have rf : ∀ j, w7.frozen? ⟨gs, j, none⟩ = false := (fun j => (by rw [World.frozen?, nb7]; rfl))))
      have m0 := heap_setCell_same w7 gs 0 _ 56 (.int .i64 cd') nb7
      have m1 := heap_setCell_same _ gs 1 _ 56 (.int .i64 n') m0
      have m2 := heap_setCell_same _ gs 2 _ 56 (.slice a7 N' c7) m1
      have m3 := heap_setCell_same _ gs 3 _ 56 (.string root') m2
      have m4 := heap_setCell_same _ gs 4 _ 56 (.string x') m3
      have m5 := heap_setCell_same _ gs 5 _ 56 (.string y') m4
      have g5 := grownBy_trans (grownBy_trans (grownBy_trans (grownBy_trans (grownBy_trans (grownBy_setCell w7 gs 0 (.int .i64 cd')) (grownBy_setCell _ gs 1 (.int .i64 n'))) (grownBy_setCell _ gs 2 (.slice a7 N' c7))) (grownBy_setCell _ gs 3 (.string root'))) (grownBy_setCell _ gs 4 (.string x'))) (grownBy_setCell _ gs 5 (.string y'))
      have hb8 := hbw.trans ((hO7.bel.mono hbw.size).trans (below_of_grown g5 hgs0 (Nat.le_trans hbw.size hO7.bel.size)))
      clear m0 m1 m2 m3 m4
      generalize (((((w7.setCell ⟨gs, 0, none⟩ (.int .i64 cd')).setCell ⟨gs, 1, none⟩ (.int .i64 n')).setCell ⟨gs, 2, none⟩ (.slice a7 N' c7)).setCell ⟨gs, 3, none⟩ (.string root')).setCell ⟨gs, 4, none⟩ (.string x')).setCell ⟨gs, 5, none⟩ (.string y') = W8 at m5 g5 hb8 ⊢
      have hP8 := (hPA.below hO7.bel).grown g5 (fun b' off' e h0 => by
        obtain ⟨b2, off2, e2, hlt⟩ := hAb h0
        rw [e] at e2
        cases e2
        intro q
        have := Option.some.inj q
        omega)
      have hS8 : SArg a7 ys' W8 := by
        have h1 := hO7
        rw [← hN'] at h1
        have hs := hF'.1
        refine (h1.sarg hs (by omega) (by omega)).grown g5 (fun b' off' e h0 => ?_)
        have := h1.far b' off' e h0
        intro q
        have := Option.some.inj q
        omega
      refine ⟨⟨j + 1, A, c1 - 1, qs', by rw [hQ], (by congr 1 <;> omega), by omega, hRd, hP8, by omega, hAb, ⟨a7, c7, ?_, ?_⟩, hb8⟩, by simp only [intOf]; omega⟩
      · rw [ho'.out, hN']; exact m5
      · rw [ho'.out]; exact hS8
theorem set4_below {B gn : Nat} {a W : World} (h : Below B a W) (hg : B ≤ gn) (u0 u1 u2 u3 : Value) : Below B a ((((W.setCell ⟨gn, 0, none⟩ u0).setCell ⟨gn, 1, none⟩ u1).setCell ⟨gn, 2, none⟩ u2).setCell ⟨gn, 3, none⟩ u3) :=
  (((h.setCell (p := ⟨gn, 0, none⟩) hg _).setCell (p := ⟨gn, 1, none⟩) hg _).setCell (p := ⟨gn, 2, none⟩) hg _).setCell (p := ⟨gn, 3, none⟩) hg _
end Go.Proofs.YtibjhkpgaaapaaaGreatDoor
