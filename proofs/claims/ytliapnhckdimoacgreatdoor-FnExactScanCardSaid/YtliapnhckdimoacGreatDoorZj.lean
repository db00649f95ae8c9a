import Derived.Test.YtliapnhckdimoacGreatDoorZi
namespace Go.Proofs.YtliapnhckdimoacGreatDoor
open Go.RowKit Go.Proofs.Sha

def hashesOf (wd : Nat) (st : SS) : List ByteArray := (st.nodes ++ st.aside).map (hashT wd)
theorem step_out {R : Nat → RecT} {wd size : Nat} {st : SS} (hR : ∀ n, RecOk size n (R n)) (h : size ≤ 64 * st.sec) : stepS R wd st = none := by
  unfold stepS
  rcases hR st.sec with h0 | ⟨_, _, q1, q2⟩ | ⟨_, _, q1, q2⟩
  · rw [if_neg (by omega), if_neg (by omega)]
  · omega
  · omega
theorem has_hit (wd : Nat) (st : SS) (root : ByteArray) : hasT (hashesOf wd st) root = anyHit wd (st.nodes ++ st.aside) root := by
  unfold hasT hashesOf anyHit
  rw [List.any_map]
  congr 1
  funext e
  show decide (hashT wd e = root) = decide ((sha (78 :: e.data.toList)).take wd = root.data.toList)
  rw [decide_eq_decide]
  unfold hashT
  constructor
  · intro h; rw [← h]
  · intro h; cases root; simp at h ⊢; rw [h]
set_option maxRecDepth 100000 in
set_option maxHeartbeats 8000000 in
theorem scan_spec (s : ByteArray) (hs : s.size ≤ 1048576) (wd : Nat) (h1 : 1 ≤ wd) (h2 : wd ≤ 32) (R : Nat → RecT) (hR : Hid (∀ n, RecOk s.size n (R n))) (HRs : Hid (ReadSaid 10 s R)) (HD : Hid DigSaid) (w : World) :
    Calls Tryz.prog 4 #[.string s, .int .i64 (wd : Int)] w (ScanPost R wd w) := by
  have z0 : decide ((s.size : Int) > 1048576) = false := by rw [decide_eq_false_iff_not]; omega
  have z1 : decide ((1048576 : Int) < (s.size : Int)) = false := by rw [decide_eq_false_iff_not]; omega
  have HW : Hid (∀ w', Calls Tryz.prog 9 #[.int .i64 (wd : Int)] w' fun e w'' => e = .returned (.bool true) ∧ w' = w'') := fun w' => l1w_b (wd : Int) true (by rw [decide_eq_true (by omega)]) w'
  obtain ⟨gz, hgz⟩ : ∃ gz, w.heap.size = gz := ⟨_, rfl⟩
  obtain ⟨wS, hwS⟩ : ∃ wS, (((w.alloc (.cells #[.slice none 0 0, .slice none 0 0, .int .i64 0] 24)).alloc (.cells #[.slice none 0 0, .slice none 0 0, .int .i64 0] 24)).alloc (.cells #[] 9)).alloc (.cells #[] 9) = wS := ⟨_, rfl⟩
  have hS0 : SpecAt (gz + 1) gz (gz + 2) st0.nodes st0.roots st0.aside (hashesOf wd st0) st0.fin none 0 none 0 (some ⟨gz + 2, 0, none⟩) 0 (some ⟨gz + 3, 0, none⟩) 0 w wS := by
    obtain ⟨wa, hwa⟩ : ∃ wa, (w.alloc (.cells #[.slice none 0 0, .slice none 0 0, .int .i64 0] 24)).alloc (.cells #[.slice none 0 0, .slice none 0 0, .int .i64 0] 24) = wa := ⟨_, rfl⟩
    have hza : wa.heap.size = gz + 2 := by rw [← hwa]; simp; omega
    have n1 : wa.heap[gz]? = some (.cells #[.slice none 0 0, .slice none 0 0, .int .i64 0] 24) := by
      rw [← hwa, ← hgz]; exact (Below.heap_alloc _ _ _ (by simp)).trans (heap_alloc_new w _)
    have n2 : wa.heap[gz + 1]? = some (.cells #[.slice none 0 0, .slice none 0 0, .int .i64 0] 24) := by
      rw [← hwa, ← hgz]
      have := heap_alloc_new (w.alloc (.cells #[.slice none 0 0, .slice none 0 0, .int .i64 0] 24)) (.cells #[.slice none 0 0, .slice none 0 0, .int .i64 0] 24)
      rwa [World.size_alloc] at this
    have hba : Below w.heap.size w wa := by rw [← hwa]; exact ((Below.refl _ _).alloc (Nat.le_refl _) _).alloc (by simp) _
    have hbb : Below wa.heap.size wa ((wa.alloc (.cells #[] 9)).alloc (.cells #[] 9)) := ((Below.refl _ _).alloc (Nat.le_refl _) _).alloc (by simp) _
    have oa : ((wa.alloc (.cells #[] 9)).alloc (.cells #[] 9)).ownsRow (gz + 2) 9 1 (.slice (some ⟨gz + 2, 0, none⟩) 0 0) 0 [] := by
      have := World.ownsRow_lit (base := gz + 2) (e := 9) (size := 1) wa #[] 0 (by omega) (Nat.zero_le _) rfl
      rw [hza] at this
      exact this.alloc _
    have ob : ((wa.alloc (.cells #[] 9)).alloc (.cells #[] 9)).ownsRow (gz + 2) 9 1 (.slice (some ⟨gz + 3, 0, none⟩) 0 0) 0 [] := by
      have := World.ownsRow_lit (base := gz + 2) (e := 9) (size := 1) (wa.alloc (.cells #[] 9)) #[] 0 (by simp; omega) (Nat.zero_le _) rfl
      rw [World.size_alloc, hza] at this
      exact this
    rw [← hwS, hwa]
    refine ⟨(hbb.block _ (by omega)).trans n2, (hbb.block _ (by omega)).trans n1, ⟨fun i hi => ?_, fun i j hi hj hij g hg => ?_⟩, by omega, by omega, by omega, by simp; omega, by omega, hba.trans (hbb.mono hba.size)⟩
    · match i, hi with
      | 0, _ => exact World.ownsRow_nil _ _ _ _
      | 1, _ => exact World.ownsRow_nil _ _ _ _
      | 2, _ => exact oa
      | 3, _ => exact ob
    · match i, j, hi, hj, hij with
      | 0, _, _, _, _ => cases hg
      | 1, _, _, _, _ => cases hg
      | 2, 0, _, _, _ => intro e; cases e
      | 2, 1, _, _, _ => intro e; cases e
      | 2, 3, _, _, _ => intro e; have h3 : gz + 3 = g := Option.some.inj e; have h4 : gz + 2 = g := Option.some.inj hg; omega
      | 3, 0, _, _, _ => intro e; cases e
      | 3, 1, _, _, _ => intro e; cases e
      | 3, 2, _, _, _ => intro e; have h3 : gz + 2 = g := Option.some.inj e; have h4 : gz + 3 = g := Option.some.inj hg; omega
      | 2, 2, _, _, h => exact absurd rfl h
      | 3, 3, _, _, h => exact absurd rfl h
  replace hS0 : Hid _ := hS0
  go_enter Tryz.func4, Tryz.ntmps4
  go_wp2_with (first | (go_at_call 9; refine (HW.out _).mono ?_; rintro e w1 ⟨rfl, rfl⟩))
  go_loopw [6, 7, 8] (fun t6 t7 t8 wr => ∃ st aN cN aR cR aA cA aH cH, t6 = .slice aA st.aside.length cA ∧ t7 = .slice aH (hashesOf wd st).length cH ∧ t8 = .int .i64 (st.sec : Int) ∧ Hid (Reach R wd st) ∧ SpecAt (gz + 1) gz (gz + 2) st.nodes st.roots st.aside (hashesOf wd st) st.fin aN cN aR cR aA cA aH cH w wr) (fun _ _ t8 _ => 20000 - (intOf t8).toNat)
  case atStart => exact ⟨st0, none, 0, none, 0, some ⟨gz + 2, 0, none⟩, 0, some ⟨gz + 3, 0, none⟩, 0, rfl, rfl, rfl, Reach.zero, hS0.out⟩
  case round =>
    clear hS0 hwS HW
    obtain ⟨st, aN, cN, aR, cR, aA, cA, aH, cH, rfl, rfl, rfl, hre, hS⟩ := hrel
    have hI := hre.out.inv hR.out
    have hsec := hI.sec
    obtain ⟨p, hp⟩ : ∃ p : Int, (st.sec : Int) * 64 = p := ⟨_, rfl⟩
    have hq : -9223372036854775808 ≤ p ∧ p ≤ 9223372036854775807 := by omega
    have y1 : wrap64 ((st.sec : Int) * 64) = p := by rw [hp]; exact wr_in _ hq
    have y2 : IntKind.i64.wrap ((st.sec : Int) * 64) = p := by rw [hp]; exact wrapI_in p hq
    by_cases hlt : 64 * st.sec < s.size
    · have z3 : decide (p < (s.size : Int)) = true := by rw [decide_eq_true_eq]; omega
      replace hp : Hid _ := hp
      clear hq
      have HRn : Hid (∀ w', Calls Tryz.prog 10 #[.string s, .int .i64 (st.sec : Int)] w' fun e w'' => e = .returned (recT (R st.sec)) ∧ Below w'.heap.size w' w'') := fun w' => HRs.out st.sec w'
      obtain ⟨x, hx⟩ : ∃ x, R st.sec = x := ⟨_, rfl⟩
      rw [hx] at HRn
      have hok := hR.out st.sec
      rw [hx] at hok
      go_upto_region 9 with (first | (go_at_call 10; refine (HRn.out _).mono ?_; rintro e w1 ⟨rfl, hb1⟩))
      have hbx : Below wr.heap.size wr (w1.alloc (.cells #[.int .i64 x.k, .string x.enc, .int .i64 x.v, .string x.root, .int .i64 (x.nx : Int)] 31)) := hb1.trans (((Below.refl _ w1).alloc (Nat.le_refl _) _).mono hb1.size)
      have hS1 := hS.below hbx
      have hgx := heap_alloc_new w1 (.cells #[.int .i64 x.k, .string x.enc, .int .i64 x.v, .string x.root, .int .i64 (x.nx : Int)] 31)
      obtain ⟨gx, hgxe⟩ : ∃ gx, w1.heap.size = gx := ⟨_, rfl⟩
      rw [hgxe] at hgx
      try rw [hgxe]
      generalize w1.alloc (.cells #[.int .i64 x.k, .string x.enc, .int .i64 x.v, .string x.root, .int .i64 (x.nx : Int)] 31) = w2 at hbx hS1 hgx ⊢
      clear hgxe hb1 hS hbx HRn y1 y2 z3
      have g0 := Lib.cell_of_heap hgx 0
      have g1 := Lib.cell_of_heap hgx 1
      have g2 := Lib.cell_of_heap hgx 2
      have g3 := Lib.cell_of_heap hgx 3
      have g4 := Lib.cell_of_heap hgx 4
      by_cases hk0 : x.k = 0
      · have z4 : (x.k == 0) = true := by rw [hk0]; rfl
        have hst : stepS R wd st = none := by unfold stepS; rw [hx, if_neg (by omega), if_neg (by omega)]
        replace hk0 : Hid _ := hk0
        replace hst : Hid _ := hst
        replace hx : Hid _ := hx
        have hE := fun w5 (e5 : ((w2.setCell ⟨gz, 0, none⟩ (.slice aN st.nodes.length cN)).setCell ⟨gz, 1, none⟩ (.slice aR st.roots.length cR)).setCell ⟨gz, 2, none⟩ (.int .i64 (st.fin : Int)) = w5) => hS1.ret hre.out hst.out e5
        replace hE : Hid _ := hE
        have hbk := hS1.blk
        have hzk := hS1.zz
        have c0 := Lib.cell_of_heap hbk 0
        have c1 := Lib.cell_of_heap hbk 1
        have c2 := Lib.cell_of_heap hbk 2
        have d0 := Lib.cell_of_heap hzk 0
        have d1 := Lib.cell_of_heap hzk 1
        have d2 := Lib.cell_of_heap hzk 2
        have fz : ∀ j, w2.frozen? ⟨gz, j, none⟩ = false := fun j => by rw [World.frozen?, hzk]; rfl
        have f0 := fz 0
        have f1 := fz 1
        have f2 := fz 2
        clear fz hbk hzk
        go_wp2_with fail
        obtain ⟨w5, hw5⟩ : ∃ w5, ((w2.setCell ⟨gz, 0, none⟩ (.slice aN st.nodes.length cN)).setCell ⟨gz, 1, none⟩ (.slice aR st.roots.length cR)).setCell ⟨gz, 2, none⟩ (.int .i64 (st.fin : Int)) = w5 := ⟨_, rfl⟩
        obtain ⟨hZ5, hP⟩ := hE.out w5 hw5
        rw [hw5]
        clear hw5 hE c0 c1 c2 d0 d1 d2 f0 f1 f2
        have e0 := Lib.cell_of_heap hZ5 0
        have e1 := Lib.cell_of_heap hZ5 1
        have e2 := Lib.cell_of_heap hZ5 2
        refine bodyPost_ret (v := .agg #[.slice aN st.nodes.length cN, .slice aR st.roots.length cR, .int .i64 (st.fin : Int)]) ?_ rfl hP
        clear hP
        simp [results, Tryz.results4, go_sem, asAddr, e0, e1, e2]
      · have z4 : (x.k == 0) = false := by rw [beq_eq_false_iff_ne]; exact hk0
        by_cases hk1 : x.k = 1
        · have z5 : (x.k == 1) = true := by rw [hk1]; rfl
          obtain ⟨he, hnx, hns⟩ : x.enc.size ≤ 4000 ∧ st.sec < x.nx ∧ 64 * x.nx ≤ s.size := by
            rcases hok with h | ⟨_, a, b, c⟩ | ⟨h, _⟩
            · omega
            · exact ⟨a, b, c⟩
            · omega
          have hstep : Hid (Reach R wd ⟨st.nodes, st.aside ++ [x.enc], st.roots, st.fin, x.nx⟩) := Reach.step hre.out (by unfold stepS; rw [hx, if_pos hk1])
          have hhash : Hid (hashesOf wd ⟨st.nodes, st.aside ++ [x.enc], st.roots, st.fin, x.nx⟩ = hashesOf wd st ++ [hashT wd x.enc]) := by
            show _ = _
            unfold hashesOf
            simp
          have hl1 : st.aside.length ≤ 20000 := by have := hI.len; omega
          have hl2 : (hashesOf wd st).length ≤ 20000 := by have := hI.len; unfold hashesOf; simp; omega
          obtain ⟨X, hX⟩ : ∃ X, hashT wd x.enc = X := ⟨_, rfl⟩
          have HX : Hid (∀ (t : ByteArray) w', t.size ≤ 1048576 → Hid (t.data.toList = 78 :: x.enc.data.toList) → Calls Tryz.prog 11 #[.string t, .int .i64 (wd : Int)] w' fun e w'' => e = .returned (.string X) ∧ Below w'.heap.size w' w'') := fun t w' ht HT => by
            have := HD.out t wd w' ht h1 h2
            rw [HT.out] at this
            rw [← hX]
            exact this
          rw [hX] at hhash
          obtain ⟨i0, hi0, hz0, hz1, hz2⟩ := info_parts info9
          replace hk0 : Hid _ := hk0
          replace hk1 : Hid _ := hk1
          replace hx : Hid _ := hx
          clear hX hok hI hsec hlt
          generalize hashesOf wd st = Hs at hS1 hhash hl2
          have hba : Below w2.heap.size w2 (w2.alloc (.cells #[.string x.enc] 9)) := (Below.refl _ _).alloc (Nat.le_refl _) _
          have hS2 := hS1.below hba
          have hsz2 : (w2.alloc (.cells #[.string x.enc] 9)).heap.size = w2.heap.size + 1 := by simp
          have hb2 := hS1.hb
          go_upto_region 13 with (first | (refine wpList_append_lies _ rfl (.tmp 38) (.tmp 41) 22 rfl (gz + 2) 9 i0 (.string ⟨#[]⟩) 1 16 Tryz.underlying22 hi0 hz0 hz1 hz2 rfl (by decide) _ st.aside.length (st.aside.map Value.string) rfl hS2.oA ⟨w2.heap.size, 0, none⟩ 1 1 [.string x.enc] rfl rfl (World.news_of_block (heap_alloc_new w2 _)) (by simp [Value.oneCell']) (by decide) (by unfold maxLen; omega) (by omega) (by simp; omega) (w2.heap.size + 1) (by simp) ?_; intro g3' c3 w3 hown3 hgrow3 hat3 hlt3))
          have hS3 := hS2.appA hgrow3 hown3 (by rw [hsz2]; exact hat3)
          have hgx3 : w3.heap[gx]? = w2.heap[gx]? := by
            have hlx := (Array.getElem?_eq_some_iff.1 hgx).1
            refine (hgrow3.block gx (by omega) (fun e => ?_)).trans (hba.block gx hlx)
            obtain ⟨_, _, cur, hc⟩ := own_cells hS2.oA e.symm
            rw [hba.block gx hlx, hgx] at hc
            cases hc
          have hgy := hgx3.trans hgx
          clear hown3 hgrow3 hat3 hlt3 hgx3 hgx g0 g1 g2 g3 g4 hS1 hS2 hba hsz2 hb2
          have g1 := Lib.cell_of_heap hgy 1
          have hsl : x.enc.size ≤ 1048575 := by omega
          go_upto_region 23 with (first | (go_at_call 12; refine (ltext_any x.enc _ hsl).mono ?_; rintro e w4 ⟨t, rfl, ht, HT, rfl⟩) | (go_at_call 11; refine (HX.out t _ ht HT).mono ?_; rintro e w5 ⟨rfl, hb5⟩; have hS5 := hS3.below hb5; have hbe : Below w5.heap.size w5 (w5.alloc (.cells #[.string X] 9)) := (Below.refl _ _).alloc (Nat.le_refl _) _; have hS6 := hS5.below hbe; have hb6 := hS5.hb) | (refine wpList_append_lies _ rfl (.tmp 43) (.tmp 49) 22 rfl (gz + 2) 9 i0 (.string ⟨#[]⟩) 1 16 Tryz.underlying22 hi0 hz0 hz1 hz2 rfl (by decide) _ Hs.length (Hs.map Value.string) rfl hS6.oH ⟨w5.heap.size, 0, none⟩ 1 1 [.string X] rfl rfl (World.news_of_block (heap_alloc_new w5 _)) (by simp [Value.oneCell']) (by decide) (by unfold maxLen; omega) (by omega) (by simp; omega) (w5.heap.size + 1) (by simp) ?_; intro g7 c7 w7 hown7 hgrow7 hat7 hlt7))
          have hS7 := hS6.appH hgrow7 hown7 (by rw [World.size_alloc]; exact hat7)
          have hgz7 : w7.heap[gx]? = some (.cells #[.int .i64 x.k, .string x.enc, .int .i64 x.v, .string x.root, .int .i64 (x.nx : Int)] 31) := by
            have hlx := (Array.getElem?_eq_some_iff.1 hgy).1
            have e5 := (hb5.block gx hlx).trans hgy
            have hl5 := (Array.getElem?_eq_some_iff.1 e5).1
            refine (hgrow7.block gx (by rw [World.size_alloc]; omega) (fun e => ?_)).trans ((hbe.block gx hl5).trans e5)
            obtain ⟨_, _, cur, hc⟩ := own_cells hS6.oH e.symm
            rw [(hbe.block gx hl5).trans e5] at hc
            cases hc
          clear hown7 hgrow7 hat7 hlt7 hb5 hbe hS5 hS6 hb6 hS3 g1 hgy HT ht HX
          have g4 := Lib.cell_of_heap hgz7 4
          have hfin : Hid (∃ s2 aN cN aR cR aA cA aH cH, Value.slice (some ⟨g3', 0, none⟩) (st.aside.length + 1) c3 = .slice aA s2.aside.length cA ∧ Value.slice (some ⟨g7, 0, none⟩) (Hs.length + 1) c7 = .slice aH (hashesOf wd s2).length cH ∧ Value.int .i64 (x.nx : Int) = .int .i64 (s2.sec : Int) ∧ Hid (Reach R wd s2) ∧ SpecAt (gz + 1) gz (gz + 2) s2.nodes s2.roots s2.aside (hashesOf wd s2) s2.fin aN cN aR cR aA cA aH cH w w7) :=
            ⟨⟨st.nodes, st.aside ++ [x.enc], st.roots, st.fin, x.nx⟩, aN, cN, aR, cR, some ⟨g3', 0, none⟩, c3, some ⟨g7, 0, none⟩, c7, by simp, by rw [hhash.out]; simp, rfl, hstep, by rw [hhash.out]; exact hS7⟩
          clear hS7 hgz7 hstep hhash
          go_wp2_with fail
          go_roundw
          case rel => exact hfin.out
          case measure => simp [intOf]; omega
        · have hk2 : x.k = 2 := by rcases hok with h | ⟨h, _⟩ | ⟨h, _⟩ <;> omega
          have z5 : (x.k == 1) = false := by rw [beq_eq_false_iff_ne]; exact hk1
          obtain ⟨he, hnx, hns⟩ : x.root.size ≤ 32 ∧ st.sec < x.nx ∧ 64 * x.nx ≤ s.size := by
            rcases hok with h | ⟨h, _⟩ | ⟨_, a, b, c⟩
            · omega
            · omega
            · exact ⟨a, b, c⟩
          obtain ⟨q, hqe⟩ : ∃ q : Int, (st.roots.length : Int) + 1 = q := ⟨_, rfl⟩
          have hrl : st.roots.length ≤ 20000 := by have := hI.len; omega
          have hq' : -9223372036854775808 ≤ q ∧ q ≤ 9223372036854775807 := by clear z0 z1; omega
          have y5 : wrap64 ((st.roots.length : Int) + 1) = q := by rw [hqe]; exact wr_in _ hq'
          have y6 : IntKind.i64.wrap ((st.roots.length : Int) + 1) = q := by rw [hqe]; exact wrapI_in q hq'
          have cR1 := Lib.cell_of_heap hS1.blk 1
          clear hq'
          by_cases hv : x.v = q
          · have z6 : (x.v != q) = false := by rw [hv]; simp
            by_cases hr0 : x.root.size = 0
            · have z7 : decide ((0 : Int) < (x.root.size : Int)) = false := by rw [decide_eq_false_iff_not]; omega
              have z7' : decide ((x.root.size : Int) > 0) = false := by rw [decide_eq_false_iff_not]; omega
              have hgd : goodC wd st x = true := by unfold goodC; rw [decide_eq_true (hv.trans hqe.symm), decide_eq_true hr0]; rfl
              have z9 : decide (0 < x.root.size) = false := by rw [hr0]; rfl
              have z9' : ¬ (0 < x.root.size) := by rw [hr0]; exact Nat.lt_irrefl 0
              replace hr0 : Hid _ := hr0
              replace hv : Hid _ := hv
              replace hqe : Hid _ := hqe
              have hre' : Hid (Reach R wd ⟨st.nodes ++ st.aside, [], st.roots ++ [x.root], x.nx * 64, x.nx⟩) := Reach.step hre.out (by unfold stepS; rw [hx, if_neg (by omega), if_pos ⟨hk2, hgd⟩])
              have hhs : Hid (hashesOf wd ⟨st.nodes ++ st.aside, [], st.roots ++ [x.root], x.nx * 64, x.nx⟩ = hashesOf wd st) := by
                show _ = _
                unfold hashesOf
                simp
              obtain ⟨i0, hi0, hz0, hz1, hz2⟩ := info_parts info9
              have hl1 : st.nodes.length + st.aside.length + st.roots.length ≤ 20000 := by have := hI.len; omega
              have hsA : ∀ j, (st.aside.getD j ⟨#[]⟩).size ≤ 1048576 := fun j => by
                rw [List.getD_eq_getElem?_getD]
                cases hj : st.aside[j]? with
                | none => exact Nat.zero_le _
                | some e => exact Nat.le_trans (hI.enc e (List.mem_append_right _ (List.mem_of_getElem? hj))) (by decide)
              obtain ⟨p2, hp2⟩ : ∃ p2 : Int, (x.nx : Int) * 64 = p2 := ⟨_, rfl⟩
              have hq2 : -9223372036854775808 ≤ p2 ∧ p2 ≤ 9223372036854775807 := by omega
              have y3 : wrap64 ((x.nx : Int) * 64) = p2 := by rw [hp2]; exact wr_in _ hq2
              have y4 : IntKind.i64.wrap ((x.nx : Int) * 64) = p2 := by rw [hp2]; exact wrapI_in p2 hq2
              have hp3 : Hid (p2 = ((x.nx * 64 : Nat) : Int)) := by show _ = _; rw [← hp2]; simp
              replace hk0 : Hid _ := hk0
              replace hk1 : Hid _ := hk1
              replace hk2 : Hid _ := hk2
              replace hx : Hid _ := hx
              replace hgd : Hid _ := hgd
              clear hok hI hsec hlt hq2 hp2 HD HRs
              generalize hashesOf wd st = Hs at hS1 hhs
              go_upto_region 17 with fail
              obtain ⟨m, hm⟩ : ∃ m, st.aside.length = m := ⟨_, rfl⟩
              have hmm : Hid (st.aside.length = m) := hm
              rw [hm]
              have hS0' : SpecAt (gz + 1) gz (gz + 2) (st.nodes ++ st.aside.take 0) st.roots st.aside Hs st.fin aN cN aR cR aA cA aH cH w w2 := by rw [List.take_zero, List.append_nil]; exact hS1
              have hg0' := hgx
              go_loopw [10] (fun t10 wr => ∃ (k : Nat) (aN' : Option Addr) (cN' : Nat), k ≤ m ∧ t10 = .int .i64 (k : Int) ∧ SpecAt (gz + 1) gz (gz + 2) (st.nodes ++ st.aside.take k) st.roots st.aside Hs st.fin aN' cN' aR cR aA cA aH cH w wr ∧ wr.heap[gx]? = some (.cells #[.int .i64 x.k, .string x.enc, .int .i64 x.v, .string x.root, .int .i64 (x.nx : Int)] 31)) (fun t10 _ => m - (intOf t10).toNat)
              case atStart => exact ⟨0, aN, cN, Nat.zero_le _, rfl, hS0', hg0'⟩
              case round =>
                clear hS0' hg0' g0 g1 g2 g3 g4 hgx hS1 cR1 z7 z7'
                obtain ⟨k, aN', cN', hk, rfl, hSk, hgk⟩ := hrel
                by_cases hlt2 : k < m
                · have z8 : decide ((k : Int) < (m : Int)) = true := by simp; omega
                  have hx0 : (0 : Int) ≤ (k : Int) := Int.natCast_nonneg _
                  have hx1 : (k : Int) < (m : Int) := by omega
                  obtain ⟨b1, off, hab, hbl, hcs⟩ := (own_sarg hSk.oA (by omega) hsA).at_ (by rw [hmm.out]; omega)
                  have hcx := hcs k (by rw [hmm.out]; exact hlt2)
                  have hes : st.aside.take (k + 1) = st.aside.take k ++ [st.aside.getD k ⟨#[]⟩] := by
                    rw [List.take_add_one, List.getD_eq_getElem?_getD, List.getElem?_eq_getElem (by rw [hmm.out]; exact hlt2)]; rfl
                  obtain ⟨e, hee⟩ : ∃ e, st.aside.getD k ⟨#[]⟩ = e := ⟨_, rfl⟩
                  rw [hee] at hcx hes
                  have HES : Hid (st.nodes ++ st.aside.take (k + 1) = (st.nodes ++ st.aside.take k) ++ [e]) := by show _ = _; rw [hes, List.append_assoc]
                  obtain ⟨Nk, hNk⟩ : ∃ Nk, st.nodes ++ st.aside.take k = Nk := ⟨_, rfl⟩
                  have hnl : Nk.length ≤ 20000 := by rw [← hNk, List.length_append, List.length_take]; omega
                  rw [hNk] at hSk HES
                  clear hcs hes hee hNk
                  have hbk := hSk.blk
                  have c0 := Lib.cell_of_heap hbk 0
                  have hg2 := two_lt hSk
                  have hbD : Below wr.heap.size wr (wr.drew.alloc (.cells #[.string e] 9)) := ((Below.refl _ wr).drew).alloc (Nat.le_refl _) _
                  have hSd := hSk.below hbD
                  have a0 : ∀ o : Obj, (wr.drew.alloc o).cell? ⟨gz + 1, 0, none⟩ = some (.slice aN' Nk.length cN') := fun o => Lib.cell_of_heap ((Below.heap_alloc wr.drew o (gz + 1) hg2.1).trans hbk) 0
                  have hbase := hSk.hb
                  have hgl := (Array.getElem?_eq_some_iff.1 hgk).1
                  have hszd : (wr.drew.alloc (.cells #[.string e] 9)).heap.size = wr.heap.size + 1 := by simp
                  have hLt : ∀ j, j < wr.heap.size → j < (wr.drew.alloc (.cells #[.string e] 9)).heap.size := fun j hj => by rw [hszd]; omega
                  have HBk : Hid _ := hbk
                  clear hbk
                  subst hab
                  go_upto_region 19 with fail
                  go_region_law ((refine step_append_lies _ (by rfl) (.tmp 79) (.tmp 84) 22 (by rfl) (gz + 2) 9 i0 (.string ⟨#[]⟩) 1 16 Tryz.underlying22 hi0 hz0 hz1 hz2 (by rfl) (by decide) (.slice aN' Nk.length cN') Nk.length (Nk.map Value.string) (by rfl) hSd.oN ⟨wr.heap.size, 0, none⟩ 1 1 [.string e] (by rfl) (by rfl) (World.news_of_block (heap_alloc_new wr.drew _)) (by simp [Value.oneCell']) (by decide) (by unfold maxLen; omega) (by omega) (by simp; omega) (wr.heap.size + 1) (by simp) ?_; intro g4' c4 w4 hown4 hgrow4 hat4 hlt4; have hgo4 := (hgrow4.block (gz + 1) (hLt _ hg2.1) (fun e => by have := (own_cells hSd.oN e.symm).1; omega)).trans ((hbD.block (gz + 1) hg2.1).trans HBk.out); have k0 := Lib.cell_of_heap hgo4 0; have f0 : w4.frozen? ⟨gz + 1, 0, none⟩ = false := by rw [World.frozen?, hgo4]; rfl))
                  all_goals (
                    have hS5 := hSd.appN hgrow4 hown4 (by rw [hszd]; exact hat4)
                    have hgd4 : w4.heap[gx]? = some (.cells #[.int .i64 x.k, .string x.enc, .int .i64 x.v, .string x.root, .int .i64 (x.nx : Int)] 31) := by
                      refine (hgrow4.block gx (hLt gx hgl) (fun e => ?_)).trans ((hbD.block gx hgl).trans hgk)
                      obtain ⟨_, _, cur, hc⟩ := own_cells hSd.oN e.symm
                      rw [(hbD.block gx hgl).trans hgk] at hc
                      cases hc
                    have hgne : gx ≠ gz + 1 := fun e => by
                      rw [e] at hgd4
                      rw [hgo4] at hgd4
                      cases hgd4
                    have hgd5 := ((grownBy_setCell w4 (gz + 1) 0 (.slice (some ⟨g4', 0, none⟩) (Nk.length + 1) c4)).block gx (Array.getElem?_eq_some_iff.1 hgd4).1 (fun e => hgne (Option.some.inj e))).trans hgd4
                    have hfin : Hid (∃ (k' : Nat) (aN'' : Option Addr) (cN'' : Nat), k' ≤ m ∧ Value.int .i64 ((k : Int) + 1) = .int .i64 (k' : Int) ∧ SpecAt (gz + 1) gz (gz + 2) (st.nodes ++ st.aside.take k') st.roots st.aside Hs st.fin aN'' cN'' aR cR (some ⟨b1, off, none⟩) cA aH cH w (w4.setCell ⟨gz + 1, 0, none⟩ (.slice (some ⟨g4', 0, none⟩) (Nk.length + 1) c4)) ∧ (w4.setCell ⟨gz + 1, 0, none⟩ (.slice (some ⟨g4', 0, none⟩) (Nk.length + 1) c4)).heap[gx]? = some (.cells #[.int .i64 x.k, .string x.enc, .int .i64 x.v, .string x.root, .int .i64 (x.nx : Int)] 31)) := ⟨k + 1, _, _, hlt2, rfl, by rw [HES.out]; exact hS5, hgd5⟩
                    clear hS5 hgd4 hgd5 hgne hown4 hgrow4 hat4 hlt4 hgo4 k0 f0 a0 c0 hcx hSd hbD hSk hgk
                    go_wp2_with fail
                    go_roundw
                    case rel =>
                      obtain ⟨k', aN'', cN'', q1, q2, q3, q4⟩ := hfin.out
                      exact ⟨k', aN'', cN'', q1, by first | exact q2 | (rw [← q2]; go_num), q3, q4⟩
                    case measure => simp [intOf]; omega)
                · obtain rfl : k = m := by omega
                  have z8 : decide ((k : Int) < (k : Int)) = false := by simp
                  rw [show st.aside.take k = st.aside from List.take_of_length_le (by rw [hmm.out]; exact Nat.le_refl _)] at hSk
                  have hSn := hSk.newA
                  have hbn : Below wr.heap.size wr (wr.alloc (.cells #[] 9)) := (Below.refl _ _).alloc (Nat.le_refl _) _
                  have hgn := (hbn.block gx (Array.getElem?_eq_some_iff.1 hgk).1).trans hgk
                  obtain ⟨wn, hwn⟩ : ∃ wn, wr.alloc (.cells #[] 9) = wn := ⟨_, rfl⟩
                  obtain ⟨gA2, hgA2⟩ : ∃ gA2, wr.heap.size = gA2 := ⟨_, rfl⟩
                  rw [hwn] at hSn hgn
                  rw [hgA2] at hSn
                  go_upto_region 21 with fail
                  try rw [hgA2]
                  try rw [hwn]
                  clear hwn hgA2 hbn hSk hgk
                  have hbk := hSn.blk
                  have hba : Below wn.heap.size wn (wn.alloc (.cells #[.string x.root] 9)) := (Below.refl _ _).alloc (Nat.le_refl _) _
                  have hS2 := hSn.below hba
                  have hszn : (wn.alloc (.cells #[.string x.root] 9)).heap.size = wn.heap.size + 1 := by simp
                  have hbb := hSn.hb
                  have hgo := two_lt hSn
                  have hgl := (Array.getElem?_eq_some_iff.1 hgn).1
                  have c1 := Lib.cell_of_heap hbk 1
                  have g3 := Lib.cell_of_heap hgn 3
                  have HBk : Hid _ := hbk
                  clear hbk
                  go_upto_region 22 with (first | (refine wpList_append_lies _ rfl (.tmp 89) (.tmp 92) 22 rfl (gz + 2) 9 i0 (.string ⟨#[]⟩) 1 16 Tryz.underlying22 hi0 hz0 hz1 hz2 rfl (by decide) _ st.roots.length (st.roots.map Value.string) rfl hS2.oR ⟨wn.heap.size, 0, none⟩ 1 1 [.string x.root] rfl rfl (World.news_of_block (heap_alloc_new wn _)) (by simp [Value.oneCell']) (by decide) (by unfold maxLen; omega) (by omega) (by simp; omega) (wn.heap.size + 1) (by simp) ?_; intro g5 c5 w5 hown5 hgrow5 hat5 hlt5; have hgo5 := (hgrow5.block (gz + 1) (by rw [hszn]; omega) (fun e => by have := (own_cells hS2.oR e.symm).1; omega)).trans ((hba.block (gz + 1) hgo.1).trans HBk.out); have k1 := Lib.cell_of_heap hgo5 1; have f1 : w5.frozen? ⟨gz + 1, 1, none⟩ = false := by rw [World.frozen?, hgo5]; rfl))
                  have hS6 := hS2.appR hgrow5 hown5 (by rw [hszn]; exact hat5)
                  have hgd5 : w5.heap[gx]? = some (.cells #[.int .i64 x.k, .string x.enc, .int .i64 x.v, .string x.root, .int .i64 (x.nx : Int)] 31) := by
                    refine (hgrow5.block gx (by rw [hszn]; omega) (fun e => ?_)).trans ((hba.block gx hgl).trans hgn)
                    obtain ⟨_, _, cur, hc⟩ := own_cells hS2.oR e.symm
                    rw [(hba.block gx hgl).trans hgn] at hc
                    cases hc
                  have hgne : gx ≠ gz + 1 := fun e => by
                    rw [e] at hgd5
                    rw [hgo5] at hgd5
                    cases hgd5
                  have hgd6 := ((grownBy_setCell w5 (gz + 1) 1 (.slice (some ⟨g5, 0, none⟩) (st.roots.length + 1) c5)).block gx (Array.getElem?_eq_some_iff.1 hgd5).1 (fun e => hgne (Option.some.inj e))).trans hgd5
                  clear hown5 hgrow5 hat5 hlt5 hgo5 k1 f1 c1 g3 hS2 hba hSn hgn hszn hgd5 HBk
                  generalize w5.setCell ⟨gz + 1, 1, none⟩ (.slice (some ⟨g5, 0, none⟩) (st.roots.length + 1) c5) = w6 at hS6 hgd6 ⊢
                  have hS7 := hS6.setFin (x.nx * 64) p2 hp3.out
                  have hgd7 := ((grownBy_setCell w6 (gz + 1) 2 (.int .i64 p2)).block gx (Array.getElem?_eq_some_iff.1 hgd6).1 (fun e => hgne (Option.some.inj e))).trans hgd6
                  have hbk6 := hS6.blk
                  have k2 := Lib.cell_of_heap hbk6 2
                  have f2 : w6.frozen? ⟨gz + 1, 2, none⟩ = false := by rw [World.frozen?, hbk6]; rfl
                  have g4 := Lib.cell_of_heap hgd6 4
                  obtain ⟨w7, hw7⟩ : ∃ w7, w6.setCell ⟨gz + 1, 2, none⟩ (.int .i64 p2) = w7 := ⟨_, rfl⟩
                  rw [hw7] at hS7 hgd7
                  have g4' := Lib.cell_of_heap hgd7 4
                  have hfin : Hid (∃ s2 aN cN aR cR aA cA aH' cH', Value.slice (some ⟨gA2, 0, none⟩) 0 0 = .slice aA s2.aside.length cA ∧ Value.slice aH Hs.length cH = .slice aH' (hashesOf wd s2).length cH' ∧ Value.int .i64 (x.nx : Int) = .int .i64 (s2.sec : Int) ∧ Hid (Reach R wd s2) ∧ SpecAt (gz + 1) gz (gz + 2) s2.nodes s2.roots s2.aside (hashesOf wd s2) s2.fin aN cN aR cR aA cA aH' cH' w w7) :=
                    ⟨⟨st.nodes ++ st.aside, [], st.roots ++ [x.root], x.nx * 64, x.nx⟩, aN', cN', some ⟨g5, 0, none⟩, c5, some ⟨gA2, 0, none⟩, 0, aH, cH, rfl, by rw [hhs.out], rfl, hre', by rw [hhs.out]; exact hS7⟩
                  clear hbk6 hS6 hgd6 hS7 hgd7 hre' hhs
                  go_wp2_with fail
                  try rw [hw7]
                  go_roundw
                  case rel => exact hfin.out
                  case measure => simp [intOf]; omega
            · have z7 : decide (0 < x.root.size) = true := by rw [decide_eq_true_eq]; omega
              have z7' : 0 < x.root.size := by omega
              have hsH : ∀ j, ((hashesOf wd st).getD j ⟨#[]⟩).size ≤ 1048576 := fun j => by
                rw [List.getD_eq_getElem?_getD]
                cases hj : (hashesOf wd st)[j]? with
                | none => exact Nat.zero_le _
                | some e =>
                  obtain ⟨y, _, rfl⟩ := List.mem_map.1 (List.mem_of_getElem? hj)
                  show ((sha (78 :: y.data.toList)).take wd).length ≤ 1048576
                  rw [List.length_take]; omega
              have hlH : (hashesOf wd st).length ≤ 1048576 := by
                have hle := hI.len
                unfold hashesOf; rw [List.length_map, List.length_append]
                clear y5 y6 z6 z7 hv hqe
                omega
              have HHs : Hid (Calls Tryz.prog 13 #[.slice aH (hashesOf wd st).length cH, .string x.root] w2 fun e w' => e = .returned (.bool (hasT (hashesOf wd st) x.root)) ∧ w2 = w') := has_any aH (hashesOf wd st) cH x.root w2 (own_sarg hS1.oH hlH hsH)
              clear hsH hlH
              cases hhit : hasT (hashesOf wd st) x.root with
              | true =>
                have hgd : goodC wd st x = true := by unfold goodC; rw [decide_eq_true (hv.trans hqe.symm), ← has_hit, hhit, Bool.or_true]; rfl
                rw [hhit] at HHs
                replace hr0 : Hid _ := hr0
                replace hv : Hid _ := hv
                replace hqe : Hid _ := hqe
                replace hhit : Hid _ := hhit
                have hre' : Hid (Reach R wd ⟨st.nodes ++ st.aside, [], st.roots ++ [x.root], x.nx * 64, x.nx⟩) := Reach.step hre.out (by unfold stepS; rw [hx, if_neg (by omega), if_pos ⟨hk2, hgd⟩])
                have hhs : Hid (hashesOf wd ⟨st.nodes ++ st.aside, [], st.roots ++ [x.root], x.nx * 64, x.nx⟩ = hashesOf wd st) := by
                  show _ = _
                  unfold hashesOf
                  simp
                obtain ⟨i0, hi0, hz0, hz1, hz2⟩ := info_parts info9
                have hl1 : st.nodes.length + st.aside.length + st.roots.length ≤ 20000 := by have := hI.len; omega
                have hsA : ∀ j, (st.aside.getD j ⟨#[]⟩).size ≤ 1048576 := fun j => by
                  rw [List.getD_eq_getElem?_getD]
                  cases hj : st.aside[j]? with
                  | none => exact Nat.zero_le _
                  | some e => exact Nat.le_trans (hI.enc e (List.mem_append_right _ (List.mem_of_getElem? hj))) (by decide)
                obtain ⟨p2, hp2⟩ : ∃ p2 : Int, (x.nx : Int) * 64 = p2 := ⟨_, rfl⟩
                have hq2 : -9223372036854775808 ≤ p2 ∧ p2 ≤ 9223372036854775807 := by omega
                have y3 : wrap64 ((x.nx : Int) * 64) = p2 := by rw [hp2]; exact wr_in _ hq2
                have y4 : IntKind.i64.wrap ((x.nx : Int) * 64) = p2 := by rw [hp2]; exact wrapI_in p2 hq2
                have hp3 : Hid (p2 = ((x.nx * 64 : Nat) : Int)) := by show _ = _; rw [← hp2]; simp
                replace hk0 : Hid _ := hk0
                replace hk1 : Hid _ := hk1
                replace hk2 : Hid _ := hk2
                replace hx : Hid _ := hx
                replace hgd : Hid _ := hgd
                clear hok hI hsec hlt hq2 hp2 HD HRs
                generalize hashesOf wd st = Hs at hS1 hhs HHs
                go_upto_region 17 with (first | (go_at_call 13; refine HHs.out.mono ?_; rintro e w3 ⟨rfl, rfl⟩))
                obtain ⟨m, hm⟩ : ∃ m, st.aside.length = m := ⟨_, rfl⟩
                have hmm : Hid (st.aside.length = m) := hm
                rw [hm]
                have hS0' : SpecAt (gz + 1) gz (gz + 2) (st.nodes ++ st.aside.take 0) st.roots st.aside Hs st.fin aN cN aR cR aA cA aH cH w w2 := by rw [List.take_zero, List.append_nil]; exact hS1
                have hg0' := hgx
                go_loopw [10] (fun t10 wr => ∃ (k : Nat) (aN' : Option Addr) (cN' : Nat), k ≤ m ∧ t10 = .int .i64 (k : Int) ∧ SpecAt (gz + 1) gz (gz + 2) (st.nodes ++ st.aside.take k) st.roots st.aside Hs st.fin aN' cN' aR cR aA cA aH cH w wr ∧ wr.heap[gx]? = some (.cells #[.int .i64 x.k, .string x.enc, .int .i64 x.v, .string x.root, .int .i64 (x.nx : Int)] 31)) (fun t10 _ => m - (intOf t10).toNat)
                case atStart => exact ⟨0, aN, cN, Nat.zero_le _, rfl, hS0', hg0'⟩
                case round =>
                  clear hS0' hg0' g0 g1 g2 g3 g4 hgx hS1 cR1 z7 z7' HHs
                  obtain ⟨k, aN', cN', hk, rfl, hSk, hgk⟩ := hrel
                  by_cases hlt2 : k < m
                  · have z8 : decide ((k : Int) < (m : Int)) = true := by simp; omega
                    have hx0 : (0 : Int) ≤ (k : Int) := Int.natCast_nonneg _
                    have hx1 : (k : Int) < (m : Int) := by omega
                    obtain ⟨b1, off, hab, hbl, hcs⟩ := (own_sarg hSk.oA (by omega) hsA).at_ (by rw [hmm.out]; omega)
                    have hcx := hcs k (by rw [hmm.out]; exact hlt2)
                    have hes : st.aside.take (k + 1) = st.aside.take k ++ [st.aside.getD k ⟨#[]⟩] := by
                      rw [List.take_add_one, List.getD_eq_getElem?_getD, List.getElem?_eq_getElem (by rw [hmm.out]; exact hlt2)]; rfl
                    obtain ⟨e, hee⟩ : ∃ e, st.aside.getD k ⟨#[]⟩ = e := ⟨_, rfl⟩
                    rw [hee] at hcx hes
                    have HES : Hid (st.nodes ++ st.aside.take (k + 1) = (st.nodes ++ st.aside.take k) ++ [e]) := by show _ = _; rw [hes, List.append_assoc]
                    obtain ⟨Nk, hNk⟩ : ∃ Nk, st.nodes ++ st.aside.take k = Nk := ⟨_, rfl⟩
                    have hnl : Nk.length ≤ 20000 := by rw [← hNk, List.length_append, List.length_take]; omega
                    rw [hNk] at hSk HES
                    clear hcs hes hee hNk
                    have hbk := hSk.blk
                    have c0 := Lib.cell_of_heap hbk 0
                    have hg2 := two_lt hSk
                    have hbD : Below wr.heap.size wr (wr.drew.alloc (.cells #[.string e] 9)) := ((Below.refl _ wr).drew).alloc (Nat.le_refl _) _
                    have hSd := hSk.below hbD
                    have a0 : ∀ o : Obj, (wr.drew.alloc o).cell? ⟨gz + 1, 0, none⟩ = some (.slice aN' Nk.length cN') := fun o => Lib.cell_of_heap ((Below.heap_alloc wr.drew o (gz + 1) hg2.1).trans hbk) 0
                    have hbase := hSk.hb
                    have hgl := (Array.getElem?_eq_some_iff.1 hgk).1
                    have hszd : (wr.drew.alloc (.cells #[.string e] 9)).heap.size = wr.heap.size + 1 := by simp
                    have hLt : ∀ j, j < wr.heap.size → j < (wr.drew.alloc (.cells #[.string e] 9)).heap.size := fun j hj => by rw [hszd]; omega
                    have HBk : Hid _ := hbk
                    clear hbk
                    subst hab
                    go_upto_region 19 with fail
                    go_region_law ((refine step_append_lies _ (by rfl) (.tmp 79) (.tmp 84) 22 (by rfl) (gz + 2) 9 i0 (.string ⟨#[]⟩) 1 16 Tryz.underlying22 hi0 hz0 hz1 hz2 (by rfl) (by decide) (.slice aN' Nk.length cN') Nk.length (Nk.map Value.string) (by rfl) hSd.oN ⟨wr.heap.size, 0, none⟩ 1 1 [.string e] (by rfl) (by rfl) (World.news_of_block (heap_alloc_new wr.drew _)) (by simp [Value.oneCell']) (by decide) (by unfold maxLen; omega) (by omega) (by simp; omega) (wr.heap.size + 1) (by simp) ?_; intro g4' c4 w4 hown4 hgrow4 hat4 hlt4; have hgo4 := (hgrow4.block (gz + 1) (hLt _ hg2.1) (fun e => by have := (own_cells hSd.oN e.symm).1; omega)).trans ((hbD.block (gz + 1) hg2.1).trans HBk.out); have k0 := Lib.cell_of_heap hgo4 0; have f0 : w4.frozen? ⟨gz + 1, 0, none⟩ = false := by rw [World.frozen?, hgo4]; rfl))
                    all_goals (
                      have hS5 := hSd.appN hgrow4 hown4 (by rw [hszd]; exact hat4)
                      have hgd4 : w4.heap[gx]? = some (.cells #[.int .i64 x.k, .string x.enc, .int .i64 x.v, .string x.root, .int .i64 (x.nx : Int)] 31) := by
                        refine (hgrow4.block gx (hLt gx hgl) (fun e => ?_)).trans ((hbD.block gx hgl).trans hgk)
                        obtain ⟨_, _, cur, hc⟩ := own_cells hSd.oN e.symm
                        rw [(hbD.block gx hgl).trans hgk] at hc
                        cases hc
                      have hgne : gx ≠ gz + 1 := fun e => by
                        rw [e] at hgd4
                        rw [hgo4] at hgd4
                        cases hgd4
                      have hgd5 := ((grownBy_setCell w4 (gz + 1) 0 (.slice (some ⟨g4', 0, none⟩) (Nk.length + 1) c4)).block gx (Array.getElem?_eq_some_iff.1 hgd4).1 (fun e => hgne (Option.some.inj e))).trans hgd4
                      have hfin : Hid (∃ (k' : Nat) (aN'' : Option Addr) (cN'' : Nat), k' ≤ m ∧ Value.int .i64 ((k : Int) + 1) = .int .i64 (k' : Int) ∧ SpecAt (gz + 1) gz (gz + 2) (st.nodes ++ st.aside.take k') st.roots st.aside Hs st.fin aN'' cN'' aR cR (some ⟨b1, off, none⟩) cA aH cH w (w4.setCell ⟨gz + 1, 0, none⟩ (.slice (some ⟨g4', 0, none⟩) (Nk.length + 1) c4)) ∧ (w4.setCell ⟨gz + 1, 0, none⟩ (.slice (some ⟨g4', 0, none⟩) (Nk.length + 1) c4)).heap[gx]? = some (.cells #[.int .i64 x.k, .string x.enc, .int .i64 x.v, .string x.root, .int .i64 (x.nx : Int)] 31)) := ⟨k + 1, _, _, hlt2, rfl, by rw [HES.out]; exact hS5, hgd5⟩
                      clear hS5 hgd4 hgd5 hgne hown4 hgrow4 hat4 hlt4 hgo4 k0 f0 a0 c0 hcx hSd hbD hSk hgk
                      go_wp2_with fail
                      go_roundw
                      case rel =>
                        obtain ⟨k', aN'', cN'', q1, q2, q3, q4⟩ := hfin.out
                        exact ⟨k', aN'', cN'', q1, by first | exact q2 | (rw [← q2]; go_num), q3, q4⟩
                      case measure => simp [intOf]; omega)
                  · obtain rfl : k = m := by omega
                    have z8 : decide ((k : Int) < (k : Int)) = false := by simp
                    rw [show st.aside.take k = st.aside from List.take_of_length_le (by rw [hmm.out]; exact Nat.le_refl _)] at hSk
                    have hSn := hSk.newA
                    have hbn : Below wr.heap.size wr (wr.alloc (.cells #[] 9)) := (Below.refl _ _).alloc (Nat.le_refl _) _
                    have hgn := (hbn.block gx (Array.getElem?_eq_some_iff.1 hgk).1).trans hgk
                    obtain ⟨wn, hwn⟩ : ∃ wn, wr.alloc (.cells #[] 9) = wn := ⟨_, rfl⟩
                    obtain ⟨gA2, hgA2⟩ : ∃ gA2, wr.heap.size = gA2 := ⟨_, rfl⟩
                    rw [hwn] at hSn hgn
                    rw [hgA2] at hSn
                    go_upto_region 21 with fail
                    try rw [hgA2]
                    try rw [hwn]
                    clear hwn hgA2 hbn hSk hgk
                    have hbk := hSn.blk
                    have hba : Below wn.heap.size wn (wn.alloc (.cells #[.string x.root] 9)) := (Below.refl _ _).alloc (Nat.le_refl _) _
                    have hS2 := hSn.below hba
                    have hszn : (wn.alloc (.cells #[.string x.root] 9)).heap.size = wn.heap.size + 1 := by simp
                    have hbb := hSn.hb
                    have hgo := two_lt hSn
                    have hgl := (Array.getElem?_eq_some_iff.1 hgn).1
                    have c1 := Lib.cell_of_heap hbk 1
                    have g3 := Lib.cell_of_heap hgn 3
                    have HBk : Hid _ := hbk
                    clear hbk
                    go_upto_region 22 with (first | (refine wpList_append_lies _ rfl (.tmp 89) (.tmp 92) 22 rfl (gz + 2) 9 i0 (.string ⟨#[]⟩) 1 16 Tryz.underlying22 hi0 hz0 hz1 hz2 rfl (by decide) _ st.roots.length (st.roots.map Value.string) rfl hS2.oR ⟨wn.heap.size, 0, none⟩ 1 1 [.string x.root] rfl rfl (World.news_of_block (heap_alloc_new wn _)) (by simp [Value.oneCell']) (by decide) (by unfold maxLen; omega) (by omega) (by simp; omega) (wn.heap.size + 1) (by simp) ?_; intro g5 c5 w5 hown5 hgrow5 hat5 hlt5; have hgo5 := (hgrow5.block (gz + 1) (by rw [hszn]; omega) (fun e => by have := (own_cells hS2.oR e.symm).1; omega)).trans ((hba.block (gz + 1) hgo.1).trans HBk.out); have k1 := Lib.cell_of_heap hgo5 1; have f1 : w5.frozen? ⟨gz + 1, 1, none⟩ = false := by rw [World.frozen?, hgo5]; rfl))
                    have hS6 := hS2.appR hgrow5 hown5 (by rw [hszn]; exact hat5)
                    have hgd5 : w5.heap[gx]? = some (.cells #[.int .i64 x.k, .string x.enc, .int .i64 x.v, .string x.root, .int .i64 (x.nx : Int)] 31) := by
                      refine (hgrow5.block gx (by rw [hszn]; omega) (fun e => ?_)).trans ((hba.block gx hgl).trans hgn)
                      obtain ⟨_, _, cur, hc⟩ := own_cells hS2.oR e.symm
                      rw [(hba.block gx hgl).trans hgn] at hc
                      cases hc
                    have hgne : gx ≠ gz + 1 := fun e => by
                      rw [e] at hgd5
                      rw [hgo5] at hgd5
                      cases hgd5
                    have hgd6 := ((grownBy_setCell w5 (gz + 1) 1 (.slice (some ⟨g5, 0, none⟩) (st.roots.length + 1) c5)).block gx (Array.getElem?_eq_some_iff.1 hgd5).1 (fun e => hgne (Option.some.inj e))).trans hgd5
                    clear hown5 hgrow5 hat5 hlt5 hgo5 k1 f1 c1 g3 hS2 hba hSn hgn hszn hgd5 HBk
                    generalize w5.setCell ⟨gz + 1, 1, none⟩ (.slice (some ⟨g5, 0, none⟩) (st.roots.length + 1) c5) = w6 at hS6 hgd6 ⊢
                    have hS7 := hS6.setFin (x.nx * 64) p2 hp3.out
                    have hgd7 := ((grownBy_setCell w6 (gz + 1) 2 (.int .i64 p2)).block gx (Array.getElem?_eq_some_iff.1 hgd6).1 (fun e => hgne (Option.some.inj e))).trans hgd6
                    have hbk6 := hS6.blk
                    have k2 := Lib.cell_of_heap hbk6 2
                    have f2 : w6.frozen? ⟨gz + 1, 2, none⟩ = false := by rw [World.frozen?, hbk6]; rfl
                    have g4 := Lib.cell_of_heap hgd6 4
                    obtain ⟨w7, hw7⟩ : ∃ w7, w6.setCell ⟨gz + 1, 2, none⟩ (.int .i64 p2) = w7 := ⟨_, rfl⟩
                    rw [hw7] at hS7 hgd7
                    have g4' := Lib.cell_of_heap hgd7 4
                    have hfin : Hid (∃ s2 aN cN aR cR aA cA aH' cH', Value.slice (some ⟨gA2, 0, none⟩) 0 0 = .slice aA s2.aside.length cA ∧ Value.slice aH Hs.length cH = .slice aH' (hashesOf wd s2).length cH' ∧ Value.int .i64 (x.nx : Int) = .int .i64 (s2.sec : Int) ∧ Hid (Reach R wd s2) ∧ SpecAt (gz + 1) gz (gz + 2) s2.nodes s2.roots s2.aside (hashesOf wd s2) s2.fin aN cN aR cR aA cA aH' cH' w w7) :=
                      ⟨⟨st.nodes ++ st.aside, [], st.roots ++ [x.root], x.nx * 64, x.nx⟩, aN', cN', some ⟨g5, 0, none⟩, c5, some ⟨gA2, 0, none⟩, 0, aH, cH, rfl, by rw [hhs.out], rfl, hre', by rw [hhs.out]; exact hS7⟩
                    clear hbk6 hS6 hgd6 hS7 hgd7 hre' hhs
                    go_wp2_with fail
                    try rw [hw7]
                    go_roundw
                    case rel => exact hfin.out
                    case measure => simp [intOf]; omega
              | false =>
                have hst : stepS R wd st = none := by
                  have hgd : goodC wd st x = false := by unfold goodC; rw [← has_hit, hhit, decide_eq_false hr0]; simp
                  unfold stepS; rw [hx, if_neg hk1, if_neg (fun h => by rw [hgd] at h; exact absurd h.2 (by decide))]
                rw [hhit] at HHs
                replace hr0 : Hid _ := hr0
                replace hv : Hid _ := hv
                replace hqe : Hid _ := hqe
                replace hhit : Hid _ := hhit
                replace hst : Hid _ := hst
                replace hk0 : Hid _ := hk0
                replace hk1 : Hid _ := hk1
                replace hk2 : Hid _ := hk2
                replace hx : Hid _ := hx
                clear hok hI hsec hlt HD HRs
                go_upto_region 15 with (first | (go_at_call 13; refine HHs.out.mono ?_; rintro e w3 ⟨rfl, rfl⟩))
                clear HHs g0 g1 g2 g3 g4 cR1 z7 z7'
                have hE := fun w5 (e5 : ((w2.setCell ⟨gz, 0, none⟩ (.slice aN st.nodes.length cN)).setCell ⟨gz, 1, none⟩ (.slice aR st.roots.length cR)).setCell ⟨gz, 2, none⟩ (.int .i64 (st.fin : Int)) = w5) => hS1.ret hre.out hst.out e5
                replace hE : Hid _ := hE
                have hbk := hS1.blk
                have hzk := hS1.zz
                have c0 := Lib.cell_of_heap hbk 0
                have c1 := Lib.cell_of_heap hbk 1
                have c2 := Lib.cell_of_heap hbk 2
                have d0 := Lib.cell_of_heap hzk 0
                have d1 := Lib.cell_of_heap hzk 1
                have d2 := Lib.cell_of_heap hzk 2
                have fz : ∀ j, w2.frozen? ⟨gz, j, none⟩ = false := fun j => by rw [World.frozen?, hzk]; rfl
                have f0 := fz 0
                have f1 := fz 1
                have f2 := fz 2
                clear fz hbk hzk
                go_wp2_with fail
                obtain ⟨w5, hw5⟩ : ∃ w5, ((w2.setCell ⟨gz, 0, none⟩ (.slice aN st.nodes.length cN)).setCell ⟨gz, 1, none⟩ (.slice aR st.roots.length cR)).setCell ⟨gz, 2, none⟩ (.int .i64 (st.fin : Int)) = w5 := ⟨_, rfl⟩
                obtain ⟨hZ5, hP⟩ := hE.out w5 hw5
                rw [hw5]
                clear hw5 hE c0 c1 c2 d0 d1 d2 f0 f1 f2
                have e0 := Lib.cell_of_heap hZ5 0
                have e1 := Lib.cell_of_heap hZ5 1
                have e2 := Lib.cell_of_heap hZ5 2
                refine bodyPost_ret (v := .agg #[.slice aN st.nodes.length cN, .slice aR st.roots.length cR, .int .i64 (st.fin : Int)]) ?_ rfl hP
                clear hP
                simp [results, Tryz.results4, go_sem, asAddr, e0, e1, e2]
          · have z6 : (x.v != q) = true := by rw [bne_iff_ne]; exact hv
            have hst : stepS R wd st = none := by
              have hgd : goodC wd st x = false := by unfold goodC; rw [decide_eq_false (fun h => hv (h.trans hqe)), Bool.false_and]
              unfold stepS; rw [hx, if_neg hk1, if_neg (fun h => by rw [hgd] at h; exact absurd h.2 (by decide))]
            replace hv : Hid _ := hv
            replace hqe : Hid _ := hqe
            replace hst : Hid _ := hst
            replace hk0 : Hid _ := hk0
            replace hk1 : Hid _ := hk1
            replace hk2 : Hid _ := hk2
            replace hx : Hid _ := hx
            clear hok hI hsec hlt HD HRs
            have hE := fun w5 (e5 : ((w2.setCell ⟨gz, 0, none⟩ (.slice aN st.nodes.length cN)).setCell ⟨gz, 1, none⟩ (.slice aR st.roots.length cR)).setCell ⟨gz, 2, none⟩ (.int .i64 (st.fin : Int)) = w5) => hS1.ret hre.out hst.out e5
            replace hE : Hid _ := hE
            have hbk := hS1.blk
            have hzk := hS1.zz
            have c0 := Lib.cell_of_heap hbk 0
            have c1 := Lib.cell_of_heap hbk 1
            have c2 := Lib.cell_of_heap hbk 2
            have d0 := Lib.cell_of_heap hzk 0
            have d1 := Lib.cell_of_heap hzk 1
            have d2 := Lib.cell_of_heap hzk 2
            have fz : ∀ j, w2.frozen? ⟨gz, j, none⟩ = false := fun j => by rw [World.frozen?, hzk]; rfl
            have f0 := fz 0
            have f1 := fz 1
            have f2 := fz 2
            clear fz hbk hzk
            go_wp2_with fail
            obtain ⟨w5, hw5⟩ : ∃ w5, ((w2.setCell ⟨gz, 0, none⟩ (.slice aN st.nodes.length cN)).setCell ⟨gz, 1, none⟩ (.slice aR st.roots.length cR)).setCell ⟨gz, 2, none⟩ (.int .i64 (st.fin : Int)) = w5 := ⟨_, rfl⟩
            obtain ⟨hZ5, hP⟩ := hE.out w5 hw5
            rw [hw5]
            clear hw5 hE c0 c1 c2 d0 d1 d2 f0 f1 f2
            have e0 := Lib.cell_of_heap hZ5 0
            have e1 := Lib.cell_of_heap hZ5 1
            have e2 := Lib.cell_of_heap hZ5 2
            refine bodyPost_ret (v := .agg #[.slice aN st.nodes.length cN, .slice aR st.roots.length cR, .int .i64 (st.fin : Int)]) ?_ rfl hP
            clear hP
            simp [results, Tryz.results4, go_sem, asAddr, e0, e1, e2]

    · have z3 : decide (p < (s.size : Int)) = false := by rw [decide_eq_false_iff_not]; omega
      replace hp : Hid _ := hp
      clear hq
      have hE := fun w5 (e5 : ((wr.setCell ⟨gz, 0, none⟩ (.slice aN st.nodes.length cN)).setCell ⟨gz, 1, none⟩ (.slice aR st.roots.length cR)).setCell ⟨gz, 2, none⟩ (.int .i64 (st.fin : Int)) = w5) => hS.ret hre.out (step_out hR.out (by omega)) e5
      replace hE : Hid _ := hE
      have hbk := hS.blk
      have hzk := hS.zz
      have c0 := Lib.cell_of_heap hbk 0
      have c1 := Lib.cell_of_heap hbk 1
      have c2 := Lib.cell_of_heap hbk 2
      have d0 := Lib.cell_of_heap hzk 0
      have d1 := Lib.cell_of_heap hzk 1
      have d2 := Lib.cell_of_heap hzk 2
      have fz : ∀ j, wr.frozen? ⟨gz, j, none⟩ = false := fun j => by rw [World.frozen?, hzk]; rfl
      have f0 := fz 0
      have f1 := fz 1
      have f2 := fz 2
      clear fz hbk hzk
      go_wp2_with fail
      obtain ⟨w5, hw5⟩ : ∃ w5, ((wr.setCell ⟨gz, 0, none⟩ (.slice aN st.nodes.length cN)).setCell ⟨gz, 1, none⟩ (.slice aR st.roots.length cR)).setCell ⟨gz, 2, none⟩ (.int .i64 (st.fin : Int)) = w5 := ⟨_, rfl⟩
      obtain ⟨hZ5, hP⟩ := hE.out w5 hw5
      rw [hw5]
      clear hw5 hE c0 c1 c2 d0 d1 d2 f0 f1 f2
      have e0 := Lib.cell_of_heap hZ5 0
      have e1 := Lib.cell_of_heap hZ5 1
      have e2 := Lib.cell_of_heap hZ5 2
      refine bodyPost_ret (v := .agg #[.slice aN st.nodes.length cN, .slice aR st.roots.length cR, .int .i64 (st.fin : Int)]) ?_ rfl hP
      clear hP
      simp [results, Tryz.results4, go_sem, asAddr, e0, e1, e2]
end Go.Proofs.YtliapnhckdimoacGreatDoor
