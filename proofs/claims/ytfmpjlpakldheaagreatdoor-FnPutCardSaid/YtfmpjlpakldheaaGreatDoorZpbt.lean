import Derived.Test.YtfmpjlpakldheaaGreatDoorZpbs
import Derived.Test.YtfmpjlpakldheaaGreatDoorZpbq
set_option maxRecDepth 100000
set_option maxHeartbeats 4000000
namespace Go.Proofs.YtfmpjlpakldheaaGreatDoor
open Tryz
open Go.RowKit Go.Proofs.Sha
theorem retPT2 {fn : Func} {R : Ending -> World -> Prop} {A : Act} {p q : Tmp} {gb : Nat} {n : Int} {a : Option Addr} {m c : Nat} {v2 : Value} {W : World} (hres : fn.results = #[.cell p 37, .tmp q]) (hp : A.tmps.getD p undef = .pointer (some ⟨gb, 0, none⟩)) (hq : A.tmps.getD q undef = v2) (hd : A.defers = []) (hn : W.heap[gb]? = some (.cells #[.int .i64 n, .slice a m c] 37))
 (h : R (.returned (.tuple #[.agg #[.int .i64 n, .slice a m c], v2])) W) : bodyPost prog fn R Exit.ret A W := by
 have c0 := ZC hn 0
 have c1 := ZC hn 1
 have hp' : A.tmps[p]?.getD undef = .pointer (some ⟨gb, 0, none⟩) := by simpa using hp
 have hq' : A.tmps[q]?.getD undef = v2 := by simpa using hq
 refine bodyPost_ret (v := .tuple #[.agg #[.int .i64 n, .slice a m c], v2]) ?_ hd h
 simp [results, hres, go_sem, asAddr, hp', hq', c0, c1]
def TmGot (o : SvO) (w : World) (e : Ending) (w' : World) : Prop := ∃ a c, e = .returned (.tuple #[.agg #[.int .i64 o.n, .slice a o.xs.length c], .string o.root]) /\ SArg a o.xs w' /\ Below w.heap.size w w'
theorem toomany_any (HDg : Hid DigSaid) (o : SvO) (ho : saveO 8 [] (crowd 500) = o) (hsm : SmT o.xs 500 10000) (w : World) : Calls prog 88 #[.int .i64 0] w (TmGot o w) := by
 have HC : Hid (∀ w', Calls prog 60 #[.int .i64 500] w' (PairsAt (crowd 500) w')) := fun w' => crowd_any 500 (by omega) w'
 have hcs : Hid (SmallP (crowd 500)) := (crowd_sm 500).small (by omega)
 have HS : Hid (∀ a2 c2 w', PArg a2 (crowd 500) w' -> 500 <= c2 -> Calls prog 29 #[.agg #[.int .i64 8, .slice none 0 0], .slice a2 500 c2] w' (SavedIs o w')) := fun a2 c2 w' h2 hc => by
  have hl := crowd_len 500
  have := ssave_any HDg 8 none [] 0 a2 (crowd 500) c2 w' ⟨Nat.zero_le _, fun j => Nat.zero_le _, fun q => absurd q (Nat.lt_irrefl _)⟩ (fun j => Nat.zero_le _) h2 (by omega)
  rw [ho, hl] at this
  exact this
 have HT : Hid (∀ a2 c2 w', PArg a2 (crowd 500) w' -> Calls prog 51 #[.slice a2 500 c2] w' fun e w'' => e = .returned (.int .i64 (topTo (crowd 500) 499 : Int)) /\ Below w'.heap.size w' w'') := fun a2 c2 w' h2 => by
  have hl := crowd_len 500
  have := top_any a2 (crowd 500) c2 w' h2 (by omega)
  rw [hl] at this
  exact this
 have hTl : topTo (crowd 500) 499 < 500 := by have := topTo_le (crowd 500) 499; omega
 obtain ⟨T, hT⟩ : ∃ T, topTo (crowd 500) 499 = T := ⟨_, rfl⟩
 rw [hT] at HT hTl
 have hcl : Hid ((crowd 500).length = 500) := crowd_len 500
 generalize crowd 500 = cr at HC HS HT hcs hcl
 clear ho hT
 unfold PairsAt at HC
 rw [hcl.out] at HC
 unfold SavedIs at HS
 obtain ⟨cd, n, ys, root, x, y⟩ := o
 simp only at hsm HS
 obtain ⟨N, hN⟩ : ∃ N, ys.length = N := ⟨_, rfl⟩
 rw [hN] at HS
 have hA : Below w.heap.size w (w.alloc (.cells #[.int .i64 0, .slice none 0 0] 37)) := (Below.refl _ _).alloc (Nat.le_refl _) _
 have nA := heap_alloc_new w (.cells #[.int .i64 0, .slice none 0 0] 37)
 have hgw : w.heap.size <= w.heap.size := Nat.le_refl _
 go_enter func88, ntmps88
 go_upto_region 1 with fail
 generalize w.alloc (.cells #[.int .i64 0, .slice none 0 0] 37) = wA at hA nA ⊢
 obtain ⟨gr, hgr⟩ : ∃ g, w.heap.size = g := ⟨_, rfl⟩
 have hgl : w.heap.size <= gr := Nat.le_of_eq hgr
 rw [hgr] at nA
 try rw [hgr]
 clear hgr hgw
 go_upto_region 2 with (first | (go_at_call 60; refine (HC.out _).mono ?_; rintro e w1 ⟨a1, c1, rfl, hO1⟩))
 have hP1 := ownp_parg hO1 hcs.out
 have hc1 := own2_le hO1.own
 have hb1 := hA.trans (hO1.bel.mono hA.size)
 have nB := pblk_below hO1.bel nA
 clear hO1
 unfold svV at HS
 go_upto_region 3 with (first | (go_at_call 29; refine (HS.out a1 c1 _ hP1 hc1).mono ?_; rintro e w2 ⟨a2, c2, rfl, hO2⟩))
 have al : Below w2.heap.size w2 (w2.alloc (.cells #[.int .i64 cd, .int .i64 n, .slice a2 N c2, .string root, .string x, .string y] 40)) := (Below.refl _ _).alloc (Nat.le_refl _) _
 have nS := heap_alloc_new w2 (.cells #[.int .i64 cd, .int .i64 n, .slice a2 N c2, .string root, .string x, .string y] 40)
 have hb12 : Below w1.heap.size w1 (w2.alloc (.cells #[.int .i64 cd, .int .i64 n, .slice a2 N c2, .string root, .string x, .string y] 40)) := hO2.bel.trans (al.mono hO2.bel.size)
 have nC := pblk_below hb12 nB
 have hP3 := hP1.below hb12
 have hb3 := hb1.trans (hb12.mono hb1.size)
 have hS3 : SArg a2 ys (w2.alloc (.cells #[.int .i64 cd, .int .i64 n, .slice a2 N c2, .string root, .string x, .string y] 40)) := by
  have h1 := hO2
  rw [<- hN] at h1
  exact (h1.sarg hsm (by omega) (by omega)).below al
 have hne : gr ≠ w2.heap.size := by
  have h1 := (Array.getElem?_eq_some_iff.1 nB).1
  have := hO2.bel.size
  omega
 generalize w2.alloc (.cells #[.int .i64 cd, .int .i64 n, .slice a2 N c2, .string root, .string x, .string y] 40) = w3 at nS nC hP3 hb3 hS3 ⊢
 obtain ⟨gs, hgs⟩ : ∃ g, w2.heap.size = g := ⟨_, rfl⟩
 rw [hgs] at nS hne
 try rw [hgs]
 clear hgs al hO2 hb12 hP1 hb1 nB nA hA HS HC
 obtain ⟨b1, off1, rfl, hbl1, hc⟩ := hP3.at_ (by rw [hcl.out]; omega)
 obtain ⟨hcT, _⟩ := hc T (by rw [hcl.out]; exact hTl)
 have t0 : (0 : Int) <= (T : Int) := Int.natCast_nonneg _
 have t1 : (T : Int) < 500 := by omega
 generalize (cr.getD T noPair).1 = kt at hcT
 clear hc
 go_upto_region 5 with (first | (go_at_call 51; refine (HT.out _ c1 _ hP3).mono ?_; rintro e w4 ⟨rfl, hb4⟩; have hcT4 := (hb4.cell (p := ⟨b1, off1 + T * 2, none⟩) hbl1).trans hcT))
 have nS4 := (hb4.block gs (Array.getElem?_eq_some_iff.1 nS).1).trans nS
 have nR4 := pblk_below hb4 nC
 have hb5 := hb3.trans (hb4.mono hb3.size)
 have hS4 := hS3.below hb4
 clear nS nC hb4 hb3 hS3 hP3 hcT hcT4
 have s1 := ZC nS4 1
 have s2 := ZC nS4 2
 have s3 := ZC nS4 3
 have r0 := ZC nR4 0
 have r1 := ZC nR4 1
 have rf : ∀ j, w4.frozen? ⟨gr, j, none⟩ = false := fun j => by rw [World.frozen?, nR4]; rfl
 go_region
 have m0 := heap_setCell_same w4 gr 0 _ 37 (.int .i64 n) nR4
 have m1 := heap_setCell_same _ gr 1 _ 37 (.slice a2 N c2) m0
 have hS6 := (hS4.set37 nR4 (o := 0) (.int .i64 n)).set37 m0 (o := 1) (.slice a2 N c2)
 have hb6 := (hb5.setCell (p := ⟨gr, 0, none⟩) hgl (.int .i64 n)).setCell (p := ⟨gr, 1, none⟩) hgl (.slice a2 N c2)
 generalize (w4.setCell ⟨gr, 0, none⟩ (.int .i64 n)).setCell ⟨gr, 1, none⟩ (.slice a2 N c2) = wF at m1 hS6 hb6 ⊢
 have hdr : Below wF.heap.size wF wF.drew := draws_below 1 (Below.refl _ _)
 have m2 := pblk_below hdr m1
 have hfin : Hid (TmGot ⟨cd, n, ys, root, x, y⟩ w (.returned (.tuple #[.agg #[.int .i64 n, .slice a2 N c2], .string root])) wF.drew) := ⟨a2, c2, by rw [hN], hS6.below hdr, hb6.trans (hdr.mono hb6.size)⟩
 generalize wF.drew = wG at m2 hfin ⊢
 go_wp2_with fail
 exact retPT2 Tryz.results88 rfl rfl rfl m2 hfin.out
theorem AP.fin2 {w : World} {gr gq : Nat} {n : Int} {ss roots : List ByteArray} {ap : Option Addr} {cp : Nat} {ar : Option Addr} {W : World} (h : AP w gr gq n ss roots ap cp ar W) (root lo hi : ByteArray) : RGot n ss root lo hi w (.returned (.tuple #[.agg #[.int .i64 n, .slice ap ss.length cp], .string root, .string lo, .string hi])) ((W.setCell ⟨gr, 0, none⟩ (.int .i64 n)).setCell ⟨gr, 1, none⟩ (.slice ap ss.length cp)) := by
 have m0 := heap_setCell_same W gr 0 _ 37 (.int .i64 n) h.res
 exact ⟨ap, cp, rfl, (h.parg.set37 h.res _).set37 m0 _, (h.bel.setCell (p := ⟨gr, 0, none⟩) h.ge _).setCell (p := ⟨gr, 1, none⟩) h.ge _⟩
theorem dput_all (a : Option Addr) (xs : List Nat) (cap x z : Nat) (n : Int) (ss roots : List ByteArray) (root key val : ByteArray) (hz : z <= 100000)
 (HT : ∀ w, BL a xs w -> Calls prog 41 #[.slice a xs.length cap, .int .i64 0, .int .i64 16] w fun e w' => e = .returned (.tuple #[.int .i64 (x : Int), .int .i64 1]) /\ Below w.heap.size w w')
 (HP : ∀ w, BL a xs w -> Calls prog 71 #[.slice a xs.length cap, .int .i64 1] w (AGot n ss roots root z w))
 (HKy : ∀ w, BL a xs w -> Calls prog 86 #[.slice a xs.length cap, .int .i64 (z : Int)] w fun e w' => e = .returned (.tuple #[.string key, .int .i64 ((z + 1 : Nat) : Int)]) /\ Below w.heap.size w w')
 (HVl : ∀ w, BL a xs w -> Calls prog 87 #[.slice a xs.length cap, .int .i64 ((z + 1 : Nat) : Int)] w fun e w' => e = .returned (.tuple #[.string val, .int .i64 ((z + 3 : Nat) : Int)]) /\ Below w.heap.size w w') (o : SvO) (HTm : ∀ w, Calls prog 88 #[.int .i64 0] w (TmGot o w)) (n2 : Int) (ss2 : List ByteArray) (root2 key2 val2 : ByteArray)
 (hcs : (((x < 13 \/ x = 13 /\ xs.length <= 40) /\ key2 = key /\ val2 = val \/ x = 14 /\ key2 = reps (257 * ((z + 3) % 2)) 107 /\ val2 = val \/ x = 15 /\ key2 = key /\ val2 = reps (2000 + (z + 3) % 2) 118) /\ n2 = n /\ ss2 = ss /\ root2 = root) \/ (x = 13 /\ 40 < xs.length /\ n2 = o.n /\ ss2 = o.xs /\ root2 = o.root /\ val2 = val /\ ((z + 3) % 2 = 0 /\ key2 = (⟨#[97, 49, 49]⟩ : ByteArray) \/ (z + 3) % 2 = 1 /\ key2 = key))) :
 ∀ w, BL a xs w -> Calls prog 37 #[.slice a xs.length cap] w (RGot n2 ss2 root2 key2 val2 w) := by
 intro w hB
 have HT' : Hid (∀ w', Below w.heap.size w w' -> Calls prog 41 #[.slice a xs.length cap, .int .i64 0, .int .i64 16] w' fun e w'' => e = .returned (.tuple #[.int .i64 (x : Int), .int .i64 1]) /\ Below w'.heap.size w' w'') := fun w' hb => HT w' (hB.below hb)
 have HP' : Hid (∀ w', Below w.heap.size w w' -> Calls prog 71 #[.slice a xs.length cap, .int .i64 1] w' (AGot n ss roots root z w')) := fun w' hb => HP w' (hB.below hb)
 have HK' : Hid (∀ w', Below w.heap.size w w' -> Calls prog 86 #[.slice a xs.length cap, .int .i64 (z : Int)] w' fun e w'' => e = .returned (.tuple #[.string key, .int .i64 ((z + 1 : Nat) : Int)]) /\ Below w'.heap.size w' w'') := fun w' hb => HKy w' (hB.below hb)
 have HV' : Hid (∀ w', Below w.heap.size w w' -> Calls prog 87 #[.slice a xs.length cap, .int .i64 ((z + 1 : Nat) : Int)] w' fun e w'' => e = .returned (.tuple #[.string val, .int .i64 ((z + 3 : Nat) : Int)]) /\ Below w'.heap.size w' w'') := fun w' hb => HVl w' (hB.below hb)
 unfold AGot at HP'
 clear HT HP HKy HVl hB
 obtain ⟨L, hLL⟩ : ∃ L, xs.length = L := ⟨_, rfl⟩
 rw [hLL] at HT' HP' HK' HV' hcs ⊢
 obtain ⟨q1, hq1⟩ : ∃ q, z + 1 = q := ⟨_, rfl⟩
 rw [hq1] at HK' HV'
 obtain ⟨q3, hq3⟩ : ∃ q, z + 3 = q := ⟨_, rfl⟩
 rw [hq3] at HV'
 have hq3b : q3 <= 100003 := by omega
 clear hLL hq1
 obtain ⟨N, hN⟩ : ∃ N, ss.length = N := ⟨_, rfl⟩
 rw [hN] at HP'
 obtain ⟨R, hRn⟩ : ∃ R, roots.length = R := ⟨_, rfl⟩
 rw [hRn] at HP'
 have hA : Below w.heap.size w (w.alloc (.cells #[.int .i64 0, .slice none 0 0] 37)) := (Below.refl _ _).alloc (Nat.le_refl _) _
 have nA := heap_alloc_new w (.cells #[.int .i64 0, .slice none 0 0] 37)
 have hgw : w.heap.size <= w.heap.size := Nat.le_refl _
 have ym : (q3 : Int).tmod 2 = ((q3 % 2 : Nat) : Int) := by rw [Int.tmod_eq_emod_of_nonneg (by omega)]; omega
 have hm2 : q3 % 2 < 2 := Nat.mod_lt _ (by omega)
 obtain ⟨r, hr⟩ : ∃ r, q3 % 2 = r := ⟨_, rfl⟩
 rw [hr] at ym hm2
 have HTm' : Hid (∀ w', Calls prog 88 #[.int .i64 0] w' fun e w'' => ∃ a c, e = .returned (.tuple #[.agg #[.int .i64 o.n, .slice a o.xs.length c], .string o.root]) /\ SArg a o.xs w'' /\ Below w'.heap.size w' w'') := HTm
 clear HTm
 rw [hq3, hr] at hcs
 have hch : Hid _ := hcs
 clear hcs
 obtain ⟨cd, no, yo, ro, xo, zo⟩ := o
 simp only at HTm'
 obtain ⟨No, hNo⟩ : ∃ N, yo.length = N := ⟨_, rfl⟩
 rw [hNo] at HTm'
 go_enter func37, ntmps37
 go_upto_region 1 with fail
 generalize w.alloc (.cells #[.int .i64 0, .slice none 0 0] 37) = wA at hA nA ⊢
 obtain ⟨gr, hgr⟩ : ∃ g, w.heap.size = g := ⟨_, rfl⟩
 have hgl : w.heap.size <= gr := Nat.le_of_eq hgr
 rw [hgr] at nA
 try rw [hgr]
 clear hgr hgw
 go_upto_region 2 with (first | (go_at_call 41; refine (HT'.out _ hA).mono ?_; rintro e w1 ⟨rfl, hb1⟩; have hbw1 := hA.trans (hb1.mono hA.size)))
 have nB := pblk_below hb1 nA
 go_upto_region 3 with (first | (go_at_call 71; refine (HP'.out _ hbw1).mono ?_; rintro e w2 ⟨ap, cp, ar, cr, rfl, hS2, hR2, hb2⟩))
 have al : Below w2.heap.size w2 (w2.alloc (.cells #[.int .i64 n, .slice ap N cp] 37)) := (Below.refl _ _).alloc (Nat.le_refl _) _
 have hbw2 := hbw1.trans (hb2.mono hbw1.size)
 have nC := pblk_below hb2 nB
 have hAP : AP w gr w2.heap.size n ss roots ap cp ar (w2.alloc (.cells #[.int .i64 n, .slice ap N cp] 37)) := by
  refine ⟨pblk_below al nC, by rw [hN]; exact heap_alloc_new w2 _, ?_, hgl, hbw2.size, hS2.below al, hR2.below al, hbw2.trans (al.mono hbw2.size)⟩
  have := (Array.getElem?_eq_some_iff.1 nC).1
  omega
 generalize w2.alloc (.cells #[.int .i64 n, .slice ap N cp] 37) = w3 at hAP ⊢
 obtain ⟨gq, hgq⟩ : ∃ g, w2.heap.size = g := ⟨_, rfl⟩
 rw [hgq] at hAP
 try rw [hgq]
 clear hgq al hS2 hR2 hb2 nC nB nA hb1 hbw1 hbw2 hA HT' HP'
 go_upto_region 4 with (first | (go_at_call 86; refine (HK'.out _ hAP.bel).mono ?_; rintro e w4 ⟨rfl, hb4⟩))
 have hP4 := hAP.below hb4
 clear hAP hb4 HK'
 go_upto_region 5 with (first | (go_at_call 87; refine (HV'.out _ hP4.bel).mono ?_; rintro e w5 ⟨rfl, hb5⟩))
 have hP5 := hP4.below hb5
 clear hP4 hb5 HV'
 rcases hch.out with ⟨hcs, e1, e2, e3⟩ | ⟨hx, hxl, e1, e2, e3, e5, hdk⟩
 · rcases hcs with ⟨hx, e4, e5⟩ | ⟨hx, e4, e5⟩ | ⟨hx, e4, e5⟩
   · have he1 : Hid _ := e1
     clear e1
     have he2 : Hid _ := e2
     clear e2
     have he3 : Hid _ := e3
     clear e3
     have he4 : Hid _ := e4
     clear e4
     have he5 : Hid _ := e5
     clear e5
     rcases hx with hx | ⟨hx, hxl⟩
     · have z13 : ((x : Int) == 13) = false := by simp; omega
       have z14 : ((x : Int) == 14) = false := by simp; omega
       have z15 : ((x : Int) == 15) = false := by simp; omega
       clear hx
       have c0 := ZC hP5.pool 0
       have c1 := ZC hP5.pool 1
       rw [hN] at c0 c1
       have hfin : Hid (RGot _ ss root key val w _ _) := hP5.fin2 root key val
       have m1 := hP5.m1
       rw [hN] at hfin
       rw [hN] at m1
       have e0 := ZC hP5.res 0
       have e1 := ZC hP5.res 1
       have ef : ∀ j, w5.frozen? ⟨gr, j, none⟩ = false := fun j => by rw [World.frozen?, hP5.res]; rfl
       clear hP5
       go_wp2_with fail
       exact retPT4 Tryz.results37 rfl rfl rfl rfl rfl m1 (by rw [he1.out, he2.out, he3.out, he4.out, he5.out]; exact hfin.out)
     · have z13 : ((x : Int) == 13) = true := by simp; omega
       have z14 : ((x : Int) == 14) = false := by simp; omega
       have z15 : ((x : Int) == 15) = false := by simp; omega
       have zl : decide ((40 : Int) < (L : Int)) = false := by simp; omega
       have zl' : decide (40 < L) = false := by simp; omega
       clear hx hxl
       have c0 := ZC hP5.pool 0
       have c1 := ZC hP5.pool 1
       rw [hN] at c0 c1
       have hfin : Hid (RGot _ ss root key val w _ _) := hP5.fin2 root key val
       have m1 := hP5.m1
       rw [hN] at hfin
       rw [hN] at m1
       have e0 := ZC hP5.res 0
       have e1 := ZC hP5.res 1
       have ef : ∀ j, w5.frozen? ⟨gr, j, none⟩ = false := fun j => by rw [World.frozen?, hP5.res]; rfl
       clear hP5
       go_wp2_with fail
       exact retPT4 Tryz.results37 rfl rfl rfl rfl rfl m1 (by rw [he1.out, he2.out, he3.out, he4.out, he5.out]; exact hfin.out)
   · have he1 : Hid _ := e1
     clear e1
     have he2 : Hid _ := e2
     clear e2
     have he3 : Hid _ := e3
     clear e3
     have he4 : Hid _ := e4
     clear e4
     have he5 : Hid _ := e5
     clear e5
     have yw : IntKind.i64.wrap (257 * (r : Int)) = ((257 * r : Nat) : Int) := by rw [wrap_i64_in _ (by omega) (by omega)]; omega
     have HL : Hid (∀ w', Calls prog 89 #[.int .i64 ((257 * r : Nat) : Int), .string ⟨#[107]⟩] w' fun e w'' => e = .returned (.string (reps (257 * r) 107)) /\ Below w'.heap.size w' w'') := fun w' => long_d 107 _ (257 * r) rfl (by omega) w'
     obtain ⟨r2, hr2⟩ : ∃ q, 257 * r = q := ⟨_, rfl⟩
     rw [hr2] at yw HL
     have z13 : ((x : Int) == 13) = false := by simp; omega
     have z14 : ((x : Int) == 14) = true := by simp; omega
     have z15 : ((x : Int) == 15) = false := by simp; omega
     clear hx
     go_upto_region 12 with (first | (go_at_call 89; refine (HL.out _).mono ?_; rintro e w6 ⟨rfl, hb6⟩))
     have hP6 := hP5.below hb6
     clear hP5 hb6 HL
     have c0 := ZC hP6.pool 0
     have c1 := ZC hP6.pool 1
     rw [hN] at c0 c1
     have hfin : Hid (RGot _ ss root (reps r2 107) val w _ _) := hP6.fin2 root (reps r2 107) val
     have m1 := hP6.m1
     rw [hN] at hfin
     rw [hN] at m1
     have e0 := ZC hP6.res 0
     have e1 := ZC hP6.res 1
     have ef : ∀ j, w6.frozen? ⟨gr, j, none⟩ = false := fun j => by rw [World.frozen?, hP6.res]; rfl
     clear hP6
     go_wp2_with fail
     exact retPT4 Tryz.results37 rfl rfl rfl rfl rfl m1 (by rw [he1.out, he2.out, he3.out, he4.out, he5.out, hr2]; exact hfin.out)
   · have he1 : Hid _ := e1
     clear e1
     have he2 : Hid _ := e2
     clear e2
     have he3 : Hid _ := e3
     clear e3
     have he4 : Hid _ := e4
     clear e4
     have he5 : Hid _ := e5
     clear e5
     have yw : IntKind.i64.wrap (2000 + (r : Int)) = ((2000 + r : Nat) : Int) := by rw [wrap_i64_in _ (by omega) (by omega)]; omega
     have HL : Hid (∀ w', Calls prog 89 #[.int .i64 ((2000 + r : Nat) : Int), .string ⟨#[118]⟩] w' fun e w'' => e = .returned (.string (reps (2000 + r) 118)) /\ Below w'.heap.size w' w'') := fun w' => long_d 118 _ (2000 + r) rfl (by omega) w'
     obtain ⟨r2, hr2⟩ : ∃ q, 2000 + r = q := ⟨_, rfl⟩
     rw [hr2] at yw HL
     have z13 : ((x : Int) == 13) = false := by simp; omega
     have z14 : ((x : Int) == 14) = false := by simp; omega
     have z15 : ((x : Int) == 15) = true := by simp; omega
     clear hx
     go_upto_region 14 with (first | (go_at_call 89; refine (HL.out _).mono ?_; rintro e w6 ⟨rfl, hb6⟩))
     have hP6 := hP5.below hb6
     clear hP5 hb6 HL
     have c0 := ZC hP6.pool 0
     have c1 := ZC hP6.pool 1
     rw [hN] at c0 c1
     have hfin : Hid (RGot _ ss root key (reps r2 118) w _ _) := hP6.fin2 root key (reps r2 118)
     have m1 := hP6.m1
     rw [hN] at hfin
     rw [hN] at m1
     have e0 := ZC hP6.res 0
     have e1 := ZC hP6.res 1
     have ef : ∀ j, w6.frozen? ⟨gr, j, none⟩ = false := fun j => by rw [World.frozen?, hP6.res]; rfl
     clear hP6
     go_wp2_with fail
     exact retPT4 Tryz.results37 rfl rfl rfl rfl rfl m1 (by rw [he1.out, he2.out, he3.out, he4.out, he5.out, hr2]; exact hfin.out)
 · have he1 : Hid _ := e1
   clear e1
   have he2 : Hid _ := e2
   clear e2
   have he3 : Hid _ := e3
   clear e3
   have he5 : Hid _ := e5
   clear e5
   have hdkh : Hid _ := hdk
   clear hdk
   have z13 : ((x : Int) == 13) = true := by simp; omega
   have z14 : ((x : Int) == 14) = false := by simp; omega
   have z15 : ((x : Int) == 15) = false := by simp; omega
   have zl : decide ((40 : Int) < (L : Int)) = true := by simp; omega
   have zl' : decide (40 < L) = true := by simp; omega
   clear hx hxl
   go_upto_region 7 with (first | (go_at_call 88; refine (HTm'.out _).mono ?_; rintro e w6 ⟨a6, c6, rfl, hS6, hb6⟩))
   have al : Below w6.heap.size w6 (w6.alloc (.cells #[.int .i64 no, .slice a6 No c6] 37)) := (Below.refl _ _).alloc (Nat.le_refl _) _
   have hb5w := hP5.bel
   have hbw6 := hb5w.trans (hb6.mono hb5w.size)
   have nR6 := pblk_below hb6 hP5.res
   have hQ : AP w gr w6.heap.size no yo yo a6 c6 a6 (w6.alloc (.cells #[.int .i64 no, .slice a6 No c6] 37)) := by
    refine ⟨pblk_below al nR6, by rw [hNo]; exact heap_alloc_new w6 _, ?_, hgl, hbw6.size, hS6.below al, hS6.below al, hbw6.trans (al.mono hbw6.size)⟩
    have := (Array.getElem?_eq_some_iff.1 nR6).1
    omega
   generalize w6.alloc (.cells #[.int .i64 no, .slice a6 No c6] 37) = w7 at hQ ⊢
   obtain ⟨g6, hg6⟩ : ∃ g, w6.heap.size = g := ⟨_, rfl⟩
   rw [hg6] at hQ
   try rw [hg6]
   clear hg6 al hS6 hb6 nR6 hP5 hb5w hbw6 HTm'
   rcases hdkh.out with ⟨hpar, e4⟩ | ⟨hpar, e4⟩
   · have zr : ((r : Int) == 0) = true := by simp; omega
     have he4 : Hid _ := e4
     clear e4 hpar
     have c0 := ZC hQ.pool 0
     have c1 := ZC hQ.pool 1
     rw [hNo] at c0 c1
     have hfin : Hid (RGot _ yo ro (⟨#[97, 49, 49]⟩ : ByteArray) val w _ _) := hQ.fin2 ro (⟨#[97, 49, 49]⟩ : ByteArray) val
     have m1 := hQ.m1
     rw [hNo] at hfin
     rw [hNo] at m1
     have e0 := ZC hQ.res 0
     have e1 := ZC hQ.res 1
     have ef : ∀ j, w7.frozen? ⟨gr, j, none⟩ = false := fun j => by rw [World.frozen?, hQ.res]; rfl
     clear hQ
     go_wp2_with fail
     exact retPT4 Tryz.results37 rfl rfl rfl rfl rfl m1 (by rw [he1.out, he2.out, he3.out, he4.out, he5.out]; exact hfin.out)
   · have zr : ((r : Int) == 0) = false := by simp; omega
     have he4 : Hid _ := e4
     clear e4 hpar
     have c0 := ZC hQ.pool 0
     have c1 := ZC hQ.pool 1
     rw [hNo] at c0 c1
     have hfin : Hid (RGot _ yo ro key val w _ _) := hQ.fin2 ro key val
     have m1 := hQ.m1
     rw [hNo] at hfin
     rw [hNo] at m1
     have e0 := ZC hQ.res 0
     have e1 := ZC hQ.res 1
     have ef : ∀ j, w7.frozen? ⟨gr, j, none⟩ = false := fun j => by rw [World.frozen?, hQ.res]; rfl
     clear hQ
     go_wp2_with fail
     exact retPT4 Tryz.results37 rfl rfl rfl rfl rfl m1 (by rw [he1.out, he2.out, he3.out, he4.out, he5.out]; exact hfin.out)
end Go.Proofs.YtfmpjlpakldheaaGreatDoor
