import Derived.Test.YtfmpjlpakldheaaGreatDoorZpbp
import Derived.Test.YtfmpjlpakldheaaGreatDoorZpbq
import Derived.Test.YtfmpjlpakldheaaGreatDoorZpbr
import Derived.Test.YtfmpjlpakldheaaGreatDoorZpbn
import Derived.Test.YtfmpjlpakldheaaGreatDoorZpbm
set_option maxRecDepth 100000
set_option maxHeartbeats 8000000
namespace Go.Proofs.YtfmpjlpakldheaaGreatDoor
open Tryz
open Go.RowKit Go.Proofs.Sha
theorem SavedIs.sarg {o : SvO} {w w' : World} {e : Ending} {n s : Nat} (hs : SmT o.xs n s) (hn : n <= 1048576) (hz : s <= 1048576) (h : SavedIs o w e w') : ∃ a c, e = .returned (svV o.cd o.n a o.xs.length c o.root o.x o.y) /\ SArg a o.xs w' /\ Below w.heap.size w w' := by
 obtain ⟨a, c, he, ho⟩ := h
 exact ⟨a, c, he, ho.sarg hs hn hz, ho.bel⟩
structure PutRest (n n' : Int) (ss ys : List ByteArray) (root key val R : ByteArray) (old nxt : List PairT) (bcd bn : Int) (bs : List ByteArray) (br bx bz : ByteArray) : Prop where
 ip : ∀ w ap cp, SArg ap ss w -> KT w -> Calls prog 17 #[.agg #[.int .i64 n, .slice ap ss.length cp], .string root, .string key, .string (val ++ ⟨#[43]⟩)] w fun e w' => (∃ v, e = .returned v) /\ Below w.heap.size w w'
 l1 : ∀ w ap cp, SArg ap ys w -> KT w -> Calls prog 21 #[.agg #[.int .i64 n', .slice ap ys.length cp], .string R] w (RangeAt (nxt, 0) w)
 l2 : ∀ w ap cp, SArg ap ys w -> KT w -> Calls prog 21 #[.agg #[.int .i64 n', .slice ap ys.length cp], .string root] w (RangeAt (old, 0) w)
 dl : ∀ w ap cp, SArg ap ys w -> KT w -> Calls prog 19 #[.agg #[.int .i64 n', .slice ap ys.length cp], .string R, .string key] w (SavedIs ⟨bcd, bn, bs, br, bx, bz⟩ w)
 nx : nxt = wth old key val
 sm : SmallP nxt
 bk : (bcd = 0 /\ br = rootS (wout old key) n) \/ (bcd = 4 /\ bx ≠ bz /\ ∃ dg, (∀ w', Calls prog 14 #[.string bx, .int .i64 n] w' fun e w'' => e = .returned (.string dg) /\ Below w'.heap.size w' w'') /\ (∀ w', Calls prog 14 #[.string bz, .int .i64 n] w' fun e w'' => e = .returned (.string dg) /\ Below w'.heap.size w' w''))
theorem put_all (a : Option Addr) (xs : List Nat) (cap : Nat) (n cd n' oc : Int) (ss ys : List ByteArray) (root key val R x' y' : ByteArray) (old : List PairT) (nxt : List PairT) (bcd bn : Int) (bs : List ByteArray) (br bx bz : ByteArray) (w : World) (hL : xs.length <= 1048576) (hB : BL a xs w) (hK : KT w)
 (HDw : ∀ w, BL a xs w -> Calls prog 37 #[.slice a xs.length cap] w (RGot n ss root key val w))
 (HLd : ∀ w ap cp, SArg ap ss w -> Calls prog 26 #[.agg #[.int .i64 n, .slice ap ss.length cp], .string root] w (RangeAt (old, oc) w))
 (HSP : ∀ w ap cp, SArg ap ss w -> Calls prog 38 #[.agg #[.int .i64 n, .slice ap ss.length cp], .string root, .string key, .string val] w (SavedIs ⟨cd, n', ys, R, x', y'⟩ w))
 (HIP : ∀ w ap cp, SArg ap ss w -> KT w -> Calls prog 17 #[.agg #[.int .i64 n, .slice ap ss.length cp], .string root, .string key, .string val] w (SavedIs ⟨cd, n', ys, R, x', y'⟩ w))
 (hos : SmallP old) (hys : SmT ys 20000 20000) (hks : key.size <= 1048576) (hvs : val.size <= 2001) (hg : cd = 0 -> oc = 0 -> old.length <= 100 -> PutRest n n' ss ys root key val R old nxt bcd bn bs br bx bz) :
 Calls prog 8 #[.slice a xs.length cap] w fun e w' => e = .returned (.bool true) /\ Below w.heap.size w w' := by
 have H1 : Hid (∀ w', Below w.heap.size w w' -> Calls prog 37 #[.slice a xs.length cap] w' (RGot n ss root key val w')) := fun w' hb => HDw w' (hB.below hb)
 unfold RGot at H1
 have z0 : decide ((1048576 : Int) < (xs.length : Int)) = false := by simp; omega
 obtain ⟨L, hLL⟩ : ∃ L, xs.length = L := ⟨_, rfl⟩
 rw [hLL] at H1 z0 hL ⊢
 clear hLL
 obtain ⟨N, hN⟩ : ∃ N, ss.length = N := ⟨_, rfl⟩
 rw [hN] at H1 HLd HSP HIP
 clear HDw
 obtain ⟨M, hM⟩ : ∃ M, ys.length = M := ⟨_, rfl⟩
 obtain ⟨Mo, hMo⟩ : ∃ M, old.length = M := ⟨_, rfl⟩
 have JLd : Hid (∀ w' ap cp, SArg ap ss w' -> Calls prog 26 #[.agg #[.int .i64 n, .slice ap N cp], .string root] w' fun e w'' => ∃ a c, e = .returned (.tuple #[.slice a Mo c, .int .i64 oc]) /\ PArg a old w'' /\ Below w'.heap.size w' w'') := fun w' ap cp h => (HLd w' ap cp h).mono fun e w'' q => by have := q.parg hos; simp only [hMo] at this; exact this
 have JSP : Hid (∀ w' ap cp, SArg ap ss w' -> Calls prog 38 #[.agg #[.int .i64 n, .slice ap N cp], .string root, .string key, .string val] w' fun e w'' => ∃ a c, e = .returned (.agg #[.int .i64 cd, .int .i64 n', .slice a M c, .string R, .string x', .string y']) /\ SArg a ys w'' /\ Below w'.heap.size w' w'') := fun w' ap cp h => (HSP w' ap cp h).mono fun e w'' q => by have := q.sarg (n := 20000) (s := 20000) hys (by omega) (by omega); simp only [hM] at this; exact this
 have JIP : Hid (∀ w' ap cp, SArg ap ss w' -> KT w' -> Calls prog 17 #[.agg #[.int .i64 n, .slice ap N cp], .string root, .string key, .string val] w' fun e w'' => ∃ a c, e = .returned (.agg #[.int .i64 cd, .int .i64 n', .slice a M c, .string R, .string x', .string y']) /\ SArg a ys w'' /\ Below w'.heap.size w' w'') := fun w' ap cp h hk => (HIP w' ap cp h hk).mono fun e w'' q => by have := q.sarg (n := 20000) (s := 20000) hys (by omega) (by omega); simp only [hM] at this; exact this
 have hKh : Hid (KT w) := hK
 have hgh : Hid (cd = 0 -> oc = 0 -> old.length <= 100 -> PutRest n n' ss ys root key val R old nxt bcd bn bs br bx bz) := hg
 clear hg
 clear HLd HSP HIP hK hB
 go_enter func8, ntmps8
 go_upto_region 4 with (first | (go_at_call 37; refine (H1.out _ (Below.refl _ _)).mono ?_; rintro e w1 ⟨ap1, cp1, rfl, hS1, hb1⟩))
 have al : Below w1.heap.size w1 (w1.alloc (.cells #[.int .i64 n, .slice ap1 N cp1] 37)) := (Below.refl _ _).alloc (Nat.le_refl _) _
 have nA := heap_alloc_new w1 (.cells #[.int .i64 n, .slice ap1 N cp1] 37)
 have hSA := hS1.below al
 have hbA := hb1.trans (al.mono hb1.size)
 generalize w1.alloc (.cells #[.int .i64 n, .slice ap1 N cp1] 37) = wA at nA hSA hbA ⊢
 obtain ⟨gp, hgp⟩ : ∃ g, w1.heap.size = g := ⟨_, rfl⟩
 rw [hgp] at nA
 try rw [hgp]
 clear hgp al hS1 hb1
 go_upto_region 5 with (first | (go_at_call 37; refine (H1.out _ hbA).mono ?_; rintro e w2 ⟨ap2, cp2, rfl, hS2, hb2⟩))
 have al : Below w2.heap.size w2 (w2.alloc (.cells #[.int .i64 n, .slice ap2 N cp2] 37)) := (Below.refl _ _).alloc (Nat.le_refl _) _
 have hbAB := hb2.trans (al.mono hb2.size)
 have nQ := heap_alloc_new w2 (.cells #[.int .i64 n, .slice ap2 N cp2] 37)
 have nP := pblk_below hbAB nA
 have hSq := hS2.below al
 have hSp := hSA.below hbAB
 have hbB := hbA.trans (hbAB.mono hbA.size)
 generalize w2.alloc (.cells #[.int .i64 n, .slice ap2 N cp2] 37) = wB at nQ nP hSq hSp hbB ⊢
 obtain ⟨gq, hgq⟩ : ∃ g, w2.heap.size = g := ⟨_, rfl⟩
 rw [hgq] at nQ
 try rw [hgq]
 clear hgq al hS2 hb2 hSA hbA hbAB nA H1
 have hKB : Hid (KT wB) := hKh.out.below hbB
 clear hKh
 have q0 := ZC nQ 0
 have q1 := ZC nQ 1
 go_upto_region 6 with (first | (go_at_call 26; refine (JLd.out _ ap2 cp2 hSq).mono ?_; rintro e w3 ⟨a3, c3, rfl, hP3, hb3⟩))
 clear q0 q1 JLd
 have nQ3 := pblk_below hb3 nQ
 have q0 := ZC nQ3 0
 have q1 := ZC nQ3 1
 go_upto_region 7 with (first | (go_at_call 38; refine (JSP.out _ ap2 cp2 (hSq.below hb3)).mono ?_; rintro e w4 ⟨a4, c4, rfl, hS4, hb4'⟩))
 have al : Below w4.heap.size w4 (w4.alloc (.cells #[.int .i64 cd, .int .i64 n', .slice a4 M c4, .string R, .string x', .string y'] 40)) := (Below.refl _ _).alloc (Nat.le_refl _) _
 have nW := heap_alloc_new w4 (.cells #[.int .i64 cd, .int .i64 n', .slice a4 M c4, .string R, .string x', .string y'] 40)
 have hb34 : Below w3.heap.size w3 (w4.alloc (.cells #[.int .i64 cd, .int .i64 n', .slice a4 M c4, .string R, .string x', .string y'] 40)) := hb4'.trans (al.mono hb4'.size)
 have hb5 := hb3.trans (hb34.mono hb3.size)
 have hP5 := hP3.below hb34
 have hS5 := hS4.below al
 generalize w4.alloc (.cells #[.int .i64 cd, .int .i64 n', .slice a4 M c4, .string R, .string x', .string y'] 40) = w5 at nW hb5 hP5 hS5 ⊢
 obtain ⟨gw, hgw⟩ : ∃ g, w4.heap.size = g := ⟨_, rfl⟩
 rw [hgw] at nW
 try rw [hgw]
 clear hgw al hS4 hb4' hb34 hP3 hb3 q0 q1 nQ3 JSP
 have nP5 := pblk_below hb5 nP
 have p0 := ZC nP5 0
 have p1 := ZC nP5 1
 go_upto_region 8 with (first | (go_at_call 17; refine (JIP.out _ ap1 cp1 (hSp.below hb5) (hKB.out.below hb5)).mono ?_; rintro e w6 ⟨a6, c6, rfl, hS6, hb6'⟩))
 have al : Below w6.heap.size w6 (w6.alloc (.cells #[.int .i64 cd, .int .i64 n', .slice a6 M c6, .string R, .string x', .string y'] 40)) := (Below.refl _ _).alloc (Nat.le_refl _) _
 have nS := heap_alloc_new w6 (.cells #[.int .i64 cd, .int .i64 n', .slice a6 M c6, .string R, .string x', .string y'] 40)
 have hb56 : Below w5.heap.size w5 (w6.alloc (.cells #[.int .i64 cd, .int .i64 n', .slice a6 M c6, .string R, .string x', .string y'] 40)) := hb6'.trans (al.mono hb6'.size)
 have hb7 := hb5.trans (hb56.mono hb5.size)
 have hO := hP5.below hb56
 have hTw := hS5.below hb56
 have hTs := hS6.below al
 have nW7 := (hb56.block gw (Array.getElem?_eq_some_iff.1 nW).1).trans nW
 have nP7 := pblk_below hb7 nP
 have nQ7 := pblk_below hb7 nQ
 have hSp7 := hSp.below hb7
 have hK7 : Hid (KT _) := hKB.out.below hb7
 have hbw7 := hbB.trans (hb7.mono hbB.size)
 generalize w6.alloc (.cells #[.int .i64 cd, .int .i64 n', .slice a6 M c6, .string R, .string x', .string y'] 40) = w7 at nS hO hTw hTs nW7 nP7 nQ7 hSp7 hK7 hbw7 ⊢
 obtain ⟨gs, hgs⟩ : ∃ g, w6.heap.size = g := ⟨_, rfl⟩
 rw [hgs] at nS
 try rw [hgs]
 clear hgs al hS6 hb6' hb56 hP5 hb5 p0 p1 nP5 JIP hb7 hS5 nW nP nQ hSp hSq hKB hbB
 have s0 := ZC nS 0
 have s1 := ZC nS 1
 have s2 := ZC nS 2
 have s3 := ZC nS 3
 have v0 := ZC nW7 0
 have v2 := ZC nW7 2
 have zc : ((cd : Int) != cd) = false := by simp
 have zc' : ((cd : Int) == cd) = true := by simp
 by_cases hcd : cd = 0
 · by_cases hoc : oc = 0
   · by_cases hol : 100 < Mo
     · subst hcd hoc
       have zl : decide ((100 : Int) < (Mo : Int)) = true := by simp; omega
       have zl' : decide (100 < Mo) = true := by simp; omega
       clear hol hMo
       go_wp2_with fail
       go_ret
       exact ⟨rfl, hbw7⟩
     · obtain ⟨HIP2, HL1, HL2, HDl, hnx, hns, hbk⟩ := hgh.out hcd hoc (by omega)
       have hbkh : Hid _ := hbk
       obtain ⟨Mx, hMx⟩ : ∃ M, nxt.length = M := ⟨_, rfl⟩
       obtain ⟨Mb, hMb⟩ : ∃ M, bs.length = M := ⟨_, rfl⟩
       rw [hN] at HIP2
       rw [hM] at HL1 HL2 HDl
       have J17 : Hid (∀ w' ap cp, SArg ap ss w' -> KT w' -> Calls prog 17 #[.agg #[.int .i64 n, .slice ap N cp], .string root, .string key, .string (val ++ ⟨#[43]⟩)] w' fun e w'' => (∃ v, e = .returned v) /\ Below w'.heap.size w' w'') := HIP2
       have JL1 : Hid (∀ w' ap cp, SArg ap ys w' -> KT w' -> Calls prog 21 #[.agg #[.int .i64 n', .slice ap M cp], .string R] w' fun e w'' => ∃ a c, e = .returned (.tuple #[.slice a Mx c, .int .i64 0]) /\ PArg a nxt w'' /\ Below w'.heap.size w' w'') := fun w' ap cp h hk => (HL1 w' ap cp h hk).mono fun e w'' q => by have := q.parg hns; simp only [hMx] at this; exact this
       have JL2 : Hid (∀ w' ap cp, SArg ap ys w' -> KT w' -> Calls prog 21 #[.agg #[.int .i64 n', .slice ap M cp], .string root] w' fun e w'' => ∃ a c, e = .returned (.tuple #[.slice a Mo c, .int .i64 0]) /\ PArg a old w'' /\ Below w'.heap.size w' w'') := fun w' ap cp h hk => (HL2 w' ap cp h hk).mono fun e w'' q => by have := q.parg hos; simp only [hMo] at this; exact this
       have JDl : Hid (∀ w' ap cp, SArg ap ys w' -> KT w' -> Calls prog 19 #[.agg #[.int .i64 n', .slice ap M cp], .string R, .string key] w' fun e w'' => ∃ a c, e = .returned (.agg #[.int .i64 bcd, .int .i64 bn, .slice a Mb c, .string br, .string bx, .string bz]) /\ Below w'.heap.size w' w'') := fun w' ap cp h hk => (HDl w' ap cp h hk).mono (by
        rintro e w'' ⟨a, c, rfl, ho⟩
        exact ⟨a, c, by rw [<- hMb], ho.bel⟩)
       have JTx : Hid (∀ w' a b c d, SArg a ys w' -> SArg b ys w' -> Calls prog 39 #[.slice a M c, .slice b M d] w' fun e w'' => e = .returned (.bool true) /\ Below w'.heap.size w' w'') := fun w' a b c d h1 h2 => by
        have := wtexts_same a b ys c d w' h1 h2
        rw [hM] at this
        exact this
       have hbdo : Bd old := fun p hp => by
        obtain ⟨j, hj, rfl⟩ := List.mem_iff_getElem.1 hp
        have := hos.2 j
        rw [List.getD_eq_getElem?_getD, List.getElem?_eq_getElem hj] at this
        exact this
       have JWi : Hid (∀ w' a c, PArg a old w' -> Calls prog 40 #[.slice a Mo c, .string key, .string val] w' fun e w'' => ∃ a5 c5, e = .returned (.slice a5 Mx c5) /\ PArg a5 nxt w'' /\ Below w'.heap.size w' w'') := fun w' a c h => by
        have := wwith_any a old c key val w' h hks (by omega)
        rw [<- hnx, hMo] at this
        refine this.mono ?_
        rintro e w'' ⟨a5, c5, rfl, ho⟩
        exact ⟨a5, c5, by rw [hMx], ownp_parg ho hns, ho.bel⟩
       have JX : Hid (∀ w' a b c d, PArg a nxt w' -> PArg b nxt w' -> Calls prog 22 #[.slice a Mx c, .slice b Mx d] w' fun e w'' => e = .returned (.bool true) /\ Below w'.heap.size w' w'') := fun w' a b c d h1 h2 => by
        have := wsame_any a b nxt nxt c d w' h1 h2
        rw [hMx, decide_eq_true rfl] at this
        exact this
       have JO : Hid (∀ w' a b c d, PArg a old w' -> PArg b old w' -> Calls prog 22 #[.slice a Mo c, .slice b Mo d] w' fun e w'' => e = .returned (.bool true) /\ Below w'.heap.size w' w'') := fun w' a b c d h1 h2 => by
        have := wsame_any a b old old c d w' h1 h2
        rw [hMo, decide_eq_true rfl] at this
        exact this
       have zl : decide ((100 : Int) < (Mo : Int)) = false := by simp; omega
       have zl' : decide (100 < Mo) = false := by simp; omega
       have zval : ¬ (9223372036854775807 < val.size + 1) := by omega
       clear HIP2 HL1 HL2 HDl hns hnx hbk hMx hMb hM hN hys hvs hgh
       subst hcd hoc
       have p0 := ZC nP7 0
       have p1 := ZC nP7 1
       go_upto_region 13 with (first | (go_at_call 17; refine (J17.out _ ap1 cp1 hSp7 hK7.out).mono ?_; rintro e w8 ⟨⟨vv, rfl⟩, hb8⟩))
       have hbw8 := hbw7.trans (hb8.mono hbw7.size)
       have nS8 := (hb8.block gs (Array.getElem?_eq_some_iff.1 nS).1).trans nS
       have nW8 := (hb8.block gw (Array.getElem?_eq_some_iff.1 nW7).1).trans nW7
       have nQ8 := pblk_below hb8 nQ7
       have hO8 := hO.below hb8
       have hTw8 := hTw.below hb8
       have hTs8 := hTs.below hb8
       have hK8 : Hid (KT w8) := hK7.out.below hb8
       clear s0 s1 s2 s3 v0 v2 p0 p1 nS nW7 nQ7 nP7 hO hTw hTs hK7 hSp7 hb8 hbw7 J17
       have s2 := ZC nS8 2
       have v2 := ZC nW8 2
       go_upto_region 15 with (first | (go_at_call 39; refine (JTx.out _ a6 a4 c6 c4 hTs8 hTw8).mono ?_; rintro e w9 ⟨rfl, hb9⟩))
       have nS9 := (hb9.block gs (Array.getElem?_eq_some_iff.1 nS8).1).trans nS8
       have hbw9 := hbw8.trans (hb9.mono hbw8.size)
       clear s2 v2
       have s1 := ZC nS9 1
       have s2 := ZC nS9 2
       have s3 := ZC nS9 3
       go_upto_region 16 with (first | (go_at_call 21; refine (JL1.out _ a6 c6 (hTs8.below hb9) (hK8.out.below hb9)).mono ?_; rintro e w10 ⟨a10, c10, rfl, hX10, hb10'⟩; have hb10 := hb9.trans (hb10'.mono hb9.size)))
       have nS10 := (hb10.block gs (Array.getElem?_eq_some_iff.1 nS8).1).trans nS8
       clear s1 s2 s3
       have s1 := ZC nS10 1
       have s2 := ZC nS10 2
       have s3 := ZC nS10 3
       go_upto_region 17 with (first | (go_at_call 21; refine (JL2.out _ a6 c6 (hTs8.below hb10) (hK8.out.below hb10)).mono ?_; rintro e w11 ⟨a11, c11, rfl, hO11, hb11'⟩; have hb11 := hb10.trans (hb11'.mono hb10.size); have hX11 := hX10.below hb11'))
       have nS11 := (hb11.block gs (Array.getElem?_eq_some_iff.1 nS8).1).trans nS8
       clear s1 s2 s3 nS9 nS10 hb10' hb11' hbw9
       have s1 := ZC nS11 1
       have s2 := ZC nS11 2
       have s3 := ZC nS11 3
       go_upto_region 18 with (first | (go_at_call 19; refine (JDl.out _ a6 c6 (hTs8.below hb11) (hK8.out.below hb11)).mono ?_; rintro e w12 ⟨a12, c12, rfl, hb12⟩))
       have al : Below w12.heap.size w12 (w12.alloc (.cells #[.int .i64 bcd, .int .i64 bn, .slice a12 Mb c12, .string br, .string bx, .string bz] 40)) := (Below.refl _ _).alloc (Nat.le_refl _) _
       have nB := heap_alloc_new w12 (.cells #[.int .i64 bcd, .int .i64 bn, .slice a12 Mb c12, .string br, .string bx, .string bz] 40)
       have hb1112 : Below w11.heap.size w11 (w12.alloc (.cells #[.int .i64 bcd, .int .i64 bn, .slice a12 Mb c12, .string br, .string bx, .string bz] 40)) := hb12.trans (al.mono hb12.size)
       have hb13 := hb11.trans (hb1112.mono hb11.size)
       have hX13 := hX11.below hb1112
       have hOw13 := hO11.below hb1112
       have hO13 := hO8.below hb13
       have nQ13 := pblk_below hb13 nQ8
       have hbw13 := hbw8.trans (hb13.mono hbw8.size)
       generalize w12.alloc (.cells #[.int .i64 bcd, .int .i64 bn, .slice a12 Mb c12, .string br, .string bx, .string bz] 40) = w13 at nB hX13 hOw13 hO13 nQ13 hbw13 ⊢
       obtain ⟨gb, hgb⟩ : ∃ g, w12.heap.size = g := ⟨_, rfl⟩
       rw [hgb] at nB
       try rw [hgb]
       clear hgb al hb12 hb1112 hb13 hX11 hO11 hX10 hb10 hb11 hb9 s1 s2 s3 nS8 nS11 nW8 nQ8 hO8 hTw8 hTs8 hK8 hbw8
       go_upto_region 20 with (first | (go_at_call 40; refine (JWi.out _ a3 c3 hO13).mono ?_; rintro e w14 ⟨a14, c14, rfl, hX14, hb14⟩; have hY14 := hX13.below hb14) | (go_at_call_of 22 (Value.slice a10 Mx c10); refine (JX.out _ a10 a14 c10 c14 hY14 hX14).mono ?_; rintro e w15 ⟨rfl, hb15'⟩; have hb15 := hb14.trans (hb15'.mono hb14.size)) | (go_at_call_of 22 (Value.slice a11 Mo c11); refine (JO.out _ a11 a3 c11 c3 (hOw13.below hb15) (hO13.below hb15)).mono ?_; rintro e w16 ⟨rfl, hb16'⟩; have hb16 := hb15.trans (hb16'.mono hb15.size)))
       have nB16 := (hb16.block gb (Array.getElem?_eq_some_iff.1 nB).1).trans nB
       have nQ16 := pblk_below hb16 nQ13
       have hO16 := hO13.below hb16
       have hbw16 := hbw13.trans (hb16.mono hbw13.size)
       clear hX13 hOw13 hO13 hb14 hb15 hb16 hb15' hb16' hX14 hY14 nB nQ13 hbw13
       have b0 := ZC nB16 0
       have b3 := ZC nB16 3
       have b4 := ZC nB16 4
       have b5 := ZC nB16 5
       have k0 := ZC nQ16 0
       have hgbl := (Array.getElem?_eq_some_iff.1 nB16).1
       have hgql := (Array.getElem?_eq_some_iff.1 nQ16).1
       have hdr : Below w16.heap.size w16 w16.drew := draws_below 1 (Below.refl _ _)
       rcases hbkh.out with hbk | ⟨k1, k2, dg, k3⟩
       · obtain ⟨Mv, hMv⟩ : ∃ M, (wout old key).length = M := ⟨_, rfl⟩
         have JWo : Hid (∀ w' a c, PArg a old w' -> Calls prog 20 #[.slice a Mo c, .string key] w' fun e w'' => ∃ a5 c5, e = .returned (.slice a5 Mv c5) /\ PArg a5 (wout old key) w'' /\ Mv <= c5 /\ Below w'.heap.size w' w'') := fun w' a c h => by
          have := wwithout_any a old c key w' h
          rw [hMo] at this
          refine this.mono ?_
          rintro e w'' ⟨a5, c5, rfl, ho⟩
          exact ⟨a5, c5, by rw [hMv], ownp_parg ho (Bd.small (fun p hp => hbdo p (List.mem_filter.1 hp).1) (by have := wout_le old key; omega)), by rw [<- hMv]; exact own2_le ho.own, ho.bel⟩
         have JRt : Hid (∀ w' a c, PArg a (wout old key) w' -> Mv <= c -> Calls prog 11 #[.slice a Mv c, .int .i64 n] w' fun e w'' => e = .returned (.string br) /\ Below w'.heap.size w' w'') := fun w' a c h hc => by
          have := rootSpec_any a (wout old key) c n w' h (by omega)
          rw [hMv, <- hbk.2] at this
          exact this
         have hb0 : Hid (bcd = 0) := hbk.1
         clear hbk hMv hbdo hMo hol
         have zb : ((bcd : Int) == 4) = false := by rw [hb0.out]; decide
         have zb0 : ((bcd : Int) == 0) = true := by rw [hb0.out]; decide
         have zr : (br.toList == br.toList) = true := by rw [ba_eq, decide_eq_true rfl]
         have hO16d := hO16.below hdr
         go_upto_region 22 with fail
         go_region_held3 (fun W => W.cell? ⟨gb, 0, none⟩ = some (.int .i64 bcd) /\ W.cell? ⟨gb, 3, none⟩ = some (.string br) /\ W.cell? ⟨gq, 0, none⟩ = some (.int .i64 n)) (first | exact ⟨b0, b3, k0⟩ | exact ⟨r0, r3, rk⟩ | exact ⟨t0, t3, tk⟩) (first | (go_at_call 20; refine (JWo.out _ a3 c3 hO16d).mono ?_; rintro e w17 ⟨a17, c17, rfl, hV17, hc17, hb17⟩; have hb17' : Below w16.heap.size w16 w17 := hdr.trans (hb17.mono hdr.size); have r0 := (hb17'.cell (p := ⟨gb, 0, none⟩) hgbl).trans b0; have r3 := (hb17'.cell (p := ⟨gb, 3, none⟩) hgbl).trans b3; have rk := (hb17'.cell (p := ⟨gq, 0, none⟩) hgql).trans k0) | (go_at_call 11; refine (JRt.out _ a17 c17 hV17 hc17).mono ?_; rintro e w18 ⟨rfl, hb18⟩; have hb18' : Below w16.heap.size w16 w18 := hb17'.trans (hb18.mono hb17'.size); have t0 := (hb18'.cell (p := ⟨gb, 0, none⟩) hgbl).trans b0; have t3 := (hb18'.cell (p := ⟨gb, 3, none⟩) hgbl).trans b3; have tk := (hb18'.cell (p := ⟨gq, 0, none⟩) hgql).trans k0))
         go_wp2_with fail
         go_ret
         exact ⟨rfl, hbw16.trans (hb18'.mono hbw16.size)⟩
       · have hbk := And.intro k1 (And.intro k2 k3)
         clear k1 k2 k3
         have JD1 : Hid (∀ w', Calls prog 14 #[.string bx, .int .i64 n] w' fun e w'' => e = .returned (.string dg) /\ Below w'.heap.size w' w'') := hbk.2.2.1
         have JD2 : Hid (∀ w', Calls prog 14 #[.string bz, .int .i64 n] w' fun e w'' => e = .returned (.string dg) /\ Below w'.heap.size w' w'') := hbk.2.2.2
         have hb0 : Hid (bcd = 4) := hbk.1
         have zxz : (bx.toList == bz.toList) = false := by rw [ba_eq, decide_eq_false hbk.2.1]
         clear hbk
         have zb : ((bcd : Int) == 4) = true := by rw [hb0.out]; decide
         have zd : (dg.toList == dg.toList) = true := by rw [ba_eq, decide_eq_true rfl]
         go_upto_region 21 with fail
         go_region_held3 (fun W => W.cell? ⟨gb, 4, none⟩ = some (.string bx) /\ W.cell? ⟨gb, 5, none⟩ = some (.string bz) /\ W.cell? ⟨gq, 0, none⟩ = some (.int .i64 n)) (first | exact ⟨b4, b5, k0⟩ | exact ⟨r4, r5, rk⟩ | exact ⟨t4, t5, tk⟩) (first | (go_at_call_of 14 (Value.string bx); refine (JD1.out _).mono ?_; rintro e w17 ⟨rfl, hb17⟩; have hb17' : Below w16.heap.size w16 w17 := hdr.trans (hb17.mono hdr.size); have r4 := (hb17'.cell (p := ⟨gb, 4, none⟩) hgbl).trans b4; have r5 := (hb17'.cell (p := ⟨gb, 5, none⟩) hgbl).trans b5; have rk := (hb17'.cell (p := ⟨gq, 0, none⟩) hgql).trans k0) | (go_at_call_of 14 (Value.string bz); refine (JD2.out _).mono ?_; rintro e w18 ⟨rfl, hb18⟩; have hb18' : Below w16.heap.size w16 w18 := hb17'.trans (hb18.mono hb17'.size); have t4 := (hb18'.cell (p := ⟨gb, 4, none⟩) hgbl).trans b4; have t5 := (hb18'.cell (p := ⟨gb, 5, none⟩) hgbl).trans b5; have tk := (hb18'.cell (p := ⟨gq, 0, none⟩) hgql).trans k0))
         go_wp2_with fail
         go_ret
         exact ⟨rfl, hbw16.trans (hb18'.mono hbw16.size)⟩
   · subst hcd
     have zd : ((oc : Int) != 0) = true := by simp [hoc]
     have zd' : ((oc : Int) == 0) = false := by simp [hoc]
     go_wp2_with fail
     go_ret
     exact ⟨rfl, hbw7⟩
 · have zd : ((cd : Int) != 0) = true := by simp [hcd]
   have zd' : ((cd : Int) == 0) = false := by simp [hcd]
   go_wp2_with fail
   go_ret
   exact ⟨rfl, hbw7⟩
structure SmQ (ps : List PairT) (n : Nat) : Prop where
 len : ps.length <= n
 sz : ∀ q ∈ ps, q.1.size <= 300 /\ q.2.size <= 2001
theorem SmQ.small {ps : List PairT} {n : Nat} (h : SmQ ps n) (hn : n <= 100000) : SmallP ps := smallP_of (by have := h.len; omega) (fun q hq => by have := h.sz q hq; omega)
def crD (i : Nat) : ByteArray := byteS (97 + i / 100) ++ byteS (48 + i / 10 % 10) ++ byteS (48 + i % 10)
def crowd (n : Nat) : List PairT := (List.range n).map fun i => (crD i, ⟨#[]⟩)
theorem crowd_succ (n : Nat) : crowd (n + 1) = crowd n ++ [(crD n, ⟨#[]⟩)] := by unfold crowd; rw [List.range_succ, List.map_append]; rfl
theorem crowd_len (n : Nat) : (crowd n).length = n := by unfold crowd; rw [List.length_map, List.length_range]
theorem crowd_any (n : Nat) (hn : n <= 1000) (w : World) : Calls prog 60 #[.int .i64 (n : Int)] w (PairsAt (crowd n) w) := by
 obtain ⟨i0, hi0, hz0, hz1, hz2⟩ := info_parts2 info37
 have hO := OwnP.nil w
 go_enter func60, ntmps60
 go_wp2_with fail
 go_loopw [3, 4] (fun t3 t4 wr => ∃ k : Nat, k <= n /\ t4 = .int .i64 (k : Int) /\ ∃ (a' : Option Addr) (m d' : Nat), t3 = .slice a' m d' /\ OwnP w (crowd k) a' m d' wr) (fun _ t4 _ => n - (intOf t4).toNat)
 case atStart => exact ⟨0, Nat.zero_le _, rfl, _, _, _, rfl, hO⟩
 case round =>
  obtain ⟨k, hk, rfl, a', m, d', rfl, hW⟩ := hrel
  by_cases hlt : k < n
  · have z1 : decide ((k : Int) < (n : Int)) = true := by simp; omega
    have hml : m <= 1000 := by have := hW.len; rw [crowd_len] at this; omega
    have hcr : Hid (crD k = byteS (97 + k / 100) ++ byteS (48 + k / 10 % 10) ++ byteS (48 + k % 10)) := rfl
    have H1 : Hid (∀ m w', m = ((97 + k / 100 : Nat) : Int) -> Calls prog 78 #[.int .i64 m] w' fun e w'' => e = .returned (.string (byteS (97 + k / 100))) /\ Below w'.heap.size w' w'') := fun m w' hm => byte_d m _ hm (by omega) w'
    have H2 : Hid (∀ m w', m = ((48 + k / 10 % 10 : Nat) : Int) -> Calls prog 78 #[.int .i64 m] w' fun e w'' => e = .returned (.string (byteS (48 + k / 10 % 10))) /\ Below w'.heap.size w' w'') := fun m w' hm => byte_d m _ hm (by omega) w'
    have H3 : Hid (∀ m w', m = ((48 + k % 10 : Nat) : Int) -> Calls prog 78 #[.int .i64 m] w' fun e w'' => e = .returned (.string (byteS (48 + k % 10))) /\ Below w'.heap.size w' w'') := fun m w' hm => byte_d m _ hm (by omega) w'
    obtain ⟨t1, ht1⟩ : ∃ t, byteS (97 + k / 100) = t := ⟨_, rfl⟩
    obtain ⟨t2, ht2⟩ : ∃ t, byteS (48 + k / 10 % 10) = t := ⟨_, rfl⟩
    obtain ⟨t3, ht3⟩ : ∃ t, byteS (48 + k % 10) = t := ⟨_, rfl⟩
    have hs1 : t1.size = 1 := by rw [<- ht1]; rfl
    have hs2 : t2.size = 1 := by rw [<- ht2]; rfl
    have hs3 : t3.size = 1 := by rw [<- ht3]; rfl
    rw [ht1] at H1 hcr
    rw [ht2] at H2 hcr
    rw [ht3] at H3 hcr
    have hy1 : ¬ (9223372036854775807 < t1.size + t2.size) := by omega
    have hy2 : ¬ (9223372036854775807 < t1.size + t2.size + t3.size) := by omega
    clear ht1 ht2 ht3 hs1 hs2 hs3
    have hbs := hW.bel.size
    go_upto_region 6 with (first | (go_at_call 78; refine (H1.out _ _ (by omega)).mono ?_; rintro e wa ⟨rfl, hba⟩; have hWa := hW.below hba) | (go_at_call 78; refine (H2.out _ _ (by omega)).mono ?_; rintro e wb ⟨rfl, hbb⟩; have hWb := hWa.below hbb) | (go_at_call 78; refine (H3.out _ _ (by omega)).mono ?_; rintro e wd ⟨rfl, hbd⟩; have hWd := hWb.below hbd))
    have own := hWd.own
    have hbs' : w.heap.size <= wd.heap.size := hWd.bel.size
    generalize t1 ++ t2 ++ t3 = key at hcr ⊢
    clear hW hWa hWb hba hbb hbd H1 H2 H3 hy1 hy2
    go_wp2_with (at_builtin; refine wpList_append_lies _ rfl (.tmp 27) (.tmp 30) 23 rfl w.heap.size 34 i0 (.agg #[.string ⟨#[]⟩, .string ⟨#[]⟩]) 2 32 Tryz.underlying23 hi0 hz0 hz1 hz2 rfl (by decide) (.slice a' m d') m (flatP (crowd k)) rfl (own.alloc _) ⟨wd.heap.size, 0, none⟩ 1 1 [.string key, .string ⟨#[]⟩] rfl rfl (World.news_of_block (heap_alloc_new wd _)) (by simp [Value.oneCell']) (by decide) (by unfold maxLen; omega) (by omega) (by simp; omega) (wd.heap.size + 1) (by simp) ?_; intro g5 c5 w5 hown5 hgrow5 hat5 hlt5)
    go_roundw
    case rel => exact ⟨k + 1, hlt, by go_num, _, _, _, rfl, by rw [crowd_succ, hcr.out]; exact hWd.more hown5 hgrow5 rfl⟩
    case measure => simp [intOf]; omega
  · obtain rfl : k = n := by omega
    have z1 : decide ((k : Int) < (k : Int)) = false := by simp
    have hl := hW.len
    rw [crowd_len] at hl
    subst hl
    go_wp2_with fail
    go_ret
    exact ⟨_, _, by rw [crowd_len]; rfl, by rw [crowd_len]; exact hW⟩
theorem crowd_sm (n : Nat) : SmQ (crowd n) n := by
 refine ⟨Nat.le_of_eq (crowd_len n), fun q hq => ?_⟩
 unfold crowd at hq
 obtain ⟨i, _, rfl⟩ := List.mem_map.1 hq
 refine ⟨?_, Nat.zero_le _⟩
 show (crD i).size <= 300
 unfold crD
 rw [ByteArray.size_append, ByteArray.size_append]
 show 1 + 1 + 1 <= 300
 omega
def AGot (n : Int) (ss roots : List ByteArray) (root : ByteArray) (z : Nat) (w : World) (e : Ending) (w' : World) : Prop := ∃ ap cp ar cr, e = .returned (.tuple #[.agg #[.int .i64 n, .slice ap ss.length cp], .string root, .slice ar roots.length cr, .int .i64 (z : Int)]) /\ SArg ap ss w' /\ SArg ar roots w' /\ Below w.heap.size w w'
theorem retPT4 {fn : Func} {R : Ending -> World -> Prop} {A : Act} {p q r s : Tmp} {gb : Nat} {n : Int} {a : Option Addr} {m c : Nat} {v2 v3 v4 : Value} {W : World} (hres : fn.results = #[.cell p 37, .tmp q, .tmp r, .tmp s]) (hp : A.tmps.getD p undef = .pointer (some ⟨gb, 0, none⟩)) (hq : A.tmps.getD q undef = v2) (hr : A.tmps.getD r undef = v3) (hs : A.tmps.getD s undef = v4) (hd : A.defers = []) (hn : W.heap[gb]? = some (.cells #[.int .i64 n, .slice a m c] 37))
 (h : R (.returned (.tuple #[.agg #[.int .i64 n, .slice a m c], v2, v3, v4])) W) : bodyPost prog fn R Exit.ret A W := by
 have c0 := ZC hn 0
 have c1 := ZC hn 1
 have hp' : A.tmps[p]?.getD undef = .pointer (some ⟨gb, 0, none⟩) := by simpa using hp
 have hq' : A.tmps[q]?.getD undef = v2 := by simpa using hq
 have hr' : A.tmps[r]?.getD undef = v3 := by simpa using hr
 have hs' : A.tmps[s]?.getD undef = v4 := by simpa using hs
 refine bodyPost_ret (v := .tuple #[.agg #[.int .i64 n, .slice a m c], v2, v3, v4]) ?_ hd h
 simp [results, hres, go_sem, asAddr, hp', hq', hr', hs', c0, c1]
structure AP (w : World) (gr gq : Nat) (n : Int) (ss roots : List ByteArray) (ap : Option Addr) (cp : Nat) (ar : Option Addr) (W : World) : Prop where
 res : W.heap[gr]? = some (.cells #[.int .i64 0, .slice none 0 0] 37)
 pool : W.heap[gq]? = some (.cells #[.int .i64 n, .slice ap ss.length cp] 37)
 ne : gr ≠ gq
 ge : w.heap.size <= gr
 ge2 : w.heap.size <= gq
 parg : SArg ap ss W
 rarg : SArg ar roots W
 bel : Below w.heap.size w W
section
variable {w : World} {gr gq : Nat} {n : Int} {ss roots : List ByteArray} {ap : Option Addr} {cp : Nat} {ar : Option Addr} {W W' : World}
theorem AP.below (h : AP w gr gq n ss roots ap cp ar W) (hb : Below W.heap.size W W') : AP w gr gq n ss roots ap cp ar W' :=
 ⟨pblk_below hb h.res, pblk_below hb h.pool, h.ne, h.ge, h.ge2, h.parg.below hb, h.rarg.below hb, h.bel.trans (hb.mono h.bel.size)⟩
theorem SArg.set37 {a : Option Addr} {xs : List ByteArray} {g o : Nat} {n' : Int} {v : Option Addr} {m c : Nat} (h : SArg a xs W) (hg : W.heap[g]? = some (.cells #[.int .i64 n', .slice v m c] 37)) (u : Value) : SArg a xs (W.setCell ⟨g, o, none⟩ u) :=
 h.grown (grownBy_setCell W g o u) (fun b off e hp q => h.pool hg b off e hp (Option.some.inj q))
theorem AP.setw (h : AP w gr gq n ss roots ap cp ar W) (n' : Int) : AP w gr gq n' ss roots ap cp ar (W.setCell ⟨gq, 0, none⟩ (.int .i64 n')) :=
 ⟨(Below.heap_setCell _ _ _ _ (by show gr ≠ gq; exact h.ne)).trans h.res, heap_setCell_same W gq 0 _ 37 (.int .i64 n') h.pool, h.ne, h.ge, h.ge2, h.parg.set37 h.pool _, h.rarg.set37 h.pool _, h.bel.setCell (p := ⟨gq, 0, none⟩) h.ge2 _⟩
theorem AP.m1 (h : AP w gr gq n ss roots ap cp ar W) : ((W.setCell ⟨gr, 0, none⟩ (.int .i64 n)).setCell ⟨gr, 1, none⟩ (.slice ap ss.length cp)).heap[gr]? = some (.cells #[.int .i64 n, .slice ap ss.length cp] 37) :=
 heap_setCell_same _ gr 1 _ 37 (.slice ap ss.length cp) (heap_setCell_same W gr 0 _ 37 (.int .i64 n) h.res)
theorem AP.fin (h : AP w gr gq n ss roots ap cp ar W) (root : ByteArray) (z cr : Nat) : AGot n ss roots root z w (.returned (.tuple #[.agg #[.int .i64 n, .slice ap ss.length cp], .string root, .slice ar roots.length cr, .int .i64 (z : Int)])) ((W.setCell ⟨gr, 0, none⟩ (.int .i64 n)).setCell ⟨gr, 1, none⟩ (.slice ap ss.length cp)) := by
 have m0 := heap_setCell_same W gr 0 _ 37 (.int .i64 n) h.res
 exact ⟨ap, cp, ar, cr, rfl, (h.parg.set37 h.res _).set37 m0 _, (h.rarg.set37 h.res _).set37 m0 _, (h.bel.setCell (p := ⟨gr, 0, none⟩) h.ge _).setCell (p := ⟨gr, 1, none⟩) h.ge _⟩
end
end Go.Proofs.YtfmpjlpakldheaaGreatDoor
