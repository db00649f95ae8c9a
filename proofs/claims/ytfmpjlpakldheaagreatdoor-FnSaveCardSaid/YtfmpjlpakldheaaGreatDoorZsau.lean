import Derived.Test.YtfmpjlpakldheaaGreatDoorZsat
set_option maxRecDepth 100000
set_option maxHeartbeats 8000000
namespace Go.Proofs.YtfmpjlpakldheaaGreatDoor
open Tryz
open Go.RowKit Go.Proofs.Sha
theorem rangeM_q (D : Dec) (n : Int) (hdo : ∀ wd : Nat, (wd : Int) = n -> DecOk wd D) (ss : List ByteArray) (root lo hi : ByteArray) : SmQ (rangeM (fndD D n.toNat ss) n ss.length root lo hi).1 500 := by
 refine ⟨(rangeM_sm D n hdo ss root lo hi).1, fun q hq => ?_⟩
 by_cases hp : (poolOk n ss.length && hashOk root.size n) = true
 · have hp' : 1 <= n /\ n <= 32 /\ ss.length <= 20000 := of_decide_eq_true ((Bool.and_eq_true _ _).mp hp).1
   obtain ⟨h1, h2⟩ := rangeM_okp (fndD_ok D n.toNat ss (hdo n.toNat (by omega))) n ss.length root lo hi q hq
   have k1 : 1 <= q.1.size /\ q.1.size <= 256 := of_decide_eq_true h1
   have k2 : q.2.size <= 2000 := of_decide_eq_true h2
   omega
 · rw [rangeM_bad (by simpa using hp)] at hq
   cases hq
theorem SmQ.up {ps : List PairT} {m n : Nat} (h : SmQ ps m) (hn : m <= n) : SmQ ps n := ⟨Nat.le_trans h.len hn, h.sz⟩
theorem SmT.up2 {ss : List ByteArray} {m n s t : Nat} (h : SmT ss m s) (hn : m <= n) (ht : s <= t) : SmT ss n t := ⟨Nat.le_trans h.len hn, fun x hx => Nat.le_trans (h.sz x hx) ht⟩
theorem dsave_det (HDg : Hid DigSaid) (a : Option Addr) (xs : List Nat) (cap : Nat) (hX : Code8 xs) :
 ∃ (n : Int) (ss : List ByteArray) (ps : List PairT), (0 <= n /\ n <= 33 /\ SmT ss 19999 10001 /\ SmQ ps 503) /\ ∀ w, BL a xs w -> Calls prog 28 #[.slice a xs.length cap] w (DSGot n ss ps w) := by
 obtain ⟨x, hx, HT⟩ := take_det a xs cap 0 40 hX (by omega) (by omega) (by omega)
 by_cases h39 : x = 39
 · obtain ⟨y, hy, HT2⟩ := take_det a xs cap 1 3 hX (by omega) (by omega) (by omega)
   exact ⟨6, fillT twoT 19999, crowd (y + 1), ⟨by omega, by omega, (fillT_sm (fun i => Nat.le_of_eq (twoT_size i)) 19999).up2 (Nat.le_refl _) (by omega), (crowd_sm (y + 1)).up (by omega)⟩, ds_full a xs cap x y HT HT2 h39 hy⟩
 by_cases h30 : 30 <= x
 · obtain ⟨y, hy, HT2⟩ := take_det a xs cap 1 40 hX (by omega) (by omega) (by omega)
   obtain ⟨ms, zm, ⟨hms, _⟩, HM⟩ := anymap_det a xs cap 2 hX (by omega)
   exact ⟨1, fillT (junkT y) (10 + y), ms, ⟨by omega, by omega, (fillT_sm (fun i => Nat.le_of_eq (junkT_size y i)) (10 + y)).up2 (by omega) (by omega), hms.up (by omega)⟩, ds_junk a xs cap x y zm ms HT HT2 h30 (by omega) hy HM⟩
 · obtain ⟨n, ss, roots, root, z, ⟨hn0, hn1, hss, hr, hrs, hz⟩, HP⟩ := any_det HDg a xs cap 1 hX (by omega)
   obtain ⟨D, hdo, _, H148⟩ := dec_both n
   have hsz : Hid (∀ j, (ss.getD j ⟨#[]⟩).size <= 1048575) := fun j => Nat.le_trans (hss.getD j) (by omega)
   have HL := fun w ap cp (hS : SArg ap ss w) => sld_any HDg D n H148 hdo ap ss cp root w hS hsz (by omega)
   have hL1 := rangeM_q D n hdo ss root ⟨#[]⟩ ⟨#[]⟩
   obtain ⟨A, hAe⟩ : ∃ A, rangeM (fndD D n.toNat ss) n ss.length root ⟨#[]⟩ ⟨#[]⟩ = A := ⟨_, rfl⟩
   rw [hAe] at HL hL1
   obtain ⟨L1, cL⟩ := A
   obtain ⟨qs, zn, ⟨hqs, _⟩, HN⟩ := near2_det a xs cap z L1 500 hX (by omega) (by omega) hL1
   obtain ⟨ms, zm, ⟨hms, _⟩, HM⟩ := anymap_det a xs cap z hX (by omega)
   refine ⟨n, ss, if x < 25 then qs else ms, ⟨hn0, hn1, hss.up2 (by omega) (by omega), ?_⟩, ds_low a xs cap x z zn zm n ss roots root L1 qs ms cL HT HP (by omega) HL hL1 HN HM _ rfl⟩
   split
   · exact hqs
   · exact hms.up (by omega)
theorem saveO_ends {n : Int} {ss : List ByteArray} {ps : List PairT} (hs : SmT ss 19999 10001) (hp : ps.length <= 503) :
 saveO n ss ps = codeO 1 \/ ∃ wd : Nat, n = (wd : Int) /\ 1 <= wd /\ wd <= 32 /\ isMapT ps = true /\ ((∃ ad, svAll wd ss (encsT wd (cutTree ps)) = .go ad /\ saveO n ss ps = ⟨0, (wd : Int), ss ++ ad, rootT wd (cutTree ps), ⟨#[]⟩, ⟨#[]⟩⟩ /\ SmT (ss ++ ad) (19999 + 503) 10001 /\ ad.length <= 503) \/ (∃ u e, saveO n ss ps = ⟨4, (wd : Int), ss, ⟨#[]⟩, txt u, txt e⟩ /\ u ≠ e /\ hashT wd u = hashT wd e /\ u.size <= 10001 /\ e.size <= 10001)) := by
 unfold saveO
 by_cases h : (poolOk n ss.length && isMapT ps) = true
 · rw [if_pos h]
   obtain ⟨h1, h2⟩ := (Bool.and_eq_true _ _).mp h
   have hp' : 1 <= n /\ n <= 32 /\ ss.length <= 20000 := of_decide_eq_true h1
   obtain ⟨wd, rfl⟩ : ∃ wd : Nat, n = (wd : Int) := ⟨n.toNat, by omega⟩
   rw [Int.toNat_natCast]
   have hen := sv_ends wd ss (encsT wd (cutTree ps)) []
   unfold savO
   cases hR : svAll wd ss (encsT wd (cutTree ps)) with
   | full => exact .inl rfl
   | clash u e =>
    obtain ⟨b1, b2, b3, b4⟩ := hen.1 u e hR
    refine .inr ⟨wd, rfl, by omega, by omega, h2, .inr ⟨u, e, rfl, b1, b2, ?_, Nat.le_trans (encsT_size wd _ e b4) (by omega)⟩⟩
    rcases b3 with q | q | q
    · exact hs.sz u q
    · cases q
    · exact Nat.le_trans (encsT_size wd _ u q) (by omega)
   | go ad =>
    obtain ⟨a1, a2⟩ := sv_sub wd ss _ [] ad hR
    have hl : ad.length <= 503 := by
     rw [encsT_len, cutTree_size] at a2
     simp at a2
     omega
    refine .inr ⟨wd, rfl, by omega, by omega, h2, .inl ⟨ad, hR, rfl, hs.app ⟨hl, fun x hx => ?_⟩, hl⟩⟩
    rcases a1 x hx with q | q
    · cases q
    · exact Nat.le_trans (encsT_size wd _ x q) (by omega)
 · rw [if_neg h]
   exact .inl rfl
def SaveRest (n cd n' : Int) (ss ys : List ByteArray) (R x' y' : ByteArray) (ps : List PairT) : Prop :=
 cd = 1 ∨
 (cd = 4 /\ ys = ss /\ x' ≠ y' /\ ∃ dg, (∀ w', Calls prog 14 #[.string x', .int .i64 n] w' fun e w'' => e = .returned (.string dg) /\ Below w'.heap.size w' w'') /\ (∀ w', Calls prog 14 #[.string y', .int .i64 n] w' fun e w'' => e = .returned (.string dg) /\ Below w'.heap.size w' w'') /\ (∀ w', KT w' -> Calls prog 31 #[.string x', .int .i64 n] w' fun e w'' => e = .returned (.string dg) /\ Below w'.heap.size w' w'') /\ (∀ w', KT w' -> Calls prog 31 #[.string y', .int .i64 n] w' fun e w'' => e = .returned (.string dg) /\ Below w'.heap.size w' w'')) ∨
 (cd = 0 /\ (∃ ad, ys = ss ++ ad) /\ (∀ w aq cq, PArg aq ps w -> ps.length <= cq -> Calls prog 11 #[.slice aq ps.length cq, .int .i64 n] w fun e w' => e = .returned (.string R) /\ Below w.heap.size w w') /\ (ss.length <= 1000 -> ∀ w ap cp, SArg ap ys w -> KT w -> Calls prog 21 #[.agg #[.int .i64 n', .slice ap ys.length cp], .string R] w (RangeAt (ps, 0) w)))
theorem save_all (a : Option Addr) (xs : List Nat) (cap : Nat) (n cd n' : Int) (ss ys : List ByteArray) (R x' y' : ByteArray) (ps : List PairT) (w : World) (hL : xs.length <= 1048576) (hB : BL a xs w) (hK : KT w)
 (HDw : ∀ w, BL a xs w -> Calls prog 28 #[.slice a xs.length cap] w (DSGot n ss ps w))
 (HSS : ∀ w ap cp aq cq, SArg ap ss w -> PArg aq ps w -> ps.length <= cq -> Calls prog 29 #[.agg #[.int .i64 n, .slice ap ss.length cp], .slice aq ps.length cq] w (SavedIs ⟨cd, n', ys, R, x', y'⟩ w))
 (HIS : ∀ w ap cp aq cq, SArg ap ss w -> PArg aq ps w -> KT w -> Calls prog 30 #[.agg #[.int .i64 n, .slice ap ss.length cp], .slice aq ps.length cq] w (SavedIs ⟨cd, n', ys, R, x', y'⟩ w))
 (hss : SmT ss 19999 10001) (hys : SmT ys 20600 20000) (hps : SmallP ps) (hg : SaveRest n cd n' ss ys R x' y' ps) :
 Calls prog 6 #[.slice a xs.length cap] w fun e w' => e = .returned (.bool true) /\ Below w.heap.size w w' := by
 have H1 : Hid (∀ w', Below w.heap.size w w' -> Calls prog 28 #[.slice a xs.length cap] w' (DSGot n ss ps w')) := fun w' hb => HDw w' (hB.below hb)
 unfold DSGot at H1
 have z0 : decide ((1048576 : Int) < (xs.length : Int)) = false := by simp; omega
 obtain ⟨L, hLL⟩ : ∃ L, xs.length = L := ⟨_, rfl⟩
 rw [hLL] at H1 z0 hL ⊢
 clear hLL HDw
 obtain ⟨N, hN⟩ : ∃ N, ss.length = N := ⟨_, rfl⟩
 obtain ⟨Q, hQ⟩ : ∃ N, ps.length = N := ⟨_, rfl⟩
 rw [hN, hQ] at H1 HSS HIS
 obtain ⟨M, hM⟩ : ∃ M, ys.length = M := ⟨_, rfl⟩
 have JSS : Hid (∀ w' ap cp aq cq, SArg ap ss w' -> PArg aq ps w' -> Q <= cq -> Calls prog 29 #[.agg #[.int .i64 n, .slice ap N cp], .slice aq Q cq] w' fun e w'' => ∃ a c, e = .returned (.agg #[.int .i64 cd, .int .i64 n', .slice a M c, .string R, .string x', .string y']) /\ SArg a ys w'' /\ Below w'.heap.size w' w'') := fun w' ap cp aq cq h h2 hc => (HSS w' ap cp aq cq h h2 hc).mono fun e w'' q => by have := q.sarg (n := 20600) (s := 20000) hys (by omega) (by omega); simp only [hM] at this; exact this
 have JIS : Hid (∀ w' ap cp aq cq, SArg ap ss w' -> PArg aq ps w' -> KT w' -> Calls prog 30 #[.agg #[.int .i64 n, .slice ap N cp], .slice aq Q cq] w' fun e w'' => ∃ a c, e = .returned (.agg #[.int .i64 cd, .int .i64 n', .slice a M c, .string R, .string x', .string y']) /\ SArg a ys w'' /\ Below w'.heap.size w' w'') := fun w' ap cp aq cq h h2 hk => (HIS w' ap cp aq cq h h2 hk).mono fun e w'' q => by have := q.sarg (n := 20600) (s := 20000) hys (by omega) (by omega); simp only [hM] at this; exact this
 have hKh : Hid (KT w) := hK
 have hgh : Hid (SaveRest n cd n' ss ys R x' y' ps) := hg
 clear hg HSS HIS hK hB
 go_enter func6, ntmps6
 go_upto_region 4 with (first | (go_at_call 28; refine (H1.out _ (Below.refl _ _)).mono ?_; rintro e w1 ⟨ap1, cp1, aq1, cq1, rfl, hS1, hP1, hc1, hb1⟩))
 have al : Below w1.heap.size w1 (w1.alloc (.cells #[.int .i64 n, .slice ap1 N cp1] 37)) := (Below.refl _ _).alloc (Nat.le_refl _) _
 have nA := heap_alloc_new w1 (.cells #[.int .i64 n, .slice ap1 N cp1] 37)
 have hSA := hS1.below al
 have hPA := hP1.below al
 have hbA := hb1.trans (al.mono hb1.size)
 generalize w1.alloc (.cells #[.int .i64 n, .slice ap1 N cp1] 37) = wA at nA hSA hPA hbA ⊢
 obtain ⟨gp, hgp⟩ : ∃ g, w1.heap.size = g := ⟨_, rfl⟩
 rw [hgp] at nA
 try rw [hgp]
 clear hgp al hS1 hP1 hb1
 go_upto_region 5 with (first | (go_at_call 28; refine (H1.out _ hbA).mono ?_; rintro e w2 ⟨ap2, cp2, aq2, cq2, rfl, hS2, hP2, hc2, hb2⟩))
 have al : Below w2.heap.size w2 (w2.alloc (.cells #[.int .i64 n, .slice ap2 N cp2] 37)) := (Below.refl _ _).alloc (Nat.le_refl _) _
 have hbAB := hb2.trans (al.mono hb2.size)
 have nQ := heap_alloc_new w2 (.cells #[.int .i64 n, .slice ap2 N cp2] 37)
 have nP := pblk_below hbAB nA
 have hSq := hS2.below al
 have hPq := hP2.below al
 have hSp := hSA.below hbAB
 have hPp := hPA.below hbAB
 have hbB := hbA.trans (hbAB.mono hbA.size)
 generalize w2.alloc (.cells #[.int .i64 n, .slice ap2 N cp2] 37) = wB at nQ nP hSq hSp hPq hPp hbB ⊢
 obtain ⟨gq, hgq⟩ : ∃ g, w2.heap.size = g := ⟨_, rfl⟩
 rw [hgq] at nQ
 try rw [hgq]
 clear hgq al hS2 hP2 hb2 hSA hPA hbA hbAB nA H1
 have hKB : Hid (KT wB) := hKh.out.below hbB
 clear hKh
 have q0 := ZC nQ 0
 have q1 := ZC nQ 1
 go_upto_region 6 with (first | (go_at_call 29; refine (JSS.out _ ap2 cp2 aq2 cq2 hSq hPq hc2).mono ?_; rintro e w4 ⟨a4, c4, rfl, hS4, hb4'⟩))
 have al : Below w4.heap.size w4 (w4.alloc (.cells #[.int .i64 cd, .int .i64 n', .slice a4 M c4, .string R, .string x', .string y'] 40)) := (Below.refl _ _).alloc (Nat.le_refl _) _
 have nW := heap_alloc_new w4 (.cells #[.int .i64 cd, .int .i64 n', .slice a4 M c4, .string R, .string x', .string y'] 40)
 have hb5 : Below wB.heap.size wB (w4.alloc (.cells #[.int .i64 cd, .int .i64 n', .slice a4 M c4, .string R, .string x', .string y'] 40)) := hb4'.trans (al.mono hb4'.size)
 generalize w4.alloc (.cells #[.int .i64 cd, .int .i64 n', .slice a4 M c4, .string R, .string x', .string y'] 40) = w5 at nW hb5 ⊢
 obtain ⟨gw, hgw⟩ : ∃ g, w4.heap.size = g := ⟨_, rfl⟩
 rw [hgw] at nW
 try rw [hgw]
 clear hgw al hS4 hb4' q0 q1 JSS
 have nP5 := pblk_below hb5 nP
 have p0 := ZC nP5 0
 have p1 := ZC nP5 1
 go_upto_region 7 with (first | (go_at_call 30; refine (JIS.out _ ap1 cp1 aq1 cq1 (hSp.below hb5) (hPp.below hb5) (hKB.out.below hb5)).mono ?_; rintro e w6 ⟨a6, c6, rfl, hS6, hb6'⟩))
 have al : Below w6.heap.size w6 (w6.alloc (.cells #[.int .i64 cd, .int .i64 n', .slice a6 M c6, .string R, .string x', .string y'] 40)) := (Below.refl _ _).alloc (Nat.le_refl _) _
 have nS := heap_alloc_new w6 (.cells #[.int .i64 cd, .int .i64 n', .slice a6 M c6, .string R, .string x', .string y'] 40)
 have hb56 : Below w5.heap.size w5 (w6.alloc (.cells #[.int .i64 cd, .int .i64 n', .slice a6 M c6, .string R, .string x', .string y'] 40)) := hb6'.trans (al.mono hb6'.size)
 have hb7 := hb5.trans (hb56.mono hb5.size)
 have hTs := hS6.below al
 have nW7 := (hb56.block gw (Array.getElem?_eq_some_iff.1 nW).1).trans nW
 have nQ7 := pblk_below hb7 nQ
 have hSq7 := hSq.below hb7
 have hPq7 := hPq.below hb7
 have hK7 : Hid (KT _) := hKB.out.below hb7
 have hbw7 := hbB.trans (hb7.mono hbB.size)
 generalize w6.alloc (.cells #[.int .i64 cd, .int .i64 n', .slice a6 M c6, .string R, .string x', .string y'] 40) = w7 at nS hTs nW7 nQ7 hSq7 hPq7 hK7 hbw7 ⊢
 obtain ⟨gs, hgs⟩ : ∃ g, w6.heap.size = g := ⟨_, rfl⟩
 rw [hgs] at nS
 try rw [hgs]
 clear hgs al hS6 hb6' hb56 hb5 p0 p1 nP5 JIS hb7 nW nP nQ hSp hSq hPp hPq hKB hbB
 have s0 := ZC nS 0
 have s1 := ZC nS 1
 have s2 := ZC nS 2
 have s3 := ZC nS 3
 have s4 := ZC nS 4
 have s5 := ZC nS 5
 have v0 := ZC nW7 0
 have v2 := ZC nW7 2
 have v3 := ZC nW7 3
 have q0 := ZC nQ7 0
 have q1 := ZC nQ7 1
 have zc : ((cd : Int) != cd) = false := by simp
 have zc' : ((cd : Int) == cd) = true := by simp
 have zr : (R.toList == R.toList) = true := by rw [ba_eq, decide_eq_true rfl]
 by_cases hcd : cd = 1
 · subst hcd
   go_wp2_with fail
   go_ret
   exact ⟨rfl, hbw7⟩
 have zd1 : ((cd : Int) == 1) = false := by simp [hcd]
 have hpre : N <= M /\ ∀ k, k < N -> ys.getD k ⟨#[]⟩ = ss.getD k ⟨#[]⟩ := by
  rcases hgh.out with q | ⟨_, rfl, _⟩ | ⟨_, ⟨ad, rfl⟩, _⟩
  · exact absurd q hcd
  · exact ⟨by omega, fun _ _ => rfl⟩
  · refine ⟨by rw [List.length_append] at hM; omega, fun k hk => ?_⟩
    rw [List.getD_eq_getElem?_getD, List.getD_eq_getElem?_getD, List.getElem?_append_left (by omega)]
 have hprh : Hid (∀ k, k < N -> ys.getD k ⟨#[]⟩ = ss.getD k ⟨#[]⟩) := hpre.2
 have hNM : N <= M := hpre.1
 clear hpre hcd
 have hNl : Hid (ss.length = N) := hN
 have hMl : Hid (ys.length = M) := hM
 have hNb : N <= 19999 := by have := hss.len; omega
 clear hN hM
 go_upto_region 11 with fail
 go_wp2_with fail
 go_loopw [9] (fun t wr => ∃ k : Nat, k <= N /\ t = .int .i64 (k : Int) /\ Below w7.heap.size w7 wr) (fun t _ => N - (intOf t).toNat)
 case atStart => exact ⟨0, Nat.zero_le _, rfl, Below.refl _ _⟩
 case round =>
  obtain ⟨k, hk, rfl, hbk⟩ := hrel
  have nS8 := (hbk.block gs (Array.getElem?_eq_some_iff.1 nS).1).trans nS
  have nW8 := (hbk.block gw (Array.getElem?_eq_some_iff.1 nW7).1).trans nW7
  have nQ8 := pblk_below hbk nQ7
  have s0 := ZC nS8 0
  have s1 := ZC nS8 1
  have s2 := ZC nS8 2
  have s3 := ZC nS8 3
  have s4 := ZC nS8 4
  have s5 := ZC nS8 5
  have v0 := ZC nW8 0
  have q0 := ZC nQ8 0
  have q1 := ZC nQ8 1
  by_cases hlt : k < N
  · have z1 : decide ((k : Int) < (N : Int)) = true := by simp; omega
    have hx0 : (0 : Int) <= (k : Int) := Int.natCast_nonneg _
    have hx1 : (k : Int) < (N : Int) := by omega
    have hx2 : (k : Int) < (M : Int) := by omega
    obtain ⟨b1, off1, rfl, hbl1, hc⟩ := (hTs.below hbk).at_ (by rw [hMl.out]; omega)
    obtain ⟨b2, off2, rfl, hbl2, hd⟩ := (hSq7.below hbk).at_ (by rw [hNl.out]; omega)
    have hc1 := hc k (by rw [hMl.out]; omega)
    have hd1 := hd k (by rw [hNl.out]; exact hlt)
    rw [hprh.out k hlt] at hc1
    generalize ss.getD k ⟨#[]⟩ = u at hc1 hd1
    have zu : (u.toList == u.toList) = true := by rw [ba_eq, decide_eq_true rfl]
    clear hc hd
    go_wp2_with fail
    go_quiet (fail)
    go_wp2_with fail
    go_roundw
    case rel => exact ⟨k + 1, hlt, by go_num, below_draws nq hbk⟩
    case measure => simp [intOf]; omega
  · obtain rfl : k = N := by omega
    have z1 : decide ((k : Int) < (k : Int)) = false := by simp
    have hgsl := (Array.getElem?_eq_some_iff.1 nS8).1
    have hgql := (Array.getElem?_eq_some_iff.1 nQ8).1
    have hdr : Below wr.heap.size wr wr.drew := draws_below 1 (Below.refl _ _)
    have hKr : Hid (KT wr) := hK7.out.below hbk
    have hbwr := hbw7.trans (hbk.mono hbw7.size)
    have hTr := hTs.below hbk
    have hPr := hPq7.below hbk
    clear hbk nS8 nW8 nQ8 nS nW7 nQ7 hTs hPq7 hSq7 hK7 hbw7 hprh hNM hk hlt
    rcases hgh.out with q | ⟨h4, hy4, hxy, dg, hd1, hd2, hd3, hd4⟩ | ⟨h0, hy0, hrt, hld⟩
    · rw [q] at zd1
      exact absurd zd1 (by decide)
    · have J1 : Hid (∀ w', Calls prog 14 #[.string x', .int .i64 n] w' fun e w'' => e = .returned (.string dg) /\ Below w'.heap.size w' w'') := hd1
      have J2 : Hid (∀ w', Calls prog 14 #[.string y', .int .i64 n] w' fun e w'' => e = .returned (.string dg) /\ Below w'.heap.size w' w'') := hd2
      have J3 : Hid (∀ w', KT w' -> Calls prog 31 #[.string x', .int .i64 n] w' fun e w'' => e = .returned (.string dg) /\ Below w'.heap.size w' w'') := hd3
      have J4 : Hid (∀ w', KT w' -> Calls prog 31 #[.string y', .int .i64 n] w' fun e w'' => e = .returned (.string dg) /\ Below w'.heap.size w' w'') := hd4
      clear hd1 hd2 hd3 hd4 hy4
      have z4 : ((cd : Int) == 4) = true := by rw [h4]; decide
      have zxz : (x'.toList == y'.toList) = false := by rw [ba_eq, decide_eq_false hxy]
      have zd : (dg.toList == dg.toList) = true := by rw [ba_eq, decide_eq_true rfl]
      clear h4 hxy hgh
      go_upto_region 17 with fail
      go_region_held3 (fun W => W.cell? ⟨gs, 4, none⟩ = some (.string x') /\ W.cell? ⟨gs, 5, none⟩ = some (.string y') /\ W.cell? ⟨gq, 0, none⟩ = some (.int .i64 n)) (first | exact ⟨s4, s5, q0⟩ | exact ⟨r4, r5, rk⟩ | exact ⟨t4, t5, tk⟩ | exact ⟨u4, u5, uk⟩ | exact ⟨o4, o5, ok⟩) (first | (go_at_call_of 14 (Value.string x'); refine (J1.out _).mono ?_; rintro e w8 ⟨rfl, hb8⟩; have hb8' : Below wr.heap.size wr w8 := hdr.trans (hb8.mono hdr.size); have r4 := (hb8'.cell (p := ⟨gs, 4, none⟩) hgsl).trans s4; have r5 := (hb8'.cell (p := ⟨gs, 5, none⟩) hgsl).trans s5; have rk := (hb8'.cell (p := ⟨gq, 0, none⟩) hgql).trans q0) | (go_at_call_of 14 (Value.string y'); refine (J2.out _).mono ?_; rintro e w9 ⟨rfl, hb9⟩; have hb9' : Below wr.heap.size wr w9 := hb8'.trans (hb9.mono hb8'.size); have t4 := (hb9'.cell (p := ⟨gs, 4, none⟩) hgsl).trans s4; have t5 := (hb9'.cell (p := ⟨gs, 5, none⟩) hgsl).trans s5; have tk := (hb9'.cell (p := ⟨gq, 0, none⟩) hgql).trans q0) | (go_at_call_of 31 (Value.string x'); refine (J3.out _ (hKr.out.below hb9')).mono ?_; rintro e w10 ⟨rfl, hb10⟩; have hb10' : Below wr.heap.size wr w10 := hb9'.trans (hb10.mono hb9'.size); have u4 := (hb10'.cell (p := ⟨gs, 4, none⟩) hgsl).trans s4; have u5 := (hb10'.cell (p := ⟨gs, 5, none⟩) hgsl).trans s5; have uk := (hb10'.cell (p := ⟨gq, 0, none⟩) hgql).trans q0) | (go_at_call_of 31 (Value.string y'); refine (J4.out _ (hKr.out.below hb10')).mono ?_; rintro e w11 ⟨rfl, hb11⟩; have hb11' : Below wr.heap.size wr w11 := hb10'.trans (hb11.mono hb10'.size); have o4 := (hb11'.cell (p := ⟨gs, 4, none⟩) hgsl).trans s4; have o5 := (hb11'.cell (p := ⟨gs, 5, none⟩) hgsl).trans s5; have ok := (hb11'.cell (p := ⟨gq, 0, none⟩) hgql).trans q0))
      go_wp2_with fail
      go_ret
      exact ⟨rfl, hbwr.trans (hb11'.mono hbwr.size)⟩
    · have JR : Hid (∀ w' aq cq, PArg aq ps w' -> Q <= cq -> Calls prog 11 #[.slice aq Q cq, .int .i64 n] w' fun e w'' => e = .returned (.string R) /\ Below w'.heap.size w' w'') := fun w' aq cq h hc => by
       have := hrt w' aq cq h (by rw [hQ]; exact hc)
       rw [hQ] at this
       exact this
      have JX : Hid (∀ w' a b c d, PArg a ps w' -> PArg b ps w' -> Calls prog 22 #[.slice a Q c, .slice b Q d] w' fun e w'' => e = .returned (.bool true) /\ Below w'.heap.size w' w'') := fun w' a b c d h1 h2 => by
       have := wsame_any a b ps ps c d w' h1 h2
       rw [hQ, decide_eq_true rfl] at this
       exact this
      have hldh : Hid _ := hld
      have z4 : ((cd : Int) == 4) = false := by rw [h0]; decide
      clear h0 hy0 hrt hgh hld
      have hPd := hPr.below hdr
      go_upto_region 18 with fail
      go_region_held3 (fun W => W.cell? ⟨gs, 3, none⟩ = some (.string R) /\ W.cell? ⟨gq, 0, none⟩ = some (.int .i64 n)) (first | exact ⟨s3, q0⟩ | exact ⟨r3, rk⟩) (first | (go_at_call 11; refine (JR.out _ aq2 cq2 hPd hc2).mono ?_; rintro e w8 ⟨rfl, hb8⟩; have hb8' : Below wr.heap.size wr w8 := hdr.trans (hb8.mono hdr.size); have r3 := (hb8'.cell (p := ⟨gs, 3, none⟩) hgsl).trans s3; have rk := (hb8'.cell (p := ⟨gq, 0, none⟩) hgql).trans q0))
      have hq1 := (hb8'.cell (p := ⟨gq, 1, none⟩) hgql).trans q1
      have hs1 := (hb8'.cell (p := ⟨gs, 1, none⟩) hgsl).trans s1
      have hs2 := (hb8'.cell (p := ⟨gs, 2, none⟩) hgsl).trans s2
      by_cases hbig : 1000 < k
      · have zb : decide ((1000 : Int) < (k : Int)) = true := by simp; omega
        have zb' : decide (1000 < k) = true := by simp; omega
        go_wp2_with fail
        go_ret
        exact ⟨rfl, hbwr.trans (hb8'.mono hbwr.size)⟩
      · have zb : decide ((1000 : Int) < (k : Int)) = false := by simp; omega
        have zb' : decide (1000 < k) = false := by simp; omega
        have JL : Hid (∀ w' ap cp, SArg ap ys w' -> KT w' -> Calls prog 21 #[.agg #[.int .i64 n', .slice ap M cp], .string R] w' fun e w'' => ∃ a c, e = .returned (.tuple #[.slice a Q c, .int .i64 0]) /\ PArg a ps w'' /\ Below w'.heap.size w' w'') := fun w' ap cp h hk => by
         have := (hldh.out (by rw [hNl.out]; omega) w' ap cp h hk).mono fun e w'' q => q.parg hps
         simp only [hQ, hMl.out] at this
         exact this
        clear hbig hldh
        have hT8 := hTr.below hb8'
        have hP8 := hPr.below hb8'
        have hK8 : Hid (KT w8) := hKr.out.below hb8'
        go_wp2_with (first | (go_at_call 21; refine (JL.out _ a6 c6 hT8 hK8.out).mono ?_; rintro e w9 ⟨a9, c9, rfl, hP9, hb9⟩) | (go_at_call 22; refine (JX.out _ a9 aq2 c9 cq2 hP9 (hP8.below hb9)).mono ?_; rintro e w10 ⟨rfl, hb10⟩))
        go_ret
        have hb19 := hb8'.trans (hb9.mono hb8'.size)
        have hb20 := hb19.trans (hb10.mono hb19.size)
        exact ⟨rfl, hbwr.trans (hb20.mono hbwr.size)⟩
theorem txt_le {u : ByteArray} (h : u.size <= 10001) : (txt u).size <= 1048576 := by
 unfold txt
 rw [ByteArray.size_append]
 show 1 + _ <= _
 omega
theorem law_fnsave (a : Option Addr) (xs : List Int) (c : Nat) (w : World) (_hl : xs.length <= maxLen) (hw : ∀ x ∈ xs, (Lit.int .u8 x).wf = true)
 (h : 0 < xs.length -> ∃ b off : Nat, a = some ⟨b, off, none⟩ /\ b < w.heap.size /\ ∀ j, j < xs.length -> w.cell? ⟨b, off + j, none⟩ = some (.int .u8 (xs.getD j 0)))
 (hK : ∀ j, j < 64 -> w.cell? ⟨0, j, none⟩ = some (.int .u32 ((kTab.getD j 0).toNat : Int))) :
 Calls prog 6 #[.slice a xs.length c] w fun e w' => e = .returned (.bool true) /\ Below w.heap.size w w' := by
 by_cases g1 : 1048576 < xs.length
 · have z1 : decide ((1048576 : Int) < (xs.length : Int)) = true := by simp; omega
   clear hw h hK
   go_enter func6, ntmps6
   go_wp2_with fail
   go_ret
   exact ⟨rfl, Below.refl _ _⟩
 obtain ⟨ys, hyl, hX, hB⟩ := BL.of (by omega) hw h
 rw [<- hyl]
 obtain ⟨n, ss, ps, ⟨hn0, hn1, hss, hps⟩, HDw⟩ := dsave_det digSaid a ys c hX
 obtain ⟨D, hdo, HD1, _, hDE⟩ := dec_all n
 have hsz : Hid (∀ j, (ss.getD j ⟨#[]⟩).size <= 1048575) := fun j => Nat.le_trans (hss.getD j) (by omega)
 have HSS := fun w ap cp aq cq (hS : SArg ap ss w) (hP : PArg aq ps w) (hc : ps.length <= cq) => ssave_any digSaid n ap ss cp aq ps cq w hS hsz hP hc
 have HIS := fun w ap cp aq cq (hS : SArg ap ss w) (hP : PArg aq ps w) (hk : KT w) => isave_any (fun s w' hs hk => ehash_any s w' hs hk) n ap ss cp aq ps cq w hS hP hk
 have hen := saveO_ends (n := n) hss hps.len
 obtain ⟨S, hSe⟩ : ∃ S, saveO n ss ps = S := ⟨_, rfl⟩
 rw [hSe] at HSS HIS hen
 obtain ⟨cd, n', zs, R, x', y'⟩ := S
 clear hSe
 refine save_all a ys c n cd n' ss zs R x' y' ps w hX.le hB hK HDw HSS HIS hss ?_ (hps.small (by omega)) ?_
 · rcases hen with q | ⟨wd, _, _, _, _, ⟨ad, _, q, hsm, _⟩ | ⟨u, e, q, _⟩⟩
   · injection q with _ _ e3
     rw [e3]
     exact ⟨Nat.zero_le _, fun _ hx => absurd hx List.not_mem_nil⟩
   · injection q with _ _ e3
     rw [e3]
     exact hsm.up2 (by omega) (by omega)
   · injection q with _ _ e3
     rw [e3]
     exact hss.up2 (by omega) (by omega)
 · clear HSS HIS HDw
   rcases hen with q | ⟨wd, rfl, h1, h2, hm, ⟨ad, hgo, q, hsm, hal⟩ | ⟨u, e, q, hue, hh, hu, he⟩⟩
   · injection q with e1
     exact .inl e1
   · injection q with e1 e2 e3 e4
     subst e1 e2 e3 e4
     have hrt : rootS ps (wd : Int) = rootT wd (cutTree ps) := by
      unfold rootS
      rw [if_pos, Int.toNat_natCast]
      rw [hm]
      unfold isW
      simp
      omega
     refine .inr (.inr ⟨rfl, ⟨ad, rfl⟩, fun w aq cq hP hc => ?_, fun hl w ap cp hS hk => ?_⟩)
     · have := rootSpec_any aq ps cq (wd : Int) w hP hc
       rw [hrt] at this
       exact this
     · have hrs := rootT_size wd h2 (cutTree ps)
       have := iload_any (fun s w' hs hk => ehash_any s w' hs hk) D (wd : Int) HD1 hdo ap (ss ++ ad) cp (rootT wd (cutTree ps)) w hS hk (by omega)
       rw [Int.toNat_natCast, saved_loads D wd (hDE wd rfl) h1 h2 hm hgo (by rw [List.length_append]; omega)] at this
       exact this
   · injection q with e1 e2 e3 e4 e5 e6
     subst e1 e2 e3 e4 e5 e6
     refine .inr (.inl ⟨rfl, rfl, txt_inj2 hue, hashT wd u, fun w' => ?_, fun w' => ?_, fun w' hk => ?_, fun w' hk => ?_⟩)
     · have := sdig_yes (txt u) wd w' (txt_le hu) h1 h2
       rw [dig_hash] at this
       exact this
     · have := sdig_yes (txt e) wd w' (txt_le he) h1 h2
       rw [dig_hash, <- hh] at this
       exact this
     · have := idig_any (txt u) wd w' (txt_le hu) h1 h2 hk
       rw [dig_hash] at this
       exact this
     · have := idig_any (txt e) wd w' (txt_le he) h1 h2 hk
       rw [dig_hash, <- hh] at this
       exact this
end Go.Proofs.YtfmpjlpakldheaaGreatDoor
