import Derived.Test.YtfmpjlpakldheaaGreatDoorZrbj
import Derived.Deep.DeepCutAuto
set_option maxRecDepth 100000
set_option maxHeartbeats 20000000
namespace Go.Proofs.YtfmpjlpakldheaaGreatDoor
open Go.RowKit Go.Proofs.Sha Tryz
theorem roots_all (a b : Option Addr) (xs ys : List Nat) (cap cb : Nat) (ps : List PairT) (n0 W : Nat) (D : Dec) (w : World) (hL : xs.length <= 1048576) (hY : Code8 ys) (hB : BL a xs w) (hB2 : BL b ys w) (hK : KT w)
 (HDr : ∀ w, BL a xs w -> Calls prog 15 #[.slice a xs.length cap] w (RtGot ps n0 w)) (hW : W = if n0 < 8 then n0 + 8 else n0) (hn : n0 <= 33) (hps : SmQ ps 501) (hkz : ps.length <= 40 -> KZ ps)
 (HD : Hid (∀ wd : Nat, (wd : Int) = (W : Int) -> 1 <= wd -> wd <= 32 -> DecSaid 181 wd D)) (hdo : ∀ wd : Nat, (wd : Int) = (W : Int) -> DecOk wd D) (hDE : DecEnc W D) :
 Calls prog 4 #[.slice a xs.length cap, .slice b ys.length cb] w fun e w' => e = .returned (.bool true) /\ Below w.heap.size w w' := by
 have H1 : Hid (∀ w', Below w.heap.size w w' -> Calls prog 15 #[.slice a xs.length cap] w' (RtGot ps n0 w')) := fun w' hb => HDr w' (hB.below hb)
 unfold RtGot at H1
 have HPk : Hid (∀ (i : Nat) w', i <= 100000 -> Below w.heap.size w w' -> Calls prog 16 #[.slice b ys.length cb, .int .i64 (i : Int)] w' fun e w'' => ∃ v : Nat, v <= 100000 /\ e = .returned (.int .i64 (v : Int)) /\ Below w'.heap.size w' w'') := fun i w' hi hb => pick_any b ys cb i w' hY (hB2.below hb) hi
 have z0 : decide ((1048576 : Int) < (xs.length : Int)) = false := by simp; omega
 have z0y : decide ((1048576 : Int) < (ys.length : Int)) = false := by have := hY.le; simp; omega
 obtain ⟨L, hLL⟩ : ∃ L, xs.length = L := ⟨_, rfl⟩
 rw [hLL] at H1 z0 hL ⊢
 obtain ⟨LY, hLY⟩ : ∃ L, ys.length = L := ⟨_, rfl⟩
 rw [hLY] at HPk z0y ⊢
 clear hLL hLY HDr
 obtain ⟨Q, hQ⟩ : ∃ N, ps.length = N := ⟨_, rfl⟩
 rw [hQ] at H1
 have hKh : Hid (KT w) := hK
 have hQb : Q <= 501 := by have := hps.len; omega
 have hW33 : W <= 33 := by rw [hW]; split <;> omega
 have JR : Hid (∀ w' aq cq, PArg aq ps w' -> Q <= cq -> Calls prog 11 #[.slice aq Q cq, .int .i64 (W : Int)] w' fun e w'' => e = .returned (.string (rootS ps (W : Int))) /\ Below w'.heap.size w' w'') := fun w' aq cq h hc => by
  have := rootSpec_any aq ps cq (W : Int) w' h (by rw [hQ]; exact hc)
  rw [hQ] at this
  exact this
 have JI : Hid (∀ w' aq cq, PArg aq ps w' -> KT w' -> Calls prog 12 #[.slice aq Q cq, .int .i64 (W : Int)] w' fun e w'' => e = .returned (.string (rootS ps (W : Int))) /\ Below w'.heap.size w' w'') := fun w' aq cq h hk => by
  have := rootImpl_any aq ps cq (W : Int) w' h hk
  rw [hQ] at this
  exact this
 have hRm : 0 < (rootS ps (W : Int)).size -> isMapT ps = true /\ 1 <= W /\ W <= 32 /\ rootS ps (W : Int) = rootT W (cutTree ps) := fun h => by
  unfold rootS at h ⊢
  by_cases hq : (isMapT ps && isW (W : Int)) = true
  · obtain ⟨h1, h2⟩ := (Bool.and_eq_true _ _).mp hq
    obtain ⟨m, hm, k1, k2⟩ := isW_out h2
    rw [if_pos hq, Int.toNat_natCast]
    exact ⟨h1, by omega, by omega, rfl⟩
  · rw [if_neg hq] at h
    exact absurd h (Nat.lt_irrefl _)
 obtain ⟨want, hwant⟩ : ∃ r, rootS ps (W : Int) = r := ⟨_, rfl⟩
 rw [hwant] at JR JI hRm
 have hWh : Hid _ := hW
 clear hK hB hB2 hW hwant
 go_enter func4, ntmps4
 go_upto_if 36 with (first | (go_at_call 15; refine (H1.out _ (Below.refl _ _)).mono ?_; rintro e w1 ⟨a1, c1, rfl, hP1, hc1, hb1⟩))
 go_cut [6] (fun s6 wx => s6 = .int .i64 (W : Int) /\ wx = w1)
 case first =>
  by_cases h8 : n0 < 8
  · have z8 : decide ((n0 : Int) < 8) = true := by simp; omega
    have z8' : decide (n0 < 8) = true := by simp; omega
    have y8 : IntKind.i64.wrap ((n0 : Int) + 8) = (W : Int) := by rw [wrap_i64_in _ (by omega) (by omega), hWh.out, if_pos h8]; omega
    go_wp2_with fail
    go_meet
    exact ⟨rfl, rfl⟩
  · have z8 : decide ((n0 : Int) < 8) = false := by simp; omega
    have z8' : decide (n0 < 8) = false := by simp; omega
    have y8 : (W : Int) = (n0 : Int) := by rw [hWh.out, if_neg h8]
    go_wp2_with fail
    go_meet
    exact ⟨by rw [y8], rfl⟩
 case rest =>
 obtain ⟨rfl, hwc⟩ := hcut
 subst wc
 clear hWh hn
 go_upto_region 7 with (first | (go_at_call 11; refine (JR.out _ a1 c1 hP1 hc1).mono ?_; rintro e w2 ⟨rfl, hb2⟩))
 have hb12 := hb1.trans (hb2.mono hb1.size)
 have hP2 := hP1.below hb2
 clear hP1
 by_cases h40 : 40 < Q
 · have z40 : decide ((40 : Int) < (Q : Int)) = true := by simp; omega
   have z40' : decide (40 < Q) = true := by simp; omega
   go_wp2_with fail
   go_ret
   exact ⟨rfl, hb12⟩
 have z40 : decide ((40 : Int) < (Q : Int)) = false := by simp; omega
 have z40' : decide (40 < Q) = false := by simp; omega
 by_cases hw0 : want.size = 0
 · have zw : ((want.size : Int) == 0) = true := by rw [hw0]; rfl
   have zw' : (want.size == 0) = true := by rw [hw0]; rfl
   clear hw0
   go_wp2_with (first | (go_at_call 12; refine (JI.out _ a1 c1 hP2 (hKh.out.below hb12)).mono ?_; rintro e w3 ⟨rfl, hb3⟩))
   go_ret
   exact ⟨rfl, hb12.trans (hb3.mono hb12.size)⟩
 have zw : ((want.size : Int) == 0) = false := by rw [beq_eq_false_iff_ne]; omega
 have zw' : (want.size == 0) = false := by rw [beq_eq_false_iff_ne]; omega
 obtain ⟨hmap, hW1, hW2, hrt⟩ := hRm (by omega)
 have hrth : Hid (want = rootT W (cutTree ps)) := hrt
 have hkz' := hkz (by omega)
 have hku := ku_of_map hmap
 have hok := isMapT_ok ps hmap
 clear hRm hw0 hrt hkz
 have hNl : Hid (ps.length = Q) := hQ
 have hQ40 : Q <= 40 := by omega
 clear h40 hQ
 obtain ⟨i0, hi0, hz0, hz1, hz2⟩ := info_parts2 info37
 have hO := OwnP.nil w2
 go_upto_region 11 with fail
 go_wp2_with fail
 go_loopw [8, 9] (fun t8 t9 wr => ∃ k : Nat, k <= Q /\ t9 = .int .i64 (k : Int) /\ ∃ (a' : Option Addr) (m d' : Nat), t8 = .slice a' m d' /\ OwnP w2 (ps.take k) a' m d' wr) (fun _ t9 _ => Q - (intOf t9).toNat)
 case atStart => exact ⟨0, Nat.zero_le _, rfl, _, _, _, rfl, hO⟩
 case round =>
 clear hO
 obtain ⟨k, hk, rfl, a', m, d', rfl, hT⟩ := hrel
 by_cases hlt : k < Q
 · have z1 : decide ((k : Int) < (Q : Int)) = true := by simp; omega
   have hx0 : (0 : Int) <= (k : Int) := Int.natCast_nonneg _
   have hx1 : (k : Int) < (Q : Int) := by omega
   obtain ⟨b1, off1, rfl, hbl1, hc⟩ := (hP2.below hT.bel).at_ (by rw [hNl.out]; omega)
   obtain ⟨hc1', hc2'⟩ := hc k (by rw [hNl.out]; exact hlt)
   have hml : m <= 1048576 := by have := hT.len; rw [List.length_take] at this; omega
   have htk : Hid (ps.take (k + 1) = ps.take k ++ [ps.getD k noPair]) := take_getD ps k (by rw [hNl.out]; exact hlt)
   generalize ps.getD k noPair = p at hc1' hc2' htk
   obtain ⟨pk, pv⟩ := p
   simp only at hc1' hc2'
   have hbs := hT.bel.size
   have own := hT.own
   clear hc
   go_wp2_with (at_builtin; refine wpList_append_lies _ rfl (.tmp 67) (.tmp 72) 23 rfl w2.heap.size 34 i0 (.agg #[.string ⟨#[]⟩, .string ⟨#[]⟩]) 2 32 Tryz.underlying23 hi0 hz0 hz1 hz2 rfl (by decide) (.slice a' m d') m (flatP (ps.take k)) rfl (own.alloc _) ⟨wr.heap.size, 0, none⟩ 1 1 [.string pk, .string pv] rfl rfl (World.news_of_block (heap_alloc_new wr _)) (by simp [Value.oneCell']) (by decide) (by unfold maxLen; omega) (by omega) (by simp; omega) (wr.heap.size + 1) (by simp) ?_; intro g5 c5 w5 hown5 hgrow5 hat5 hlt5)
   go_roundw
   case rel => exact ⟨k + 1, hlt, by go_num, _, _, _, rfl, by rw [htk.out]; exact hT.more hown5 hgrow5 rfl⟩
   case measure => simp [intOf]; omega
 obtain rfl : k = Q := by omega
 have z1 : decide ((k : Int) < (k : Int)) = false := by simp
 rw [List.take_of_length_le (by rw [hNl.out]; exact Nat.le_refl _)] at hT
 have hl := hT.len
 rw [hNl.out] at hl
 subst hl
 have hPL := ownp_parg hT (hps.small (by omega))
 have hcL : k <= d' := own2_le hT.own
 have hbwr := hb12.trans (hT.bel.mono hb12.size)
 have hPo := hP2.below hT.bel
 clear hT hP2 hb12 hb2 hb1 hk hlt z0 z0y z40 z40' zw zw' hz0 hz1 hz2 hi0 i0
 have al : Below wr.heap.size wr (wr.alloc (.cells #[.int .i64 (W : Int), .slice none 0 0] 37)) := (Below.refl _ _).alloc (Nat.le_refl _) _
 have nG := heap_alloc_new wr (.cells #[.int .i64 (W : Int), .slice none 0 0] 37)
 have hPL2 := hPL.below al
 have hPo2 := hPo.below al
 have hbw4 := hbwr.trans (al.mono hbwr.size)
 have hgl := hbwr.size
 have HPut : Hid (∀ w' ap cp ss root key val, SArg ap ss w' -> KT w' -> root.size <= 1048576 -> key.size <= 1048576 -> val.size <= 1048576 -> Calls prog 17 #[.agg #[.int .i64 (W : Int), .slice ap ss.length cp], .string root, .string key, .string val] w' (SavedIs (putO D (W : Int) ss root key val) w')) := fun w' ap cp ss root key val h hk h1 h2 h3 => iput_any (fun s w' hs hk => ehash_any s w' hs hk) D (W : Int) HD hdo ap ss cp root key val w' h hk h1 h2 h3
 have HDel : Hid (∀ w' ap cp ss root key, SArg ap ss w' -> KT w' -> root.size <= 1048576 -> key.size <= 1048576 -> Calls prog 19 #[.agg #[.int .i64 (W : Int), .slice ap ss.length cp], .string root, .string key] w' (SavedIs (delO D (W : Int) ss root key) w')) := fun w' ap cp ss root key h hk h1 h2 => idel_any (fun s w' hs hk => ehash_any s w' hs hk) D (W : Int) HD hdo ap ss cp root key w' h hk h1 h2
 have HLd : Hid (∀ w' ap cp ss root, SArg ap ss w' -> KT w' -> root.size <= 1048576 -> Calls prog 21 #[.agg #[.int .i64 (W : Int), .slice ap ss.length cp], .string root] w' (RangeAt (rangeM (fndD D W ss) (W : Int) ss.length root ⟨#[]⟩ ⟨#[]⟩) w')) := fun w' ap cp ss root h hk h1 => by
  have := iload_any (fun s w' hs hk => ehash_any s w' hs hk) D (W : Int) HD hdo ap ss cp root w' h hk h1
  rw [Int.toNat_natCast] at this
  exact this
 have hdoW := hdo W rfl
 have hRS0 := RS.start hDE hW1 hW2
 have hLM0 : LM ps ps [] 0 := LM.start hku
 clear HD
 go_wp2_with fail
 generalize wr.alloc (.cells #[.int .i64 (W : Int), .slice none 0 0] 37) = w4 at nG hPL2 hPo2 hbw4 ⊢
 obtain ⟨gp, hgp⟩ : ∃ g, wr.heap.size = g := ⟨_, rfl⟩
 rw [hgp] at nG hgl
 try rw [hgp]
 clear hgp al hPL hPo hbwr
 go_loopw [8, 11, 12] (fun t8 t11 t12 wr => ∃ (i : Nat) (left m : List PairT) (ss : List ByteArray) (root : ByteArray) (aL : Option Addr) (cL : Nat) (ap : Option Addr) (cp : Nat), t12 = .int .i64 (i : Int) /\ t8 = .slice aL left.length cL /\ t11 = .string root /\ PArg aL left wr /\ left.length <= cL /\ wr.heap[gp]? = some (.cells #[.int .i64 (W : Int), .slice ap ss.length cp] 37) /\ SArg ap ss wr /\ RS D W ss root m (84 * i) /\ LM ps left m i /\ i + left.length <= k /\ Below w.heap.size w wr /\ PArg a1 ps wr) (fun t8 _ _ _ => slen t8)
 case atStart => exact ⟨0, ps, [], [], ⟨#[]⟩, a', d', none, 0, rfl, by rw [hNl.out], rfl, hPL2, by rw [hNl.out]; exact hcL, nG, ⟨Nat.zero_le _, fun _ => Nat.zero_le _, fun h => absurd h (Nat.lt_irrefl _)⟩, hRS0, hLM0, by rw [hNl.out]; omega, hbw4, hPo2⟩
 case round =>
 clear hPL2 hPo2 hbw4 nG hRS0 hLM0 hcL
 obtain ⟨i, left, m, ss, root, aL, cL, ap, cp, rfl, rfl, rfl, hPL, hcL, nG, hS, hRS, hLM, hil, hbw, hPo⟩ := hrel
 obtain ⟨NL, hNL⟩ : ∃ N, left.length = N := ⟨_, rfl⟩
 obtain ⟨NS, hNS⟩ : ∃ N, ss.length = N := ⟨_, rfl⟩
 rw [hNL] at hcL hil
 rw [hNS] at nG
 rw [hNL]
 have g0 := ZC nG 0
 have g1 := ZC nG 1
 by_cases h0 : NL = 0
 · have zz : decide ((0 : Int) < (NL : Int)) = false := by simp; omega
   have zz' : decide (0 < NL) = false := by simp; omega
   obtain rfl : left = [] := List.length_eq_zero_iff.1 (hNL.trans h0)
   have hmp := hLM.fin hku (hRS.up hdoW)
   subst hmp
   have JL : Hid (Calls prog 21 #[.agg #[.int .i64 (W : Int), .slice ap NS cp], .string root] wr fun e w' => ∃ a c, e = .returned (.tuple #[.slice a k c, .int .i64 0]) /\ PArg a m w' /\ Below wr.heap.size wr w') := by
    have := HLd.out wr ap cp ss root hS (hKh.out.below hbw) (by rw [hRS.rt]; have := rootT_size W hW2 (cutTree m); omega)
    rw [hRS.ld, hNS] at this
    refine this.mono fun e w' q => ?_
    have := q.parg (hps.small (by omega))
    simp only [hNl.out] at this
    exact this
   have JX : Hid (∀ w' a b c d, PArg a m w' -> PArg b m w' -> Calls prog 22 #[.slice a k c, .slice b k d] w' fun e w'' => e = .returned (.bool true) /\ Below w'.heap.size w' w'') := fun w' a b c d h1 h2 => by
    have := wsame_any a b m m c d w' h1 h2
    rw [hNl.out, decide_eq_true rfl] at this
    exact this
   have hre : Hid (root = want) := by show _ = _; rw [hrth.out, hRS.rt]
   have zr : (root.toList == want.toList) = true := by rw [ba_eq, decide_eq_true hre.out]
   have zr2 : (want.toList == want.toList) = true := by rw [ba_eq, decide_eq_true rfl]
   clear hLM hRS hPL nG hS h0 HPut HDel HLd HPk JR
   go_upto_region 38 with (first | (go_at_call 21; refine JL.out.mono ?_; rintro e w6 ⟨a6, c6, rfl, hP6, hb6⟩))
   have hbw6 := hbw.trans (hb6.mono hbw.size)
   have hPo6 := hPo.below hb6
   go_upto_region 39 with (first | (go_at_call 15; refine (H1.out _ hbw6).mono ?_; rintro e w7 ⟨a7, c7, rfl, hP7, hc7, hb7⟩))
   have hbw7 := hbw6.trans (hb7.mono hbw6.size)
   have hP67 := hP6.below hb7
   have hPo7 := hPo6.below hb7
   go_wp2_with (first | (go_at_call 12; refine (JI.out _ a7 c7 hP7 (hKh.out.below hbw7)).mono ?_; rintro e w8 ⟨rfl, hb8⟩) | (go_at_call 22; refine (JX.out _ a6 a1 c6 c1 (hP67.below hb8) (hPo7.below hb8)).mono ?_; rintro e w9 ⟨rfl, hb9⟩))
   go_ret
   have hbw8 := hbw7.trans (hb8.mono hbw7.size)
   exact ⟨rfl, hbw8.trans (hb9.mono hbw8.size)⟩
 have zz : decide ((0 : Int) < (NL : Int)) = true := by simp; omega
 have zz' : decide (0 < NL) = true := by simp; omega
 have hi40 : i <= 40 := by omega
 have yNL : ¬ NL = 0 := h0
 go_upto_region 20 with (first | (go_at_call 16; refine (HPk.out i _ (by omega) hbw).mono ?_; rintro e w5 ⟨v, hv, rfl, hb5⟩; have hmt : v % NL < NL := Nat.mod_lt _ (by omega); have ym : (v : Int).tmod (NL : Int) = ((v % NL : Nat) : Int) := (by rw [Int.tmod_eq_emod_of_nonneg (by omega)]; exact (Int.natCast_emod _ _).symm); obtain ⟨at', hat⟩ : ∃ r, v % NL = r := ⟨_, rfl⟩; rw [hat] at hmt ym; clear hat))
 have hbw5 := hbw.trans (hb5.mono hbw.size)
 have hPL5 := hPL.below hb5
 have hS5 := hS.below hb5
 have hPo5 := hPo.below hb5
 have nG5 := pblk_below hb5 nG
 clear ym hPL hS hPo nG hb5 hbw g0 g1 zz zz' h0 hv
 obtain ⟨b1, off1, rfl, hbl1, hcs⟩ := hPL5.at_ (by rw [hNL]; omega)
 have hq1 : left.getD at' noPair ∈ left := by
  rw [List.getD_eq_getElem?_getD, List.getElem?_eq_getElem (by rw [hNL]; exact hmt)]
  exact List.getElem_mem _
 obtain ⟨hck, hcv⟩ := hcs at' (by rw [hNL]; exact hmt)
 have hqok := hok _ (hLM.sub _ hq1)
 obtain ⟨q, hqe⟩ : ∃ q, left.getD at' noPair = q := ⟨_, rfl⟩
 rw [hqe] at hck hcv hq1 hqok
 have hLM2 := hLM.step hq1
 have hno := fun k => other_no hLM2 hkz' k
 have hlt2 : (wout left q.1).length < NL := by rw [<- hNL]; exact wout_lt hq1
 obtain ⟨qk, qv⟩ := q
 have hkk : 1 <= qk.size /\ qk.size <= 256 := of_decide_eq_true hqok.1
 have hvv : qv.size <= 2000 := of_decide_eq_true hqok.2
 have hmlen := hLM.len
 have hput := hRS.put hDE hdoW hW1 hW2 (key := qk) (val := qv) hqok.1 hqok.2 (by omega) (by omega)
 simp only at hck hcv hLM2 hlt2
 have hrs : root.size <= 32 := by rw [hRS.rt]; have := rootT_size W hW2 (cutTree m); omega
 obtain ⟨o, ho⟩ : ∃ o, putO D (W : Int) ss root qk qv = o := ⟨_, rfl⟩
 rw [ho] at hput
 have hosm : SmT o.xs 20000 20000 := by
  have hsl := hRS.sm.len
  rcases hput with ⟨ad, rfl, h2, _⟩ | ⟨u, e, rfl, _⟩
  · exact ⟨by have := h2.sm.len; show (ss ++ ad).length <= _; omega, fun x hx => Nat.le_trans (h2.sm.sz x hx) (by omega)⟩
  · exact ⟨by show ss.length <= _; omega, fun x hx => Nat.le_trans (hRS.sm.sz x hx) (by omega)⟩
 obtain ⟨cd, n', zs, R, x', y'⟩ := o
 obtain ⟨MZ, hMZ⟩ : ∃ N, zs.length = N := ⟨_, rfl⟩
 have JP : Hid (∀ w', SArg ap ss w' -> KT w' -> Calls prog 17 #[.agg #[.int .i64 (W : Int), .slice ap NS cp], .string root, .string qk, .string qv] w' fun e w'' => ∃ a c, e = .returned (.agg #[.int .i64 cd, .int .i64 n', .slice a MZ c, .string R, .string x', .string y']) /\ OwnT w' zs a MZ c w'') := fun w' h hk => by
  have := HPut.out w' ap cp ss root qk qv h hk (by omega) (by omega) (by omega)
  rw [ho, hNS] at this
  refine this.mono ?_
  rintro e w'' ⟨a, c, he, hO⟩
  simp only [hMZ] at he hO
  exact ⟨a, c, he, hO⟩
 have hputh : Hid _ := hput
 have hqh : Hid (left.getD at' noPair = (qk, qv)) := hqe
 have hK5 : Hid (KT w5) := hKh.out.below hbw5
 have g0 := ZC nG5 0
 have g1 := ZC nG5 1
 have hgl5 := (Array.getElem?_eq_some_iff.1 nG5).1
 clear hput hqe hcs ho
 go_cut [14] (fun s14 wx => ∃ (gs : Nat) (a6 : Option Addr) (c6 : Nat), s14 = .pointer (some ⟨gs, 0, none⟩) /\ wx.heap[gs]? = some (.cells #[.int .i64 cd, .int .i64 n', .slice a6 MZ c6, .string R, .string x', .string y'] 40) /\ SArg a6 zs wx /\ Below w5.heap.size w5 wx /\ w5.heap.size <= gs)
 case first =>
  clear hno hLM2 hLM hRS hkz' hok hku hmap hDE hps hPo5 hPL5 HPut HDel HLd JI H1 HPk hputh hqh hq1 hdoW hrth hNl hil hlt2 hqok hkk hvv hmlen hrs
  have hx0 : (0 : Int) <= (at' : Int) := Int.natCast_nonneg _
  have hx1 : (at' : Int) < (NL : Int) := by omega
  have hdr : Below w5.heap.size w5 w5.drew := draws_below 1 (Below.refl _ _)
  refine wp_region_held_drew (S := fun W => Below w5.heap.size w5 W) (by kernel_rfl) hdr (fun hHeld => ?_)
  refine tkH (i := 0) (v := ?_) rfl (Or.inl ⟨by rfl, ?_⟩) ?_
  rotate_left
  · intro w' hSw; have s0 := (hSw.cell (p := ⟨gp, 0, none⟩) hgl5).trans g0; have s1 := (hSw.cell (p := ⟨gp, 1, none⟩) hgl5).trans g1; have s2 := (hSw.cell (p := ⟨b1, off1 + at' * 2, none⟩) hbl1).trans hck; have s3 := (hSw.cell (p := ⟨b1, off1 + at' * 2 + 1, none⟩) hbl1).trans hcv; clear hSw; go_simp; rfl
  simp only [Act.put, zq]
  refine tkI 1 ?_
  simp only [Act.put, zq]
  refine tkI 2 ?_
  simp only [Act.put, zq]
  refine tkI 3 ?_
  simp only [Act.put, zq]
  refine tkI 4 ?_
  simp only [Act.put, zq]
  refine tkI 5 ?_
  simp only [Act.put, zq]
  refine tkH (i := 6) (v := ?_) rfl (Or.inl ⟨by rfl, ?_⟩) ?_
  rotate_left
  · intro w' hSw; have s0 := (hSw.cell (p := ⟨gp, 0, none⟩) hgl5).trans g0; have s1 := (hSw.cell (p := ⟨gp, 1, none⟩) hgl5).trans g1; have s2 := (hSw.cell (p := ⟨b1, off1 + at' * 2, none⟩) hbl1).trans hck; have s3 := (hSw.cell (p := ⟨b1, off1 + at' * 2 + 1, none⟩) hbl1).trans hcv; clear hSw; go_simp; rfl
  simp only [Act.put, zq]
  refine tkI 7 ?_
  simp only [Act.put, zq]
  refine tkI 8 ?_
  simp only [Act.put, zq]
  refine tkI 9 ?_
  simp only [Act.put, zq]
  refine tkI 10 ?_
  simp only [Act.put, zq]
  refine tkH (i := 11) (v := ?_) rfl (Or.inl ⟨by rfl, ?_⟩) ?_
  rotate_left
  · intro w' hSw; have s0 := (hSw.cell (p := ⟨gp, 0, none⟩) hgl5).trans g0; have s1 := (hSw.cell (p := ⟨gp, 1, none⟩) hgl5).trans g1; have s2 := (hSw.cell (p := ⟨b1, off1 + at' * 2, none⟩) hbl1).trans hck; have s3 := (hSw.cell (p := ⟨b1, off1 + at' * 2 + 1, none⟩) hbl1).trans hcv; clear hSw; go_simp; rfl
  simp only [Act.put, zq]
  refine wpAnyH_ready (rs := [12, 13]) (by kernel_rfl) (by simp) ?_
  refine AllReadyH.cons rfl (fun K hK => ?_) (AllReadyH.cons rfl (fun K hK => ?_) AllReadyH.nil)
  · go_simp
    refine (JP.out _ (hS5.below hdr) (hK5.out.below hdr)).mono ?_
    rintro e w6 ⟨a6, c6, rfl, hO6⟩
    have hO6' : OwnT w5 zs a6 MZ c6 w6 := OwnT.up hO6 hdr
    refine hK.out _ _ hO6'.bel (fun hHeld => ?_)
    clear hK K
    refine rdH 13 (fun K hK => ?_)
    go_simp
    have al6 : Below w6.heap.size w6 (w6.alloc (.cells #[.int .i64 0, .int .i64 0, .slice none 0 0, .string ⟨#[]⟩, .string ⟨#[]⟩, .string ⟨#[]⟩] 40)) := (Below.refl _ _).alloc (Nat.le_refl _) _
    have hO7 := hO6'.below al6
    have hB6 : SB w6.heap.size 0 0 none 0 0 ⟨#[]⟩ ⟨#[]⟩ ⟨#[]⟩ (w6.alloc (.cells #[.int .i64 0, .int .i64 0, .slice none 0 0, .string ⟨#[]⟩, .string ⟨#[]⟩, .string ⟨#[]⟩] 40)) := heap_alloc_new w6 _
    have hge6 := hO6'.bel.size
    refine hK.out _ _ hO7.bel (fun hHeld => ?_)
    clear hK K
    generalize w6.alloc (.cells #[.int .i64 0, .int .i64 0, .slice none 0 0, .string ⟨#[]⟩, .string ⟨#[]⟩, .string ⟨#[]⟩] 40) = w7 at *
    obtain ⟨k0, k1, k2, k3, k4, k5, kf⟩ := hB6.at
    have hO8 := hO7.set6 hB6 hge6 cd n' a6 MZ c6 R x' y'
    have hB8 := hB6.all cd n' a6 MZ c6 R x' y'
    unfold set6 at hO8 hB8
    refine rdH 14 (fun K hK => ?_)
    go_simp
    refine hK.out _ _ hO8.bel (fun hHeld => ?_)
    clear hK K
    refine wpAnyH_done (by kernel_rfl) ?_ _
    obtain ⟨w8, hw8⟩ : ∃ w8, ((((((w7.setCell ⟨w6.heap.size, 0, none⟩ (.int .i64 cd)).setCell ⟨w6.heap.size, 1, none⟩ (.int .i64 n')).setCell ⟨w6.heap.size, 2, none⟩ (.slice a6 MZ c6)).setCell ⟨w6.heap.size, 3, none⟩ (.string R)).setCell ⟨w6.heap.size, 4, none⟩ (.string x')).setCell ⟨w6.heap.size, 5, none⟩ (.string y')) = w8 := ⟨_, rfl⟩
    rw [hw8] at hO8 hB8 ⊢
    clear hw8
    go_wp2_with fail
    go_meet
    refine ⟨_, a6, c6, rfl, hB8, ?_, hO8.bel, hge6⟩
    subst hMZ
    exact hO8.sarg hosm (by omega) (by omega)
  · go_simp
    have alB : Below w5.drew.heap.size w5.drew (w5.drew.alloc (.cells #[.int .i64 0, .int .i64 0, .slice none 0 0, .string ⟨#[]⟩, .string ⟨#[]⟩, .string ⟨#[]⟩] 40)) := (Below.refl _ _).alloc (Nat.le_refl _) _
    have hbA : Below w5.heap.size w5 (w5.alloc (.cells #[.int .i64 0, .int .i64 0, .slice none 0 0, .string ⟨#[]⟩, .string ⟨#[]⟩, .string ⟨#[]⟩] 40)).drew := hdr.trans (alB.mono hdr.size)
    have hBA : SB w5.heap.size 0 0 none 0 0 ⟨#[]⟩ ⟨#[]⟩ ⟨#[]⟩ (w5.alloc (.cells #[.int .i64 0, .int .i64 0, .slice none 0 0, .string ⟨#[]⟩, .string ⟨#[]⟩, .string ⟨#[]⟩] 40)).drew := heap_alloc_new w5.drew _
    refine hK.out _ _ hbA (fun hHeld => ?_)
    clear hK K alB hHeld
    generalize (w5.alloc (.cells #[.int .i64 0, .int .i64 0, .slice none 0 0, .string ⟨#[]⟩, .string ⟨#[]⟩, .string ⟨#[]⟩] 40)).drew = wA at hbA hBA ⊢
    have hHeld := hbA
    refine rdH 12 (fun K hK => ?_)
    go_simp
    refine (JP.out _ (hS5.below hbA) (hK5.out.below hbA)).mono ?_
    rintro e w6 ⟨a6, c6, rfl, hO6⟩
    have hO6' : OwnT w5 zs a6 MZ c6 w6 := OwnT.up hO6 hbA
    have hB6 : SB w5.heap.size 0 0 none 0 0 ⟨#[]⟩ ⟨#[]⟩ ⟨#[]⟩ w6 := (hO6.bel.block _ (Array.getElem?_eq_some_iff.1 hBA).1).trans hBA
    refine hK.out _ _ hO6'.bel (fun hHeld => ?_)
    clear hK K
    obtain ⟨k0, k1, k2, k3, k4, k5, kf⟩ := hB6.at
    have hO8 := hO6'.set6 hB6 (Nat.le_refl _) cd n' a6 MZ c6 R x' y'
    have hB8 := hB6.all cd n' a6 MZ c6 R x' y'
    unfold set6 at hO8 hB8
    refine rdH 14 (fun K hK => ?_)
    go_simp
    refine hK.out _ _ hO8.bel (fun hHeld => ?_)
    clear hK K
    refine wpAnyH_done (by kernel_rfl) ?_ _
    obtain ⟨w8, hw8⟩ : ∃ w8, ((((((w6.setCell ⟨w5.heap.size, 0, none⟩ (.int .i64 cd)).setCell ⟨w5.heap.size, 1, none⟩ (.int .i64 n')).setCell ⟨w5.heap.size, 2, none⟩ (.slice a6 MZ c6)).setCell ⟨w5.heap.size, 3, none⟩ (.string R)).setCell ⟨w5.heap.size, 4, none⟩ (.string x')).setCell ⟨w5.heap.size, 5, none⟩ (.string y')) = w8 := ⟨_, rfl⟩
    rw [hw8] at hO8 hB8 ⊢
    clear hw8
    go_wp2_with fail
    go_meet
    refine ⟨_, a6, c6, rfl, hB8, ?_, hO8.bel, Nat.le_refl _⟩
    subst hMZ
    exact hO8.sarg hosm (by omega) (by omega)
 case rest =>
 obtain ⟨gs, a6, c6, rfl, nS, hZ, hbc, hgs⟩ := hcut
 have hbwc := hbw5.trans (hbc.mono hbw5.size)
 have s0 := ZC nS 0
 have s1 := ZC nS 1
 have s2 := ZC nS 2
 have s3 := ZC nS 3
 have s4 := ZC nS 4
 have s5 := ZC nS 5
 have hKc : Hid (KT wc) := hKh.out.below hbwc
 have nGc := pblk_below hbc nG5
 have hPLc := hPL5.below hbc
 have hPoc := hPo5.below hbc
 have nG5h : Hid (w5.heap[gp]? = some (.cells #[.int .i64 (W : Int), .slice ap NS cp] 37)) := nG5
 have hPL5h : Hid (PArg (some ⟨b1, off1, none⟩) left w5) := hPL5
 have hPo5h : Hid (PArg a1 ps w5) := hPo5
 have hbw5h : Hid (Below w.heap.size w w5) := hbw5
 clear g0 g1 hgl5 hck hcv hbl1 hPL5 hPo5 nG5 hS5 JP hK5 hbw5
 rcases hputh.out with ⟨ad, hoe, hRS2, _⟩ | ⟨u, e, hoe, hue, hhe, hu, he⟩
 rotate_left
 · injection hoe with e1 e2 e3 e4 e5 e6
   have z4 : ((cd : Int) == 4) = true := by rw [e1]; decide
   have JC : Hid (Calls prog 18 #[.agg #[.int .i64 cd, .int .i64 n', .slice a6 MZ c6, .string R, .string x', .string y'], .int .i64 (W : Int)] wc fun e w' => e = .returned (.bool true) /\ Below wc.heap.size wc w') := by
    refine coll_any cd n' (W : Int) a6 MZ c6 R x' y' (hashT W u) wc (by rw [e5, e6]; exact txt_injR hue) (fun w' => ?_) (fun w' => ?_)
    · have := sdig_yes (txt u) W w' (by unfold txt; rw [ByteArray.size_append]; show 1 + _ <= _; omega) hW1 hW2
      rw [dig_hashR] at this
      rw [e5]
      exact this
    · have := sdig_yes (txt e) W w' (by unfold txt; rw [ByteArray.size_append]; show 1 + _ <= _; omega) hW1 hW2
      rw [dig_hashR, <- hhe] at this
      rw [e6]
      exact this
   clear e1 e2 e3 e4 e5 e6 hputh
   go_wp2_with (first | (go_at_call 18; refine JC.out.mono ?_; rintro e w8 ⟨rfl, hb8⟩))
   go_ret
   exact ⟨rfl, hbwc.trans (hb8.mono hbwc.size)⟩
 injection hoe with e1 e2 e3 e4 e5 e6
 have hn' : n' = (W : Int) := e2
 have hR' : R = rootT W (cutTree (wth m qk qv)) := e4
 have hzs : zs = ss ++ ad := e3
 have z4 : ((cd : Int) == 4) = false := by rw [e1]; decide
 have z0c : ((cd : Int) == 0) = true := by rw [e1]; decide
 have z0n : ((cd : Int) != 0) = false := by rw [e1]; decide
 have hcd0 : Hid (cd = 0) := e1
 clear e1 e2 e3 e4 e5 e6 hputh hRS
 subst hn'
 rw [<- hzs, <- hR'] at hRS2
 clear hzs hR'
 obtain ⟨i1, hi1⟩ : ∃ j, i + 1 = j := ⟨_, rfl⟩
 have yi : IntKind.i64.wrap ((i : Int) + 1) = (i1 : Int) := by rw [wrap_i64_in _ (by omega) (by omega)]; omega
 have hi1h : Hid (i + 1 = i1) := hi1
 have hi1b : i1 <= 41 := by omega
 clear hi1
 go_upto_if 114 with (first | (go_at_call 16; refine (HPk.out i1 _ (by omega) hbwc).mono ?_; rintro e w8 ⟨v2, hv2, rfl, hb8⟩; have ym : (v2 : Int).tmod 3 = ((v2 % 3 : Nat) : Int) := (by rw [Int.tmod_eq_emod_of_nonneg (by omega)]; omega); obtain ⟨r2, hr2⟩ : ∃ r, v2 % 3 = r := ⟨_, rfl⟩; rw [hr2] at ym; clear hr2))
 have hb58 := hbc.trans (hb8.mono hbc.size)
 have hbw8 := hbwc.trans (hb8.mono hbwc.size)
 have nS8 := (hb8.block gs (Array.getElem?_eq_some_iff.1 nS).1).trans nS
 have nG8 := pblk_below hb8 nGc
 have hZ8 := hZ.below hb8
 have hPL8 := hPLc.below hb8
 have hPo8 := hPoc.below hb8
 have hK8 : Hid (KT w8) := hKh.out.below hbw8
 clear s0 s1 s2 s3 s4 s5 nS nGc hZ hPLc hPoc hKc hbc hb8 hbwc hv2 ym yi
 have s0 := ZC nS8 0
 have s1 := ZC nS8 1
 have s2 := ZC nS8 2
 have s3 := ZC nS8 3
 have s4 := ZC nS8 4
 have s5 := ZC nS8 5
 have hgs8 := (Array.getElem?_eq_some_iff.1 nS8).1
 go_cut [15] (fun _ wx => ∃ (ss2 : List ByteArray) (a7 : Option Addr) (c7 : Nat) (x7 y7 : ByteArray), wx.heap[gs]? = some (.cells #[.int .i64 0, .int .i64 (W : Int), .slice a7 ss2.length c7, .string R, .string x7, .string y7] 40) /\ SArg a7 ss2 wx /\ RS D W ss2 R (wth m qk qv) (84 * i1) /\ Below w5.heap.size w5 wx)
 case first =>
  by_cases hr0 : r2 = 0
  · have zr : ((r2 : Int) == 0) = true := by rw [hr0]; rfl
    clear hr0
    have hwl := wth_len m qk qv
    have hot := otherK_ok hkk.1
    have hots : (otherK qk).size = 3 := otherK_size hkk.1
    have hput2 := hRS2.put hDE hdoW hW1 hW2 (key := otherK qk) (val := ⟨#[103, 111, 110, 101]⟩) hot (by decide) (by omega) (by omega)
    have f1 : ¬ (9223372036854775807 < (⟨#[122, 122]⟩ : ByteArray).size + (qk.extract 0 1).size) := by rw [ByteArray.size_extract]; show ¬ (_ < 2 + _); omega
    have f2 : ¬ (9223372036854775807 < 2 + (qk.extract 0 1).size) := f1
    have f3 : ¬ (9223372036854775807 < 2 + min 1 qk.size) := by omega
    have l1 : (1 : Int) <= (qk.size : Int) := by omega
    have l2 : 1 <= qk.size := hkk.1
    have hx0 : (0 : Int) <= (at' : Int) := Int.natCast_nonneg _
    have hx1 : (at' : Int) < (NL : Int) := by omega
    obtain ⟨b3, off3, hbe, hbl3, hcs⟩ := hPL8.at_ (by rw [hNL]; omega)
    cases hbe
    obtain ⟨hck, hcv⟩ := hcs at' (by rw [hNL]; exact hmt)
    rw [hqh.out] at hck hcv
    simp only at hck hcv
    clear hcs hcv
    obtain ⟨o2, ho2⟩ : ∃ o, putO D (W : Int) zs R (otherK qk) ⟨#[103, 111, 110, 101]⟩ = o := ⟨_, rfl⟩
    rw [ho2] at hput2
    have hno2 := hno qk
    have hRs : R.size <= 32 := by rw [hRS2.rt]; have := rootT_size W hW2 (cutTree (wth m qk qv)); omega
    have hosm2 : SmT o2.xs 20000 20000 := by
     have hsl := hRS2.sm.len
     rcases hput2 with ⟨ad, rfl, h2, _⟩ | ⟨u, e, rfl, _⟩
     · exact ⟨by have := h2.sm.len; show (zs ++ ad).length <= _; omega, fun x hx => Nat.le_trans (h2.sm.sz x hx) (by omega)⟩
     · exact ⟨by show zs.length <= _; omega, fun x hx => Nat.le_trans (hRS2.sm.sz x hx) (by omega)⟩
    obtain ⟨cd2, n2, zs2, R2, x2, y2⟩ := o2
    obtain ⟨M2, hM2⟩ : ∃ N, zs2.length = N := ⟨_, rfl⟩
    have JP2 : Hid (∀ GN : ByteArray, (⟨#[103, 111, 110, 101]⟩ : ByteArray) = GN -> ∀ w', SArg a6 zs w' -> KT w' -> Calls prog 17 #[.agg #[.int .i64 (W : Int), .slice a6 MZ c6], .string R, .string (otherK qk), .string GN] w' fun e w'' => ∃ a c, e = .returned (.agg #[.int .i64 cd2, .int .i64 n2, .slice a M2 c, .string R2, .string x2, .string y2]) /\ OwnT w' zs2 a M2 c w'') := fun GN hg w' h hk => by
     have := HPut.out w' a6 c6 zs R (otherK qk) GN h hk (by omega) (by omega) (by rw [<- hg]; decide)
     rw [<- hg] at this ⊢
     rw [ho2, hMZ] at this
     refine this.mono ?_
     rintro e w'' ⟨a, c, he, hO⟩
     simp only [hM2] at he hO
     exact ⟨a, c, he, hO⟩
    have JD : Hid (∀ ad2 : List ByteArray, zs2 = zs ++ ad2 -> RS D W zs2 R2 (wth (wth m qk qv) (otherK qk) ⟨#[103, 111, 110, 101]⟩) (84 * i + 42 + 42) -> rangeM (fndD D W zs2) (W : Int) zs2.length R ⟨#[]⟩ ⟨#[]⟩ = (wth m qk qv, 0) -> RS D W zs2 R (wth m qk qv) (84 * i + 42 + 42) /\ ∀ w' a9 c9, SArg a9 zs2 w' -> KT w' -> Calls prog 19 #[.agg #[.int .i64 (W : Int), .slice a9 M2 c9], .string R2, .string (otherK qk)] w' fun e w'' => ∃ a c, e = .returned (.agg #[.int .i64 0, .int .i64 (W : Int), .slice a M2 c, .string R, .string ⟨#[]⟩, .string ⟨#[]⟩]) /\ OwnT w' zs2 a M2 c w'') := by
     intro ad2 hz2 hr2 hm2
     subst hz2
     obtain ⟨hd, hrs⟩ := hRS2.back hdoW hot hno2 hr2 hm2
     refine ⟨hrs, fun w' a9 c9 h hk => ?_⟩
     have hR2s : R2.size <= 32 := by rw [hr2.rt]; have := rootT_size W hW2 (cutTree (wth (wth m qk qv) (otherK qk) ⟨#[103, 111, 110, 101]⟩)); omega
     have := HDel.out w' a9 c9 (zs ++ ad2) R2 (otherK qk) h hk (by omega) (by omega)
     rw [hd, hM2] at this
     refine this.mono ?_
     rintro e w'' ⟨a, c, he, hO⟩
     simp only [hM2] at he hO
     exact ⟨a, c, he, hO⟩
    have hp2h : Hid _ := hput2
    have hoth : Hid (otherK qk = (⟨#[122, 122]⟩ : ByteArray) ++ qk.extract 0 1) := rfl
    clear hput2 ho2 hots hot hno2
    go_upto_region 27 with fail
    rw [<- hoth.out]
    generalize otherK qk = OT at JP2 JD hp2h ⊢
    clear f1 f2 f3 l1 l2 hoth hck hx0 hx1
    go_upto_region 28 with (first | (go_at_call 17; generalize hgn : (⟨#[103, 111, 110, 101]⟩ : ByteArray) = GN; refine (JP2.out GN hgn _ hZ8 hK8.out).mono ?_; rintro e w9 ⟨a9, c9, rfl, hO9⟩))
    have al : Below w9.heap.size w9 (w9.alloc (.cells #[.int .i64 cd2, .int .i64 n2, .slice a9 M2 c9, .string R2, .string x2, .string y2] 40)) := (Below.refl _ _).alloc (Nat.le_refl _) _
    have nA := heap_alloc_new w9 (.cells #[.int .i64 cd2, .int .i64 n2, .slice a9 M2 c9, .string R2, .string x2, .string y2] 40)
    have hb810 := hO9.bel.trans (al.mono hO9.bel.size)
    have hO10 := hO9.below al
    generalize w9.alloc (.cells #[.int .i64 cd2, .int .i64 n2, .slice a9 M2 c9, .string R2, .string x2, .string y2] 40) = w10 at nA hb810 hO10 ⊢
    obtain ⟨ga, hga⟩ : ∃ g, w9.heap.size = g := ⟨_, rfl⟩
    rw [hga] at nA
    try rw [hga]
    clear hga al hO9 s0 s1 s2 s3 s4 s5
    have nS10 := (hb810.block gs hgs8).trans nS8
    have hbw10 := hbw8.trans (hb810.mono hbw8.size)
    have hb510 := hb58.trans (hb810.mono hb58.size)
    have b0 := ZC nA 0
    have b1' := ZC nA 1
    have b2 := ZC nA 2
    have b3 := ZC nA 3
    have b4 := ZC nA 4
    have b5 := ZC nA 5
    rcases hp2h.out with ⟨ad2, hoe2, hRS3, hmo⟩ | ⟨u, e, hoe2, hue, hhe, hu, he⟩
    rotate_left
    · injection hoe2 with e1 e2 e3 e4 e5 e6
      have z42 : ((cd2 : Int) == 4) = true := by rw [e1]; decide
      have JC : Hid (Calls prog 18 #[.agg #[.int .i64 cd2, .int .i64 n2, .slice a9 M2 c9, .string R2, .string x2, .string y2], .int .i64 (W : Int)] w10 fun e w' => e = .returned (.bool true) /\ Below w10.heap.size w10 w') := by
       refine coll_any cd2 n2 (W : Int) a9 M2 c9 R2 x2 y2 (hashT W u) w10 (by rw [e5, e6]; exact txt_injR hue) (fun w' => ?_) (fun w' => ?_)
       · have := sdig_yes (txt u) W w' (by unfold txt; rw [ByteArray.size_append]; show 1 + _ <= _; omega) hW1 hW2
         rw [dig_hashR] at this
         rw [e5]
         exact this
       · have := sdig_yes (txt e) W w' (by unfold txt; rw [ByteArray.size_append]; show 1 + _ <= _; omega) hW1 hW2
         rw [dig_hashR, <- hhe] at this
         rw [e6]
         exact this
      clear e1 e2 e3 e4 e5 e6 hp2h
      go_wp2_with (first | (go_at_call 18; refine JC.out.mono ?_; rintro e w11 ⟨rfl, hb11⟩))
      go_ret
      exact ⟨rfl, hbw10.trans (hb11.mono hbw10.size)⟩
    injection hoe2 with e1 e2 e3 e4 e5 e6
    have z42 : ((cd2 : Int) == 4) = false := by rw [e1]; decide
    have z02 : ((cd2 : Int) == 0) = true := by rw [e1]; decide
    have z02n : ((cd2 : Int) != 0) = false := by rw [e1]; decide
    have hn2 : n2 = (W : Int) := e2
    have hRR : (R.toList == R.toList) = true := by rw [ba_eq, decide_eq_true rfl]
    rw [<- e3, <- e4] at hRS3
    have hmo2 := hmo R hRS2.ld
    rw [<- e3] at hmo2
    obtain ⟨hRS4, HDl⟩ := JD.out ad2 e3 hRS3 hmo2
    have JD2 : Hid (∀ w' a9 c9, SArg a9 zs2 w' -> KT w' -> Calls prog 19 #[.agg #[.int .i64 (W : Int), .slice a9 M2 c9], .string R2, .string OT] w' fun e w'' => ∃ a c, e = .returned (.agg #[.int .i64 0, .int .i64 (W : Int), .slice a M2 c, .string R, .string ⟨#[]⟩, .string ⟨#[]⟩]) /\ OwnT w' zs2 a M2 c w'') := HDl
    have hS10 : SArg a9 zs2 w10 := by subst hM2; exact hO10.sarg hosm2 (by omega) (by omega)
    clear e1 e2 e3 e4 e5 e6 hp2h HDl JD hRS3 hmo hmo2 JP2
    subst hn2
    have hK10 : Hid (KT w10) := hKh.out.below hbw10
    go_upto_region 31 with (first | (go_at_call 19; refine (JD2.out _ a9 c9 hS10 hK10.out).mono ?_; rintro e w11 ⟨a11, c11, rfl, hO11⟩))
    have al : Below w11.heap.size w11 (w11.alloc (.cells #[.int .i64 0, .int .i64 (W : Int), .slice a11 M2 c11, .string R, .string ⟨#[]⟩, .string ⟨#[]⟩] 40)) := (Below.refl _ _).alloc (Nat.le_refl _) _
    have nB := heap_alloc_new w11 (.cells #[.int .i64 0, .int .i64 (W : Int), .slice a11 M2 c11, .string R, .string ⟨#[]⟩, .string ⟨#[]⟩] 40)
    have hb1012 := hO11.bel.trans (al.mono hO11.bel.size)
    have hO12 : OwnT w5 zs2 a11 M2 c11 _ := OwnT.up (hO11.below al) hb510
    generalize w11.alloc (.cells #[.int .i64 0, .int .i64 (W : Int), .slice a11 M2 c11, .string R, .string ⟨#[]⟩, .string ⟨#[]⟩] 40) = w12 at nB hb1012 hO12 ⊢
    obtain ⟨gb, hgb⟩ : ∃ g, w11.heap.size = g := ⟨_, rfl⟩
    rw [hgb] at nB
    try rw [hgb]
    clear hgb al hO11 b0 b1' b2 b3 b4 b5
    have nA12 := (hb1012.block ga (Array.getElem?_eq_some_iff.1 nA).1).trans nA
    have hgs10 := (Array.getElem?_eq_some_iff.1 nS10).1
    have nS12 : SB gs cd (W : Int) a6 MZ c6 R x' y' w12 := (hb1012.block gs hgs10).trans nS10
    have c0 := ZC nA12 0
    have d0 := ZC nB 0
    have d1 := ZC nB 1
    have d2 := ZC nB 2
    have d3 := ZC nB 3
    have d4 := ZC nB 4
    have d5 := ZC nB 5
    obtain ⟨k0, k1, k2, k3, k4, k5, kf⟩ := nS12.at
    have hO13 := hO12.set6 nS12 hgs 0 (W : Int) a11 M2 c11 R ⟨#[]⟩ ⟨#[]⟩
    have hB13 := nS12.all 0 (W : Int) a11 M2 c11 R ⟨#[]⟩ ⟨#[]⟩
    unfold set6 at hO13 hB13
    go_wp2_with fail
    obtain ⟨w13, hw13⟩ : ∃ w, ((((((w12.setCell ⟨gs, 0, none⟩ (.int .i64 0)).setCell ⟨gs, 1, none⟩ (.int .i64 (W : Int))).setCell ⟨gs, 2, none⟩ (.slice a11 M2 c11)).setCell ⟨gs, 3, none⟩ (.string R)).setCell ⟨gs, 4, none⟩ (.string ⟨#[]⟩)).setCell ⟨gs, 5, none⟩ (.string ⟨#[]⟩)) = w := ⟨_, rfl⟩
    rw [hw13] at hO13 hB13 ⊢
    clear hw13
    go_meet
    refine ⟨zs2, a11, c11, ⟨#[]⟩, ⟨#[]⟩, by rw [hM2]; exact hB13, ?_, ⟨⟨Nat.le_trans hRS4.sm.len (by have := hi1h.out; omega), hRS4.sm.sz⟩, hRS4.ld, hRS4.rt, hRS4.all⟩, hO13.bel⟩
    subst hM2
    exact hO13.sarg hosm2 (by omega) (by omega)
  · have zr : ((r2 : Int) == 0) = false := by rw [beq_eq_false_iff_ne]; omega
    go_wp2_with fail
    go_meet
    refine ⟨zs, a6, c6, x', y', ?_, hZ8, ⟨⟨Nat.le_trans hRS2.sm.len (by have := hi1h.out; omega), hRS2.sm.sz⟩, hRS2.ld, hRS2.rt, hRS2.all⟩, hb58⟩
    rw [hMZ, <- hcd0.out]
    exact nS8
 case rest =>
 obtain ⟨ss2, a7, c7, x7, y7, nS9, hS9, hRS9, hb9⟩ := hcut
 have hgp5 := (Array.getElem?_eq_some_iff.1 nG5h.out).1
 have nG9 := (hb9.block gp hgp5).trans nG5h.out
 have hPL9 := hPL5h.out.below hb9
 have hPo9 := hPo5h.out.below hb9
 have hbw9 := hbw5h.out.trans (hb9.mono hbw5h.out.size)
 obtain ⟨K2, hK2⟩ : ∃ N, ss2.length = N := ⟨_, rfl⟩
 rw [hK2] at nS9
 have m0 : (wc.setCell ⟨gp, 0, none⟩ (.int .i64 (W : Int))).heap[gp]? = some (.cells #[.int .i64 (W : Int), .slice ap NS cp] 37) := heap_setCell_same wc gp 0 _ 37 (.int .i64 (W : Int)) nG9
 have m1 : ((wc.setCell ⟨gp, 0, none⟩ (.int .i64 (W : Int))).setCell ⟨gp, 1, none⟩ (.slice a7 K2 c7)).heap[gp]? = some (.cells #[.int .i64 (W : Int), .slice a7 K2 c7] 37) := heap_setCell_same _ gp 1 _ 37 (.slice a7 K2 c7) m0
 have hPL10 : PArg (some ⟨b1, off1, none⟩) left ((wc.setCell ⟨gp, 0, none⟩ (.int .i64 (W : Int))).setCell ⟨gp, 1, none⟩ (.slice a7 K2 c7)) := (hPL9.setR nG9 0 (.int .i64 (W : Int))).setR m0 1 (.slice a7 K2 c7)
 have hPo10 : PArg a1 ps ((wc.setCell ⟨gp, 0, none⟩ (.int .i64 (W : Int))).setCell ⟨gp, 1, none⟩ (.slice a7 K2 c7)) := (hPo9.setR nG9 0 (.int .i64 (W : Int))).setR m0 1 (.slice a7 K2 c7)
 have hS10 : SArg a7 ss2 ((wc.setCell ⟨gp, 0, none⟩ (.int .i64 (W : Int))).setCell ⟨gp, 1, none⟩ (.slice a7 K2 c7)) := (hS9.setR nG9 _).setR m0 _
 have hbw10 := (hbw9.setCell (p := ⟨gp, 0, none⟩) hgl (.int .i64 (W : Int))).setCell (p := ⟨gp, 1, none⟩) hgl (.slice a7 K2 c7)
 have hne : gp ≠ gs := by omega
 have t1 := ZC nS9 1
 have t2 := ZC nS9 2
 have t3 : ((wc.setCell ⟨gp, 0, none⟩ (.int .i64 (W : Int))).setCell ⟨gp, 1, none⟩ (.slice a7 K2 c7)).cell? ⟨gs, 3, none⟩ = some (.string R) := by
  rw [World.cell?_setCell_far _ _ _ _ (by show gp ≠ gs; exact hne), World.cell?_setCell_far _ _ _ _ (by show gp ≠ gs; exact hne)]
  exact ZC nS9 3
 have p0 := ZC nG9 0
 have p1 := ZC nG9 1
 have pf : ∀ j, wc.frozen? ⟨gp, j, none⟩ = false := fun j => by rw [World.frozen?, nG9]; rfl
 have hRs : R.size <= 32 := by rw [hRS9.rt]; have := rootT_size W hW2 (cutTree (wth m qk qv)); omega
 clear hS9 hPL9 hPo9 hbw9 hb58 hb9
 go_upto_region 35 with fail
 generalize (wc.setCell ⟨gp, 0, none⟩ (.int .i64 (W : Int))).setCell ⟨gp, 1, none⟩ (.slice a7 K2 c7) = w10 at m1 hPL10 hPo10 hS10 hbw10 t3 ⊢
 go_upto_region 36 with fail
 clear t1 t2 t3 p0 p1 pf m0 nG9 nS9
 obtain ⟨b3, off3, hbe, hbl3, hcs⟩ := hPL10.at_ (by rw [hNL]; omega)
 cases hbe
 obtain ⟨hck, hcv⟩ := hcs at' (by rw [hNL]; exact hmt)
 rw [hqh.out] at hck hcv
 simp only at hck hcv
 clear hcs hcv
 have hx0 : (0 : Int) <= (at' : Int) := Int.natCast_nonneg _
 have hx1 : (at' : Int) < (NL : Int) := by omega
 obtain ⟨M9, hM9⟩ : ∃ N, (wout left qk).length = N := ⟨_, rfl⟩
 rw [hM9] at hlt2
 have JW : Hid (Calls prog 20 #[.slice (some ⟨b1, off1, none⟩) NL cL, .string qk] w10 fun e w' => ∃ a c, e = .returned (.slice a M9 c) /\ PArg a (wout left qk) w' /\ M9 <= c /\ Below w10.heap.size w10 w') := by
  have := wwithout_any (some ⟨b1, off1, none⟩) left cL qk w10 hPL10
  rw [hNL] at this
  refine this.mono ?_
  rintro e w' ⟨a, c, he, hO⟩
  rw [hM9] at he hO
  refine ⟨a, c, he, ?_, ?_, hO.bel⟩
  · refine ownp_parg hO (smallP_of (by omega) (fun q hq => ?_))
    have := hps.sz q (hLM2.sub q hq)
    omega
  · have := own2_le hO.own
    exact this
 have yi : IntKind.i64.wrap ((i : Int) + 1) = (i1 : Int) := by have := hi1h.out; rw [wrap_i64_in _ (by omega) (by omega)]; omega
 go_wp2_with (first | (go_at_call 20; refine JW.out.mono ?_; rintro e w11 ⟨a11, c11, rfl, hP11, hc11, hb11⟩))
 go_roundw
 case rel =>
  refine ⟨i1, wout left qk, wth m qk qv, ss2, R, a11, c11, a7, c7, rfl, by rw [hM9], rfl, hP11, by rw [hM9]; exact hc11, ?_, hS10.below hb11, hRS9, ?_, ?_, hbw10.trans (hb11.mono hbw10.size), hPo10.below hb11⟩
  · rw [hK2]
    exact pblk_below hb11 m1
  · rw [<- hi1h.out]
    exact hLM2
  · have := hi1h.out
    rw [hM9]
    omega
 case measure =>
  show M9 < NL
  exact hlt2
end Go.Proofs.YtfmpjlpakldheaaGreatDoor
