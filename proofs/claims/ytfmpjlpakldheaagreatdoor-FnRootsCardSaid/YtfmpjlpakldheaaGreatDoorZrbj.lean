import Derived.Test.YtfmpjlpakldheaaGreatDoorZrak
import Derived.Test.YtfmpjlpakldheaaGreatDoorZrba
import Derived.Test.YtfmpjlpakldheaaGreatDoorZram
import Derived.Test.YtfmpjlpakldheaaGreatDoorZrbd
import Derived.Test.YtfmpjlpakldheaaGreatDoorZrab
import Derived.Test.YtfmpjlpakldheaaGreatDoorZrbh
import Derived.Test.YtfmpjlpakldheaaGreatDoorZrbi
set_option maxRecDepth 100000
set_option maxHeartbeats 1000000
namespace Go.Proofs.YtfmpjlpakldheaaGreatDoor
open Go.RowKit Go.Proofs.Sha Tryz
theorem wsame_any (a b : Option Addr) (ps qs : List PairT) (c d : Nat) (w : World) (h : PArg a ps w) (h' : PArg b qs w) :
 Calls prog 22 #[.slice a ps.length c, .slice b qs.length d] w fun e w' => e = .returned (.bool (decide (ps = qs))) /\ Below w.heap.size w w' := by
 have hn := h.le
 have hm := h'.le
 obtain ⟨R, hR⟩ : ∃ R, decide (ps = qs) = R := ⟨_, rfl⟩
 rw [hR]
 have HR : Hid (decide (ps = qs) = R) := hR
 clear hR
 obtain ⟨N, hN⟩ : ∃ N, ps.length = N := ⟨_, rfl⟩
 obtain ⟨M, hM⟩ : ∃ M, qs.length = M := ⟨_, rfl⟩
 rw [hN] at hn ⊢
 rw [hM] at hm ⊢
 by_cases hNM : N = M
 · subst hNM
   have hNl : Hid (ps.length = N) := hN
   have hMl : Hid (qs.length = N) := hM
   clear hN hM
   go_enter func22, ntmps22
   go_wp2_with fail
   go_loopw [5] (fun t wr => ∃ k : Nat, k <= N /\ t = .int .i64 (k : Int) /\ Hid (ps.take k = qs.take k) /\ Below w.heap.size w wr) (fun t _ => N - (intOf t).toNat)
   case atStart => exact ⟨0, Nat.zero_le _, rfl, rfl, Below.refl _ _⟩
   case round =>
    obtain ⟨k, hk, rfl, hsame, hbw⟩ := hrel
    by_cases hlt : k < N
    · have z1 : decide ((k : Int) < (N : Int)) = true := by simp; omega
      have hx0 : (0 : Int) <= (k : Int) := Int.natCast_nonneg _
      have hx1 : (k : Int) < (N : Int) := by omega
      obtain ⟨b1, off1, rfl, hbl1, hc⟩ := (h.below hbw).at_ (by rw [hNl.out]; omega)
      obtain ⟨b2, off2, rfl, hbl2, hd⟩ := (h'.below hbw).at_ (by rw [hMl.out]; omega)
      obtain ⟨hc1, hc2⟩ := hc k (by rw [hNl.out]; exact hlt)
      obtain ⟨hd1, hd2⟩ := hd k (by rw [hMl.out]; exact hlt)
      have hkl : k < ps.length := by rw [hNl.out]; exact hlt
      have hkm : k < qs.length := by rw [hMl.out]; exact hlt
      have g1 := getD_lt ps k hkl
      have g2 := getD_lt qs k hkm
      have hstep : ps.getD k noPair = qs.getD k noPair -> ps.take (k + 1) = qs.take (k + 1) := fun e => by
       rw [List.take_succ_eq_append_getElem hkl, List.take_succ_eq_append_getElem hkm, hsame.out, <- g1, <- g2, e]
      have hneq : ps.getD k noPair ≠ qs.getD k noPair -> R = false := fun e => by
       rw [<- HR.out]
       exact decide_eq_false fun q => e (by rw [q])
      clear g1 g2 hkl hkm hc hd
      obtain ⟨x, hx⟩ : ∃ x, ps.getD k noPair = x := ⟨_, rfl⟩
      obtain ⟨y, hy⟩ : ∃ y, qs.getD k noPair = y := ⟨_, rfl⟩
      rw [hx] at hc1 hc2
      rw [hy] at hd1 hd2
      rw [hx, hy] at hstep hneq
      clear hx hy
      obtain ⟨xk, xv⟩ := x
      obtain ⟨yk, yv⟩ := y
      dsimp only at hc1 hc2 hd1 hd2
      replace hstep : Hid _ := hstep
      replace hneq : Hid _ := hneq
      cases v1 : (xk.toList == yk.toList) with
      | false =>
       have hRf : Hid (R = false) := hneq.out (fun e => by
        have : xk = yk := congrArg Prod.fst e
        subst this
        rw [beq_self_eq_true] at v1
        cases v1)
       clear hstep hneq HR hsame
       go_wp2_with fail
       go_quiet (fail)
       go_wp2_with fail
       go_ret
       exact ⟨by rw [hRf.out]; rfl, below_draws nq hbw⟩
      | true =>
       cases v2 : (xv.toList == yv.toList) with
       | false =>
        have hRf : Hid (R = false) := hneq.out (fun e => by
         have : xv = yv := congrArg Prod.snd e
         subst this
         rw [beq_self_eq_true] at v2
         cases v2)
        clear hstep hneq HR hsame
        go_wp2_with fail
        go_quiet (fail)
        go_wp2_with fail
        go_ret
        exact ⟨by rw [hRf.out]; rfl, below_draws nq hbw⟩
       | true =>
        have e1 : xk = yk := ByteArray.ext (Array.toList_inj.1 (by rw [beq_iff_eq, ByteArray.toList_eq, ByteArray.toList_eq] at v1; exact v1))
        have e2 : xv = yv := ByteArray.ext (Array.toList_inj.1 (by rw [beq_iff_eq, ByteArray.toList_eq, ByteArray.toList_eq] at v2; exact v2))
        have hs' : Hid (ps.take (k + 1) = qs.take (k + 1)) := hstep.out (by rw [e1, e2])
        clear hstep hneq HR hsame e1 e2
        go_wp2_with fail
        go_quiet (fail)
        go_wp2_with fail
        go_roundw
        case rel => exact ⟨k + 1, hlt, by go_num, hs', below_draws nq hbw⟩
        case measure => simp [intOf]; omega
    · obtain rfl : k = N := by omega
      have z1 : decide ((k : Int) < (k : Int)) = false := by simp
      have hRt : Hid (R = true) := by
       show R = true
       rw [<- HR.out, decide_eq_true_eq]
       have e := hsame.out
       rw [List.take_of_length_le (by rw [hNl.out]; exact Nat.le_refl _), List.take_of_length_le (by rw [hMl.out]; exact Nat.le_refl _)] at e
       exact e
      clear hsame HR
      go_wp2_with fail
      go_ret
      exact ⟨by rw [hRt.out]; rfl, hbw⟩
 · have z0 : ((N : Int) != (M : Int)) = true := by rw [bne_iff_ne]; omega
   have hRf : Hid (R = false) := by
    show R = false
    rw [<- HR.out]
    exact decide_eq_false fun e => hNM (by rw [<- hN, <- hM, e])
   clear HR hN hM
   go_enter func22, ntmps22
   go_wp2_with fail
   go_ret
   exact ⟨by rw [hRf.out]; rfl, Below.refl _ _⟩
theorem wwithout_any (a : Option Addr) (ps : List PairT) (c : Nat) (key : ByteArray) (w : World) (h : PArg a ps w) : Calls prog 20 #[.slice a ps.length c, .string key] w (PairsAt (wout ps key) w) := by
 obtain ⟨i0, hi0, hz0, hz1, hz2⟩ := info_parts2 info37
 have hn := h.le
 obtain ⟨N, hN⟩ : ∃ N, ps.length = N := ⟨_, rfl⟩
 rw [hN] at hn ⊢
 have hNl : Hid (ps.length = N) := hN
 clear hN
 have hO := OwnP.nil w
 go_enter func20, ntmps20
 go_wp2_with fail
 go_loopw [5, 6] (fun t5 t6 wr => ∃ k : Nat, k <= N /\ t6 = .int .i64 (k : Int) /\ ∃ (a' : Option Addr) (m d' : Nat), t5 = .slice a' m d' /\ OwnP w (wout (ps.take k) key) a' m d' wr) (fun _ t6 _ => N - (intOf t6).toNat)
 case atStart => exact ⟨0, Nat.zero_le _, rfl, _, _, _, rfl, hO⟩
 case round =>
  obtain ⟨k, hk, rfl, a', m, d', rfl, hW⟩ := hrel
  by_cases hlt : k < N
  · have z1 : decide ((k : Int) < (N : Int)) = true := by simp; omega
    have hx0 : (0 : Int) <= (k : Int) := Int.natCast_nonneg _
    have hx1 : (k : Int) < (N : Int) := by omega
    obtain ⟨b1, off1, rfl, hbl1, hc⟩ := (h.below hW.bel).at_ (by rw [hNl.out]; omega)
    obtain ⟨hc1, hc2⟩ := hc k (by rw [hNl.out]; exact hlt)
    have hml : m <= 1048576 := by have := hW.len; have := wout_le (ps.take k) key; rw [List.length_take] at this; omega
    have htk : Hid (wout (ps.take (k + 1)) key = wout (ps.take k) key ++ wout [ps.getD k noPair] key) := by
     show _ = _
     rw [take_getD ps k (by rw [hNl.out]; exact hlt), wout_app]
    generalize ps.getD k noPair = p at hc1 hc2 htk
    obtain ⟨pk, pv⟩ := p
    simp only at hc1 hc2
    have hbs := hW.bel.size
    by_cases e : pk = key
    · have z2 : (pk.toList == key.toList) = true := by rw [ba_eq, decide_eq_true e]
      have hf : Hid (wout [(pk, pv)] key = []) := by show _ = _; simp [wout, e]
      clear e hc
      go_wp2_with fail
      go_roundw
      case rel => exact ⟨k + 1, hlt, by go_num, _, _, _, rfl, by rw [htk.out, hf.out, List.append_nil]; exact hW⟩
      case measure => simp [intOf]; omega
    · have z2 : (pk.toList == key.toList) = false := by rw [ba_eq, decide_eq_false e]
      have hf : Hid (wout [(pk, pv)] key = [(pk, pv)]) := by show _ = _; simp [wout, e]
      have own := hW.own
      clear e hc
      go_wp2_with (at_builtin; refine wpList_append_lies _ rfl (.tmp 21) (.tmp 26) 23 rfl w.heap.size 34 i0 (.agg #[.string ⟨#[]⟩, .string ⟨#[]⟩]) 2 32 Tryz.underlying23 hi0 hz0 hz1 hz2 rfl (by decide) (.slice a' m d') m (flatP (wout (ps.take k) key)) rfl (own.alloc _) ⟨wr.heap.size, 0, none⟩ 1 1 [.string pk, .string pv] rfl rfl (World.news_of_block (heap_alloc_new wr _)) (by simp [Value.oneCell']) (by decide) (by unfold maxLen; omega) (by omega) (by simp; omega) (wr.heap.size + 1) (by simp) ?_; intro g5 c5 w5 hown5 hgrow5 hat5 hlt5)
      go_roundw
      case rel => exact ⟨k + 1, hlt, by go_num, _, _, _, rfl, by rw [htk.out, hf.out]; exact hW.more hown5 hgrow5 rfl⟩
      case measure => simp [intOf]; omega
  · obtain rfl : k = N := by omega
    have z1 : decide ((k : Int) < (k : Int)) = false := by simp
    rw [List.take_of_length_le (by rw [hNl.out]; exact Nat.le_refl _)] at hW
    have hl := hW.len
    subst hl
    go_wp2_with fail
    go_ret
    exact ⟨_, _, rfl, hW⟩
theorem RangeAt.parg {X : List PairT × Int} {w w' : World} {e : Ending} (hs : SmallP X.1) (h : RangeAt X w e w') : ∃ a c, e = .returned (.tuple #[.slice a X.1.length c, .int .i64 X.2]) /\ PArg a X.1 w' /\ Below w.heap.size w w' := by
 obtain ⟨⟨a, c, rfl, ho⟩, hb⟩ := h
 exact ⟨a, c, rfl, own_parg ho hs, hb⟩
theorem OwnT.sarg {w W : World} {xs : List ByteArray} {a : Option Addr} {c : Nat} (h : OwnT w xs a xs.length c W) {n s : Nat} (hs : SmT xs n s) (hn : n <= 1048576) (hz : s <= 1048576) : SArg a xs W :=
 own_sarg h.own (Nat.le_trans hs.len hn) (fun j => Nat.le_trans (hs.getD j) hz)
section
variable {fz : Nat -> Option Obj} {ex : Option Nat} {w0 : World} {gp g wd : Nat} {ss ys roots : List ByteArray} {ap : Option Addr} {cp : Nat} {ao : Option Addr} {co : Nat} {ar : Option Addr} {cr : Nat} {W W' : World}
end
theorem pick_any (b : Option Addr) (ys : List Nat) (c i : Nat) (w : World) (hY : Code8 ys) (hB : BL b ys w) (hi : i <= 100000) :
 Calls prog 16 #[.slice b ys.length c, .int .i64 (i : Int)] w fun e w' => ∃ v : Nat, v <= 100000 /\ e = .returned (.int .i64 (v : Int)) /\ Below w.heap.size w w' := by
 by_cases h0 : ys.length = 0
 · have z0 : ((ys.length : Int) == 0) = true := by rw [h0]; rfl
   generalize ys.length = L at h0 z0
   clear h0
   go_enter func16, ntmps16
   go_wp2_with fail
   go_ret
   exact ⟨i, hi, rfl, Below.refl _ _⟩
 · have z0 : ((ys.length : Int) == 0) = false := by rw [beq_eq_false_iff_ne]; omega
   obtain ⟨b1, off, rfl, hbl, hc⟩ := hB.at_ (by omega)
   have hm : i % ys.length < ys.length := Nat.mod_lt _ (by omega)
   have ym : (i : Int).tmod (ys.length : Int) = ((i % ys.length : Nat) : Int) := by rw [Int.tmod_eq_emod_of_nonneg (by omega)]; exact (Int.natCast_emod _ _).symm
   have hc1 := hc _ hm
   have hv := hY.lt (i % ys.length)
   have yn : ¬ (ys.length = 0) := h0
   generalize ys.getD (i % ys.length) 0 = v at hc1 hv
   generalize i % ys.length = k at hc1 ym hm
   have hl := hY.le
   generalize ys.length = L at *
   have hx0 : (0 : Int) <= (k : Int) := Int.natCast_nonneg _
   have hx1 : (k : Int) < (L : Int) := by omega
   have yv : IntKind.i64.wrap (v : Int) = (v : Int) := wrap_i64_in _ (by omega) (by omega)
   clear hc hB
   go_enter func16, ntmps16
   go_wp2_with fail
   go_ret
   exact ⟨v, by omega, rfl, Below.refl _ _⟩
theorem coll_any (cd n' n : Int) (a : Option Addr) (M c : Nat) (R x' y' dg : ByteArray) (w : World) (hxy : x' ≠ y')
 (hd1 : ∀ w', Calls prog 14 #[.string x', .int .i64 n] w' fun e w'' => e = .returned (.string dg) /\ Below w'.heap.size w' w'') (hd2 : ∀ w', Calls prog 14 #[.string y', .int .i64 n] w' fun e w'' => e = .returned (.string dg) /\ Below w'.heap.size w' w'') :
 Calls prog 18 #[.agg #[.int .i64 cd, .int .i64 n', .slice a M c, .string R, .string x', .string y'], .int .i64 n] w fun e w' => e = .returned (.bool true) /\ Below w.heap.size w w' := by
 have J1 : Hid (∀ w', Calls prog 14 #[.string x', .int .i64 n] w' fun e w'' => e = .returned (.string dg) /\ Below w'.heap.size w' w'') := hd1
 have J2 : Hid (∀ w', Calls prog 14 #[.string y', .int .i64 n] w' fun e w'' => e = .returned (.string dg) /\ Below w'.heap.size w' w'') := hd2
 clear hd1 hd2
 have zxz : (x'.toList == y'.toList) = false := by rw [ba_eq, decide_eq_false hxy]
 have zd : (dg.toList == dg.toList) = true := by rw [ba_eq, decide_eq_true rfl]
 clear hxy
 have al : Below w.heap.size w (w.alloc (.cells #[.int .i64 cd, .int .i64 n', .slice a M c, .string R, .string x', .string y'] 40)) := (Below.refl _ _).alloc (Nat.le_refl _) _
 have nS := heap_alloc_new w (.cells #[.int .i64 cd, .int .i64 n', .slice a M c, .string R, .string x', .string y'] 40)
 go_enter func18, ntmps18
 go_upto_region 1 with fail
 generalize w.alloc (.cells #[.int .i64 cd, .int .i64 n', .slice a M c, .string R, .string x', .string y'] 40) = wr at al nS ⊢
 obtain ⟨gs, hgs⟩ : ∃ g, w.heap.size = g := ⟨_, rfl⟩
 rw [hgs] at nS
 try rw [hgs]
 have s4 := ZC nS 4
 have s5 := ZC nS 5
 have hgsl := (Array.getElem?_eq_some_iff.1 nS).1
 have hdr : Below wr.heap.size wr wr.drew := draws_below 1 (Below.refl _ _)
 go_region_held3 (fun W => W.cell? ⟨gs, 4, none⟩ = some (.string x') /\ W.cell? ⟨gs, 5, none⟩ = some (.string y')) (first | exact ⟨s4, s5⟩ | exact ⟨r4, r5⟩ | exact ⟨t4, t5⟩) (first | (go_at_call_of 14 (Value.string x'); refine (J1.out _).mono ?_; rintro e w8 ⟨rfl, hb8⟩; have hb8' : Below wr.heap.size wr w8 := hdr.trans (hb8.mono hdr.size); have r4 := (hb8'.cell (p := ⟨gs, 4, none⟩) hgsl).trans s4; have r5 := (hb8'.cell (p := ⟨gs, 5, none⟩) hgsl).trans s5) | (go_at_call_of 14 (Value.string y'); refine (J2.out _).mono ?_; rintro e w9 ⟨rfl, hb9⟩; have hb9' : Below wr.heap.size wr w9 := hb8'.trans (hb9.mono hb8'.size); have t4 := (hb9'.cell (p := ⟨gs, 4, none⟩) hgsl).trans s4; have t5 := (hb9'.cell (p := ⟨gs, 5, none⟩) hgsl).trans s5))
 go_wp2_with fail
 go_ret
 exact ⟨rfl, hgs ▸ al.trans (hb9'.mono al.size)⟩
structure LM (ps left m : List PairT) (i : Nat) : Prop where
 upl : KeysUp (keys left)
 sub : ∀ q ∈ left, q ∈ ps
 km : ∀ x ∈ keys m, x ∈ keys ps
 get : ∀ x, getP ps x = if (getP left x).2 = true then getP left x else getP m x
 len : m.length <= i
theorem LM.start {ps : List PairT} (h : KeysUp (keys ps)) : LM ps ps [] 0 :=
 ⟨h, fun _ q => q, fun _ q => absurd q List.not_mem_nil, fun x => by
  split
  · rfl
  · rename_i hn
    have := getP_no (ps := ps) (k := x) (by simpa using hn)
    rw [this]
    rfl, Nat.le_refl _⟩
theorem LM.fin {ps m : List PairT} {i : Nat} (h : LM ps [] m i) (hp : KeysUp (keys ps)) (hm : KeysUp (keys m)) : m = ps :=
 maps_one hm hp fun x => by
  rw [h.get x]
  rfl
theorem getP_in : ∀ {ps : List PairT} {q : PairT}, KeysUp (keys ps) -> q ∈ ps -> getP ps q.1 = (q.2, true)
 | p :: ps, q, hu, hq => by
  unfold getP
  rcases List.mem_cons.1 hq with e | e
  · rw [e, if_pos rfl]
  · have hne : p.1 ≠ q.1 := fun hh => ku_not_mem (k := p.1) (ks := keys ps) hu (by rw [hh]; exact List.mem_map_of_mem e)
    rw [if_neg hne]
    exact getP_in hu.2 e
theorem LM.step {ps left m : List PairT} {i : Nat} (h : LM ps left m i) {q : PairT} (hq : q ∈ left) : LM ps (wout left q.1) (wth m q.1 q.2) (i + 1) := by
 have hg := getP_in h.upl hq
 refine ⟨ku_wout h.upl _, fun p hp => h.sub p (wout_mem hp), fun x hx => ?_, fun x => ?_, Nat.le_trans (wth_len m q.1 q.2) (Nat.succ_le_succ h.len)⟩
 · rcases mem_wth.1 hx with e | e
   · rw [e]; exact List.mem_map_of_mem (h.sub q hq)
   · exact h.km x e
 · rw [getP_wout, getP_wth, h.get x]
   by_cases hx : x = q.1
   · subst hx
     rw [hg, if_pos rfl, if_pos rfl]
     simp
   · rw [if_neg hx, if_neg hx]
theorem RS.start {D : Dec} {wd : Nat} (hD : DecEnc wd D) (h1 : 1 <= wd) (h2 : wd <= 32) : RS D wd [] ⟨#[]⟩ [] 0 := by
 have hc : cutTree [] = .nil := by rw [cutTree]; rfl
 have hl := saved_loads D wd hD h1 h2 (ss := []) (ad := []) (ps := []) rfl (by rw [hc]; rfl) (Nat.zero_le _)
 have hr : rootT wd (cutTree []) = ⟨#[]⟩ := by rw [hc]; rfl
 rw [hr] at hl
 exact ⟨⟨Nat.le_refl _, fun x hx => by cases hx⟩, hl, hr.symm, fun e he => by rw [hc] at he; cases he⟩
theorem dig_hashR (e : ByteArray) (n : Nat) : (⟨((sha (txt e).data.toList).take n).toArray⟩ : ByteArray) = hashT n e := by rw [txt_list]; rfl
theorem txt_injR {a b : ByteArray} (h : a ≠ b) : txt a ≠ txt b := fun e => h (by
 have := congrArg (fun t : ByteArray => t.data.toList) e
 simp only [txt_list, List.cons.injEq, true_and] at this
 exact ByteArray.ext (Array.toList_inj.1 this))
theorem PArg.setR {a : Option Addr} {ps : List PairT} {W : World} {g : Nat} {n : Int} {v : Option Addr} {m c : Nat} (hS : PArg a ps W) (h : W.heap[g]? = some (.cells #[.int .i64 n, .slice v m c] 37)) (o : Nat) (u : Value) : PArg a ps (W.setCell ⟨g, o, none⟩ u) :=
 hS.grown (grownBy_setCell W g o u) (fun b off e hp q => hS.pool h b off e hp (Option.some.inj q))
theorem SArg.setR {W : World} {a : Option Addr} {xs : List ByteArray} {g o : Nat} {n' : Int} {v : Option Addr} {m c : Nat} (h : SArg a xs W) (hg : W.heap[g]? = some (.cells #[.int .i64 n', .slice v m c] 37)) (u : Value) : SArg a xs (W.setCell ⟨g, o, none⟩ u) :=
 h.grown (grownBy_setCell W g o u) (fun b off e hp q => h.pool hg b off e hp (Option.some.inj q))
def slen : Value -> Nat
 | .slice _ n _ => n
 | _ => 0
theorem wout_lt {ps : List PairT} {q : PairT} (h : q ∈ ps) : (wout ps q.1).length < ps.length := by
 unfold wout
 rw [List.length_filter_lt_length_iff_exists]
 exact ⟨q, h, by simp⟩
def otherK (k : ByteArray) : ByteArray := (⟨#[122, 122]⟩ : ByteArray) ++ k.extract 0 1
theorem otherK_size {k : ByteArray} (h : 1 <= k.size) : (otherK k).size = 3 := by
 unfold otherK
 rw [ByteArray.size_append, ByteArray.size_extract]
 show 2 + _ = 3
 omega
theorem otherK_ok {k : ByteArray} (h : 1 <= k.size) : okKey (otherK k) = true := by
 unfold okKey
 rw [otherK_size h]
 decide
theorem otherK_z (k : ByteArray) : ¬ KZ1 (otherK k) := by
 unfold KZ1 otherK
 rw [ByteArray.data_append]
 intro h
 apply h
 rw [Array.getElem?_append_left (by decide)]
 rfl
theorem other_no {ps m left : List PairT} {i : Nat} (h : LM ps left m i) (hz : KZ ps) (k : ByteArray) : otherK k ∉ keys m := fun hm => by
 obtain ⟨q, hq, he⟩ := List.mem_map.1 (h.km _ hm)
 exact otherK_z k (he ▸ hz q hq)
end Go.Proofs.YtfmpjlpakldheaaGreatDoor
