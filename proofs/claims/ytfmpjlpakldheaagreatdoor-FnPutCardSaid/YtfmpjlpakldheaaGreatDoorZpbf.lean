import Derived.Test.YtfmpjlpakldheaaGreatDoorZpbc
import Derived.Test.YtfmpjlpakldheaaGreatDoorZpbe
import Derived.Test.YtfmpjlpakldheaaGreatDoorZpbd
import Derived.Test.YtfmpjlpakldheaaGreatDoorZpae
import Derived.Test.YtfmpjlpakldheaaGreatDoorZpaf
import Derived.Test.YtfmpjlpakldheaaGreatDoorZpau
import Derived.Test.YtfmpjlpakldheaaGreatDoorZpar
import Derived.Test.YtfmpjlpakldheaaGreatDoorZpav
set_option maxRecDepth 100000
set_option maxHeartbeats 2000000
namespace Go.Proofs.YtfmpjlpakldheaaGreatDoor
open Tryz
open Go.RowKit Go.Proofs.Sha
theorem around_any (key : ByteArray) (hk : key.size <= 1048576) (n0 : Nat) (t : Tr PairT) (p : Option Addr) (w : World) (h0 : n0 <= w.heap.size) (ht : TA n0 bare t p w) :
 Calls prog 110 #[.pointer p, .string key] w fun e w' => ∃ pl pr, e = .returned (.tuple #[.pointer pl, .pointer pr]) /\ TA n0 bare (Tr.around key t).1 pl w' /\ TA n0 bare (Tr.around key t).2 pr w' /\ Below w.heap.size w w' := by
 have H1 := split_any key n0 t p w h0 ht
 have H2 : Hid (∀ q w', Below w.heap.size w w' -> TA n0 bare (Tr.cut key t).2 q w' -> Calls prog 144 #[.pointer q, .string (zeroK key)] w' fun e w'' => ∃ pl pr, e = .returned (.tuple #[.pointer pl, .pointer pr]) /\ TA n0 bare (Tr.cut (zeroK key) (Tr.cut key t).2).2 pr w'' /\ Below w'.heap.size w' w'') := fun q w' hb hq => (split_any (zeroK key) n0 _ q w' (Nat.le_trans h0 hb.size) hq).mono (by
  rintro e w'' ⟨pl, pr, he, _, h2, h3⟩
  exact ⟨pl, pr, he, h2, h3⟩)
 have hz : Hid (zeroK key = key ++ ⟨#[0]⟩) := rfl
 have hsum : ¬ (9223372036854775807 < key.size + (⟨#[0]⟩ : ByteArray).size) := by show ¬ _ < key.size + 1; omega
 have hsum' : ¬ (9223372036854775807 < key.size + 1) := by omega
 have HA : Hid (∀ pl pr W, TA n0 bare (Tr.cut key t).1 pl W -> TA n0 bare (Tr.cut (zeroK key) (Tr.cut key t).2).2 pr W -> Below w.heap.size w W -> ∃ pl' pr', Ending.returned (.tuple #[.pointer pl, .pointer pr]) = .returned (.tuple #[.pointer pl', .pointer pr']) /\ TA n0 bare (Tr.around key t).1 pl' W /\ TA n0 bare (Tr.around key t).2 pr' W /\ Below w.heap.size w W) := fun pl pr W h1 h2 h3 => ⟨pl, pr, rfl, h1, h2, h3⟩
 clear ht
 go_enter func110, ntmps110
 go_wp2_with fail
 refine H1.mono ?_
 rintro e w1 ⟨p1, p2, rfl, t1, t2, hb1⟩
 have H3 := H2.out _ _ hb1 t2
 rw [hz.out] at H3
 go_wp2_with fail
 refine H3.mono ?_
 rintro e w2 ⟨p3, p4, rfl, t4, hb2⟩
 have hfin := HA.out p1 p4 w2 (t1.below hb2 (Nat.le_refl _)) t4 (hb1.trans (hb2.mono hb1.size))
 clear H1 H2 H3 HA
 go_wp2_with fail
 go_ret2
 exact hfin
theorem del_any (key : ByteArray) (hk : key.size <= 1048576) (n0 : Nat) (t : Tr PairT) (p : Option Addr) (w : World) (h0 : n0 <= w.heap.size) (ht : TA n0 bare t p w) :
 Calls prog 67 #[.pointer p, .string key] w fun e w' => ∃ q, e = .returned (.pointer q) /\ TA n0 bare (Tr.merge abP (Tr.around key t).1 (Tr.around key t).2) q w' /\ Below w.heap.size w w' := by
 have H1 := around_any key hk n0 t p w h0 ht
 have H2 : Hid (∀ pl pr w', Below w.heap.size w w' -> TA n0 bare (Tr.around key t).1 pl w' -> TA n0 bare (Tr.around key t).2 pr w' -> Calls prog 109 #[.pointer pl, .pointer pr] w' fun e w'' => ∃ q, e = .returned (.pointer q) /\ TA n0 bare (Tr.merge abP (Tr.around key t).1 (Tr.around key t).2) q w'' /\ Below w'.heap.size w' w'') := fun pl pr w' hb h1 h2 => merge_any above_said n0 _ _ _ pl pr w' (Nat.le_refl _) (Nat.le_trans h0 hb.size) h1 h2
 clear ht
 generalize Tr.merge abP (Tr.around key t).1 (Tr.around key t).2 = T at H2 ⊢
 go_enter func67, ntmps67
 go_wp2_with fail
 refine H1.mono ?_
 rintro e w1 ⟨p1, p2, rfl, t1, t2, hb1⟩
 go_wp2_with fail
 refine (H2.out _ _ _ hb1 t1 t2).mono ?_
 rintro e w2 ⟨q, rfl, hq, hb2⟩
 go_wp2_with fail
 go_ret
 exact ⟨q, rfl, hq, hb1.trans (hb2.mono hb1.size)⟩
theorem put_any (key val : ByteArray) (hk : key.size <= 1048576) (n0 : Nat) (t : Tr PairT) (p : Option Addr) (w : World) (h0 : n0 <= w.heap.size) (ht : TA n0 bare t p w) (hK : KTab w) :
 Calls prog 108 #[.pointer p, .agg #[.string key, .string val]] w fun e w' => ∃ q, e = .returned (.pointer q) /\ TA n0 bare (Tr.merge abP (Tr.merge abP (Tr.around key t).1 (.node .nil (key, val) .nil)) (Tr.around key t).2) q w' /\ Below w.heap.size w w' := by
 have hA : Below w.heap.size w (w.alloc (.cells #[.string key, .string val] 34)) := (Below.refl _ _).alloc (Nat.le_refl _) _
 have nA := heap_alloc_new w (.cells #[.string key, .string val] 34)
 have H1 := around_any key hk n0 t p _ (Nat.le_trans h0 hA.size) (ht.below hA (Nat.le_refl _))
 have HS : Hid (∀ w', Below w.heap.size w w' -> Calls prog 125 #[.agg #[.string key, .string val]] w' fun e w'' => ∃ q, e = .returned (.pointer q) /\ TA n0 bare (.node .nil (key, val) .nil) q w'' /\ Below w'.heap.size w' w'') := fun w' hb => (single_any rank_said (fun w1 w2 k hb => KTab.below k hb) key val w' hk (hK.below hb)).mono (by
  rintro e w'' ⟨b, he, hge, hB, hb''⟩
  exact ⟨_, he, ⟨b, none, none, rfl, Nat.le_trans (Nat.le_trans h0 hb.size) hge, hB, rfl, rfl⟩, hb''⟩)
 have H2 : Hid (∀ (s t : Tr PairT) pl pr w', Below w.heap.size w w' -> TA n0 bare s pl w' -> TA n0 bare t pr w' -> Calls prog 109 #[.pointer pl, .pointer pr] w' fun e w'' => ∃ q, e = .returned (.pointer q) /\ TA n0 bare (Tr.merge abP s t) q w'' /\ Below w'.heap.size w' w'') := fun s t pl pr w' hb h1 h2 => merge_any above_said n0 _ s t pl pr w' (Nat.le_refl _) (Nat.le_trans h0 hb.size) h1 h2
 obtain ⟨ga, hga⟩ : ∃ g, w.heap.size = g := ⟨_, rfl⟩
 have c0 := ZC nA 0
 have c1 := ZC nA 1
 clear ht
 go_enter func108, ntmps108
 go_upto_region 1 with fail
 generalize w.alloc (.cells #[.string key, .string val] 34) = w0 at hA nA H1 c0 c1 ⊢
 rw [hga] at nA c0 c1
 try rw [hga]
 go_wp2_with fail
 refine H1.mono ?_
 rintro e w1 ⟨p1, p2, rfl, t1, t2, hb1⟩
 have nA1 := pblk_below hb1 nA
 have hbw1 := hA.trans (hb1.mono hA.size)
 clear c0 c1 nA H1 hb1
 have c0 := ZC nA1 0
 have c1 := ZC nA1 1
 go_wp2_with fail
 refine (HS.out _ hbw1).mono ?_
 rintro e w2 ⟨p3, rfl, t3, hb2⟩
 have hbw2 := hbw1.trans (hb2.mono hbw1.size)
 have t1' := t1.below hb2 (Nat.le_refl _)
 have t2' := t2.below hb2 (Nat.le_refl _)
 clear c0 c1 nA1 t1 t2
 go_wp2_with fail
 refine (H2.out _ _ _ _ _ hbw2 t1' t3).mono ?_
 rintro e w3 ⟨p4, rfl, t4, hb3⟩
 have hbw3 := hbw2.trans (hb3.mono hbw2.size)
 have t2'' := t2'.below hb3 (Nat.le_refl _)
 clear t1' t2' t3
 go_wp2_with fail
 refine (H2.out _ _ _ _ _ hbw3 t4 t2'').mono ?_
 rintro e w4 ⟨p5, rfl, t5, hb4⟩
 have hbw4 := hbw3.trans (hb4.mono hbw3.size)
 go_wp2_with fail
 go_ret
 exact ⟨p5, rfl, t5, hbw4⟩
theorem room_any (key val : ByteArray) (hk : key.size <= 1048576) (n0 : Nat) (ps : List PairT) (hku : KeysUp (keys ps)) (p : Option Addr) (w : World) (h0 : n0 <= w.heap.size) (ht : TA n0 bare (cutTree ps) p w) (hK : KTab w) (hn : (wth ps key val).length <= 100000) (hsm : SmallP (wth ps key val)) :
 Calls prog 65 #[.pointer p, .agg #[.string key, .string val]] w fun e w' => ∃ q, e = .returned (.tuple #[.pointer q, .int .i64 (if 500 < (wth ps key val).length then 6 else 0)]) /\ ((wth ps key val).length <= 500 -> TA n0 bare (cutTree (wth ps key val)) q w') /\ Below w.heap.size w w' := by
 have hA : Below w.heap.size w (w.alloc (.cells #[.string key, .string val] 34)) := (Below.refl _ _).alloc (Nat.le_refl _) _
 have nA := heap_alloc_new w (.cells #[.string key, .string val] 34)
 have H1 := put_any key val hk n0 (cutTree ps) p _ (Nat.le_trans h0 hA.size) (ht.below hA (Nat.le_refl _)) (hK.below hA)
 rw [put_tree key val hku] at H1
 have hin := cutTree_inord (wth ps key val)
 have H2 : Hid (∀ q w', TA n0 bare (cutTree (wth ps key val)) q w' -> Calls prog 104 #[.pointer q] w' fun e w'' => (∃ a cap, e = .returned (.slice a (wth ps key val).length cap)) /\ Below w'.heap.size w' w'') := fun q w' hq => by
  have := pairsOf_any bare (cutTree (wth ps key val)) q w' hq.base (by rw [cutTree_size]; exact hn) (by rw [hin]; exact hsm)
  rw [hin] at this
  refine this.mono ?_
  rintro e w'' ⟨⟨a, cap, he, _⟩, hb⟩
  exact ⟨⟨a, cap, he⟩, hb⟩
 obtain ⟨ga, hga⟩ : ∃ g, w.heap.size = g := ⟨_, rfl⟩
 have c0 := ZC nA 0
 have c1 := ZC nA 1
 obtain ⟨L, hL⟩ : ∃ L, (wth ps key val).length = L := ⟨_, rfl⟩
 rw [hL] at H2 hn ⊢
 obtain ⟨v, hv⟩ : ∃ v : Int, (if 500 < L then (6 : Int) else 0) = v := ⟨_, rfl⟩
 rw [hv]
 have hvH : Hid ((if 500 < L then (6 : Int) else 0) = v) := hv
 generalize cutTree (wth ps key val) = T at H1 H2 ⊢
 clear ht hL hsm hin hv
 go_enter func65, ntmps65
 go_upto_region 1 with fail
 generalize w.alloc (.cells #[.string key, .string val] 34) = w0 at hA nA H1 c0 c1 ⊢
 rw [hga] at nA c0 c1
 try rw [hga]
 go_wp2_with fail
 refine H1.mono ?_
 rintro e w1 ⟨q, rfl, tq, hb1⟩
 have hbw1 := hA.trans (hb1.mono hA.size)
 clear c0 c1 nA H1 hb1
 go_wp2_with fail
 refine (H2.out _ _ tq).mono ?_
 rintro e w2 ⟨⟨a2, c2, rfl⟩, hb2⟩
 have hbw2 := hbw1.trans (hb2.mono hbw1.size)
 have tq2 := tq.below hb2 (Nat.le_refl _)
 clear tq
 by_cases hl : 500 < L
 · have hv6 : Hid (v = 6) := by
    have := hvH.out
    rw [if_pos hl] at this
    exact this.symm
   have z : decide ((500 : Int) < (L : Int)) = true := by rw [decide_eq_true_eq]; omega
   have z' : ((L : Int) > 500) := by omega
   go_wp2_with fail
   go_ret2
   exact ⟨none, by rw [hv6.out]; rfl, fun q => by omega, hbw2⟩
 · have hv0 : Hid (v = 0) := by
    have := hvH.out
    rw [if_neg hl] at this
    exact this.symm
   have z : decide ((500 : Int) < (L : Int)) = false := by rw [decide_eq_false_iff_not]; omega
   have z' : ¬ ((L : Int) > 500) := by omega
   go_wp2_with fail
   go_ret2
   exact ⟨q, by rw [hv0.out]; rfl, fun _ => tq2, hbw2⟩
theorem hitB_left (wd : Nat) (ss ad : List ByteArray) (h : ByteArray) (i : Nat) (hi : i < ss.length) : hitB wd (ss ++ ad) h i = hitB wd ss h i := by
 unfold hitB
 rw [List.getD_eq_getElem?_getD, List.getD_eq_getElem?_getD, List.getElem?_append_left hi]
theorem hitB_right (wd : Nat) (ss ad : List ByteArray) (h : ByteArray) (i : Nat) : hitB wd (ss ++ ad) h (ss.length + i) = hitB wd ad h i := by
 unfold hitB
 rw [List.getD_eq_getElem?_getD, List.getD_eq_getElem?_getD, List.getElem?_append_right (by omega), Nat.add_sub_cancel_left]
inductive SvR
 | go (added : List ByteArray)
 | full
 | clash (first enc : ByteArray)
def svStep (wd : Nat) (ss : List ByteArray) : SvR -> ByteArray -> SvR
 | .go ad, e => match firstI (hitB wd (ss ++ ad) (hashT wd e)) (ss.length + ad.length) with
  | some i => if (ss ++ ad).getD i ⟨#[]⟩ = e then .go ad else .clash ((ss ++ ad).getD i ⟨#[]⟩) e
  | none => if 20000 <= ss.length + ad.length then .full else .go (ad ++ [e])
 | r, _ => r
def svAll (wd : Nat) (ss es : List ByteArray) : SvR := es.foldl (svStep wd ss) (.go [])
theorem firstI_two (wd : Nat) (ss ad : List ByteArray) (h : ByteArray) : firstI (hitB wd (ss ++ ad) h) (ss.length + ad.length) = match firstI (hitB wd ss h) ss.length with
 | some i => some i
 | none => (firstI (hitB wd ad h) ad.length).map (ss.length + ·) := by
 have h1 : firstI (hitB wd (ss ++ ad) h) ss.length = firstI (hitB wd ss h) ss.length := firstI_congr fun j hj => hitB_left wd ss ad h j hj
 cases hf : firstI (hitB wd ss h) ss.length with
 | some i => exact firstI_up (h1.trans hf) _
 | none =>
  have h0 : firstI (hitB wd (ss ++ ad) h) ss.length = none := h1.trans hf
  have key : ∀ m, firstI (hitB wd (ss ++ ad) h) (ss.length + m) = (firstI (hitB wd ad h) m).map (ss.length + ·) := fun m => by
   induction m with
   | zero => exact h0
   | succ m ih =>
    rw [<- Nat.add_assoc, firstI, ih, firstI, hitB_right]
    cases firstI (hitB wd ad h) m with
    | some i => rfl
    | none => simp only [Option.map_none]; split <;> rfl
  exact key _
theorem svAll_app (wd : Nat) (ss es : List ByteArray) (e : ByteArray) : svAll wd ss (es ++ [e]) = svStep wd ss (svAll wd ss es) e := by
 unfold svAll
 rw [List.foldl_append]
 rfl
def atI : Option Nat -> Int
 | some i => (i : Int)
 | none => -1
def sameB (xs : List ByteArray) (s : ByteArray) (i : Nat) : Bool := decide (xs.getD i ⟨#[]⟩ = s)
theorem l4At_any (a : Option Addr) (xs : List ByteArray) (c : Nat) (s : ByteArray) (w : World) (h : SArg a xs w) :
 Calls prog 80 #[.slice a xs.length c, .string s] w fun e w' => e = .returned (.int .i64 (atI (firstI (sameB xs s) xs.length))) /\ Below w.heap.size w w' := by
 have hn := h.le
 obtain ⟨N, hN⟩ : ∃ N, xs.length = N := ⟨_, rfl⟩
 rw [hN] at hn ⊢
 have hNl : Hid (xs.length = N) := hN
 clear hN
 obtain ⟨R, hR⟩ : ∃ R, firstI (sameB xs s) N = R := ⟨_, rfl⟩
 rw [hR]
 have HR : Hid (firstI (sameB xs s) N = R) := hR
 clear hR
 go_enter func80, ntmps80
 go_wp2_with fail
 go_loopw [5] (fun t wr => ∃ k : Nat, k <= N /\ t = .int .i64 (k : Int) /\ Hid (firstI (sameB xs s) k = none) /\ Below w.heap.size w wr) (fun t _ => N - (intOf t).toNat)
 case atStart => exact ⟨0, Nat.zero_le _, rfl, rfl, Below.refl _ _⟩
 case round =>
  obtain ⟨k, hk, rfl, hf, hbw⟩ := hrel
  by_cases hlt : k < N
  · have z1 : decide ((k : Int) < (N : Int)) = true := by simp; omega
    have hx0 : (0 : Int) <= (k : Int) := Int.natCast_nonneg _
    have hx1 : (k : Int) < (N : Int) := by omega
    obtain ⟨b1, off1, rfl, hbl1, hc⟩ := (h.below hbw).at_ (by rw [hNl.out]; omega)
    have hc1 := hc k (by rw [hNl.out]; exact hlt)
    by_cases e : xs.getD k ⟨#[]⟩ = s
    · have hs : sameB xs s k = true := decide_eq_true e
      have hr : Hid (R = some k) := by
       have h1 := firstI_step_yes hf.out hs
       have h2 := firstI_up h1 (N - (k + 1))
       rw [show k + 1 + (N - (k + 1)) = N by omega, HR.out] at h2
       exact h2
      have z2 : ((xs.getD k ⟨#[]⟩).toList == s.toList) = true := by rw [ba_eq, decide_eq_true e]
      generalize xs.getD k ⟨#[]⟩ = y at hc1 z2
      clear e hs hc hf
      go_wp2_with fail
      go_ret
      exact ⟨by rw [hr.out]; rfl, hbw⟩
    · have hs : sameB xs s k = false := decide_eq_false e
      have hf2 : Hid (firstI (sameB xs s) (k + 1) = none) := firstI_step_no hf.out hs
      have z2 : ((xs.getD k ⟨#[]⟩).toList == s.toList) = false := by rw [ba_eq, decide_eq_false e]
      generalize xs.getD k ⟨#[]⟩ = y at hc1 z2
      clear e hs hc hf
      go_wp2_with fail
      go_roundw
      case rel => exact ⟨k + 1, hlt, by go_num, hf2.out, hbw⟩
      case measure => simp [intOf]; omega
  · obtain rfl : k = N := by omega
    have z1 : decide ((k : Int) < (k : Int)) = false := by simp
    have hr : Hid (R = none) := HR.out.symm.trans hf.out
    clear hf
    go_wp2_with fail
    go_ret
    exact ⟨by rw [hr.out]; rfl, hbw⟩
def Mid (rest : List PairT) (key val : ByteArray) (k : Nat) (out : List PairT) : Bool -> Prop
 | true => out ++ rest.drop k = ins key val rest
 | false => out = rest.take k /\ ins key val rest = rest.take k ++ ins key val (rest.drop k)
theorem drewN_below (w : World) (q : Nat) : Below w.heap.size w (w.drewN q) := draws_below _ (Below.refl _ _)
theorem Mid.start (rest : List PairT) (key val : ByteArray) : Mid rest key val 0 [] false := ⟨rfl, rfl⟩
theorem Mid.done {rest : List PairT} {key val : ByteArray} {k : Nat} {out : List PairT} (h : Mid rest key val k out true) (hk : k < rest.length) : Mid rest key val (k + 1) (out ++ [rest.getD k noPair]) true := by
 unfold Mid at h ⊢
 rw [<- h, drop_getD rest k hk]
 simp
theorem Mid.now {rest : List PairT} {key val : ByteArray} {k : Nat} {out : List PairT} (h : Mid rest key val k out false) (hk : k < rest.length) (hl : lessB key (rest.getD k noPair).1 = true) : Mid rest key val (k + 1) (out ++ [(key, val)] ++ [rest.getD k noPair]) true := by
 unfold Mid at h ⊢
 obtain ⟨h1, h2⟩ := h
 rw [h2, drop_getD rest k hk, ins, if_pos hl, h1]
 simp
theorem Mid.past {rest : List PairT} {key val : ByteArray} {k : Nat} {out : List PairT} (h : Mid rest key val k out false) (hk : k < rest.length) (hl : lessB key (rest.getD k noPair).1 = false) : Mid rest key val (k + 1) (out ++ [rest.getD k noPair]) false := by
 unfold Mid at h ⊢
 obtain ⟨h1, h2⟩ := h
 rw [take_getD rest k hk, h1]
 refine ⟨rfl, ?_⟩
 rw [h2, drop_getD rest k hk, ins, if_neg (by rw [hl]; decide)]
 simp
theorem OwnP.up {w w1 W : World} {xs : List PairT} {a : Option Addr} {m c : Nat} (h : OwnP w1 xs a m c W) (hb : Below w.heap.size w w1) : OwnP w xs a m c W :=
 ⟨own2_mono h.own hb.size, hb.trans (h.bel.mono hb.size), h.len⟩
theorem ownp_parg {w W : World} {c m : Nat} {a : Option Addr} {ps : List PairT} (h : OwnP w ps a m c W) (hs : SmallP ps) : PArg a ps W := by
 have hl := h.len
 subst hl
 exact own_parg h.own hs
theorem Mid.len {rest : List PairT} {key val : ByteArray} {k : Nat} {out : List PairT} {d : Bool} (h : Mid rest key val k out d) : out.length <= rest.length + 1 := by
 have hi : ∀ l : List PairT, (ins key val l).length = l.length + 1 := fun l => by
  induction l with
  | nil => rfl
  | cons p l ih => rw [ins]; split <;> simp [ih]
 cases d with
 | true =>
  have := congrArg List.length h
  rw [List.length_append, hi] at this
  omega
 | false =>
  rw [h.1, List.length_take]
  omega
theorem with_any (a : Option Addr) (ps : List PairT) (c : Nat) (key val : ByteArray) (w : World) (h : PArg a ps w) (hks : key.size <= 1048576) (hpl : ps.length <= 100000) : Calls prog 91 #[.slice a ps.length c, .string key, .string val] w (PairsAt (wth ps key val) w) := by
 obtain ⟨i0, hi0, hz0, hz1, hz2⟩ := info_parts2 info37
 have HO := without_any a ps c key w h
 have hrs : SmallP (wout ps key) := by
  refine ⟨Nat.le_trans (wout_le ps key) h.le, fun j => ?_⟩
  by_cases hj : j < (wout ps key).length
  · have hm : (wout ps key)[j] ∈ ps := (List.mem_filter.1 (List.getElem_mem hj)).1
    obtain ⟨i, hi, e⟩ := List.getElem_of_mem hm
    have := h.sz i
    rw [List.getD_eq_getElem?_getD, List.getElem?_eq_getElem hi, Option.getD_some, e] at this
    rw [List.getD_eq_getElem?_getD, List.getElem?_eq_getElem hj, Option.getD_some]
    exact this
  · rw [pget_out _ _ (by omega)]
    exact ⟨Nat.zero_le _, Nat.zero_le _⟩
 have hrl : (wout ps key).length <= 100000 := Nat.le_trans (wout_le ps key) hpl
 unfold wth
 generalize wout ps key = rest at HO hrs hrl ⊢
 go_enter func91, ntmps91
 go_upto_region 2 with (first | (go_at_call 94; refine HO.mono ?_; rintro e w1 ⟨a1, c1, rfl, hO1⟩))
 have hb1 := hO1.bel
 have hp1 := ownp_parg hO1 hrs
 have hO2 := OwnP.nil w1
 obtain ⟨N, hN⟩ : ∃ N, rest.length = N := ⟨_, rfl⟩
 rw [hN] at hrl ⊢
 have hNl : Hid (rest.length = N) := hN
 clear hN hO1 HO
 go_wp2_with fail
 go_loopw [8, 9, 10] (fun t8 t9 t10 wr => ∃ k : Nat, k <= N /\ t10 = .int .i64 (k : Int) /\ ∃ (d : Bool) (a' : Option Addr) (m d' : Nat) (out : List PairT), t9 = .bool d /\ t8 = .slice a' m d' /\ OwnP w1 out a' m d' wr /\ Hid (Mid rest key val k out d)) (fun _ _ t10 _ => N - (intOf t10).toNat)
 case atStart => exact ⟨0, Nat.zero_le _, rfl, false, _, _, _, [], rfl, rfl, hO2, Mid.start rest key val⟩
 case round =>
  obtain ⟨k, hk, rfl, d, a', m, d', out, rfl, rfl, hW, hM⟩ := hrel
  have hml : m <= 100001 := by have := hW.len; have := hM.out.len; rw [hNl.out] at this; omega
  have hbs := hW.bel.size
  have own := hW.own
  by_cases hlt : k < N
  · have z1 : decide ((k : Int) < (N : Int)) = true := by simp; omega
    have hx0 : (0 : Int) <= (k : Int) := Int.natCast_nonneg _
    have hx1 : (k : Int) < (N : Int) := by omega
    have hkr : Hid (k < rest.length) := by show _ < _; rw [hNl.out]; exact hlt
    obtain ⟨b1, off1, rfl, hbl1, hc⟩ := (hp1.below hW.bel).at_ (by rw [hNl.out]; omega)
    obtain ⟨hc1, hc2⟩ := hc k hkr.out
    have hsz := (hrs.2 k).1
    have Mdone : Hid (d = true -> Mid rest key val (k + 1) (out ++ [rest.getD k noPair]) true) := fun e => by subst e; exact hM.out.done hkr.out
    have Mnow : Hid (d = false -> lessB key (rest.getD k noPair).1 = true -> Mid rest key val (k + 1) (out ++ [(key, val)] ++ [rest.getD k noPair]) true) := fun e => by subst e; exact hM.out.now hkr.out
    have Mpast : Hid (d = false -> lessB key (rest.getD k noPair).1 = false -> Mid rest key val (k + 1) (out ++ [rest.getD k noPair]) false) := fun e => by subst e; exact hM.out.past hkr.out
    obtain ⟨p, hpp⟩ : ∃ p, rest.getD k noPair = p := ⟨_, rfl⟩
    have hpe : Hid (rest.getD k noPair = p) := hpp
    rw [hpp] at hc1 hc2 hsz Mdone Mnow Mpast
    clear hpp
    obtain ⟨pk, pv⟩ := p
    simp only at hc1 hc2 hsz
    have hbl2 : b1 < wr.heap.size := hbl1
    clear hc hM
    cases d with
    | true =>
     go_wp2_with (at_builtin; refine wpList_append_lies _ rfl (.tmp 38) (.tmp 43) 23 rfl w1.heap.size 34 i0 (.agg #[.string ⟨#[]⟩, .string ⟨#[]⟩]) 2 32 Tryz.underlying23 hi0 hz0 hz1 hz2 rfl (by decide) (.slice a' m d') m (flatP out) rfl (own.alloc _) ⟨wr.heap.size, 0, none⟩ 1 1 [.string pk, .string pv] rfl rfl (World.news_of_block (heap_alloc_new wr _)) (by simp [Value.oneCell']) (by decide) (by unfold maxLen; omega) (by omega) (by simp; omega) (wr.heap.size + 1) (by simp) ?_; intro g5 c5 w5 hown5 hgrow5 hat5 hlt5)
     go_roundw
     case rel => exact ⟨k + 1, hlt, by go_num, true, _, _, _, _, rfl, rfl, hW.more hown5 hgrow5 rfl, Mdone.out (by first | rfl | trivial)⟩
     case measure => simp [intOf]; omega
    | false =>
     have HL := lessS_q key pk wr hks hsz
     cases hl : lessB key pk with
     | false =>
      rw [hl] at HL
      go_upto_region 10 with (first | (go_at_call 95; refine HL.mono ?_; rintro e w3 ⟨rfl, q, rfl⟩))
      have hW3 := hW.below (drewN_below wr q)
      have own3 := hW3.own
      have hd1 := ((drewN_below wr q).cell (p := ⟨b1, off1 + k * 2, none⟩) hbl2).trans hc1
      have hd2 := ((drewN_below wr q).cell (p := ⟨b1, off1 + k * 2 + 1, none⟩) hbl2).trans hc2
      have hbs3 := hW3.bel.size
      clear own hc1 hc2 HL
      generalize wr.drewN q = w3 at *
      go_wp2_with (at_builtin; refine wpList_append_lies _ rfl (.tmp 38) (.tmp 43) 23 rfl w1.heap.size 34 i0 (.agg #[.string ⟨#[]⟩, .string ⟨#[]⟩]) 2 32 Tryz.underlying23 hi0 hz0 hz1 hz2 rfl (by decide) (.slice a' m d') m (flatP out) rfl (own3.alloc _) ⟨w3.heap.size, 0, none⟩ 1 1 [.string pk, .string pv] rfl rfl (World.news_of_block (heap_alloc_new w3 _)) (by simp [Value.oneCell']) (by decide) (by unfold maxLen; omega) (by omega) (by simp; omega) (w3.heap.size + 1) (by simp) ?_; intro g5 c5 w5 hown5 hgrow5 hat5 hlt5)
      go_roundw
      case rel => exact ⟨k + 1, hlt, by go_num, false, _, _, _, _, rfl, rfl, hW3.more hown5 hgrow5 rfl, Mpast.out (by first | rfl | trivial) hl⟩
      case measure => simp [intOf]; omega
     | true =>
      rw [hl] at HL
      go_upto_region 8 with (first | (go_at_call 95; refine HL.mono ?_; rintro e w3 ⟨rfl, q, rfl⟩))
      have hW3 := hW.below (drewN_below wr q)
      have own3 := hW3.own
      have hd1 := ((drewN_below wr q).cell (p := ⟨b1, off1 + k * 2, none⟩) hbl2).trans hc1
      have hd2 := ((drewN_below wr q).cell (p := ⟨b1, off1 + k * 2 + 1, none⟩) hbl2).trans hc2
      have hbs3 := hW3.bel.size
      clear own hc1 hc2 HL
      generalize wr.drewN q = w3 at *
      go_upto_region 9 with (at_builtin; refine wpList_append_lies _ rfl (.tmp 32) (.tmp 36) 23 rfl w1.heap.size 34 i0 (.agg #[.string ⟨#[]⟩, .string ⟨#[]⟩]) 2 32 Tryz.underlying23 hi0 hz0 hz1 hz2 rfl (by decide) (.slice a' m d') m (flatP out) rfl (own3.alloc _) ⟨w3.heap.size, 0, none⟩ 1 1 [.string key, .string val] rfl rfl (World.news_of_block (heap_alloc_new w3 _)) (by simp [Value.oneCell']) (by decide) (by unfold maxLen; omega) (by omega) (by simp; omega) (w3.heap.size + 1) (by simp) ?_; intro g5 c5 w5 hown5 hgrow5 hat5 hlt5)
      have hW5 := hW3.more (y := (key, val)) hown5 hgrow5 rfl
      have hp5 := hp1.below hW5.bel
      have own5 := hW5.own
      have hbs5 := hW5.bel.size
      obtain ⟨b2, off2, e2, hbl5, hc5⟩ := hp5.at_ (by rw [hNl.out]; omega)
      cases e2
      obtain ⟨hd1, hd2⟩ := hc5 k hkr.out
      have Mn := Mnow.out (by first | rfl | trivial) hl
      replace Mn : Hid _ := Mn
      have hgd : (rest.getD k noPair) = (pk, pv) := hpe.out
      rw [hgd] at hd1 hd2
      simp only at hd1 hd2
      clear own3 hc5 hgd
      go_wp2_with (at_builtin; refine wpList_append_lies _ rfl (.tmp 38) (.tmp 43) 23 rfl w1.heap.size 34 i0 (.agg #[.string ⟨#[]⟩, .string ⟨#[]⟩]) 2 32 Tryz.underlying23 hi0 hz0 hz1 hz2 rfl (by decide) (.slice (some ⟨g5, 0, none⟩) (m + 1) c5) (m + 1) (flatP (out ++ [(key, val)])) rfl (own5.alloc _) ⟨w5.heap.size, 0, none⟩ 1 1 [.string pk, .string pv] rfl rfl (World.news_of_block (heap_alloc_new w5 _)) (by simp [Value.oneCell']) (by decide) (by unfold maxLen; omega) (by omega) (by simp; omega) (w5.heap.size + 1) (by simp) ?_; intro g6 c6 w6 hown6 hgrow6 hat6 hlt6)
      go_roundw
      case rel => exact ⟨k + 1, hlt, by go_num, true, _, _, _, _, rfl, rfl, hW5.more hown6 hgrow6 rfl, Mn.out⟩
      case measure => simp [intOf]; omega
  · obtain rfl : k = N := by omega
    have z1 : decide ((k : Int) < (k : Int)) = false := by simp
    cases d with
    | true =>
     have hfin : Hid (out = ins key val rest) := by
      have := hM.out
      unfold Mid at this
      rw [List.drop_of_length_le (by rw [hNl.out]; exact Nat.le_refl _), List.append_nil] at this
      exact this
     have HF : Hid (PairsAt (ins key val rest) w (.returned (.slice a' m d')) wr) := by
      have hl := hW.len
      subst hl
      rw [<- hfin.out]
      exact ⟨_, _, rfl, hW.up hb1⟩
     clear hM hfin own
     go_wp2_with fail
     go_ret
     exact HF.out
    | false =>
     have hfin : Hid (out ++ [(key, val)] = ins key val rest) := by
      have := hM.out
      unfold Mid at this
      obtain ⟨h1, h2⟩ := this
      rw [List.drop_of_length_le (by rw [hNl.out]; exact Nat.le_refl _), ins] at h2
      show _ = _
      rw [h2, h1]
     clear hM
     go_wp2_with (at_builtin; refine wpList_append_lies _ rfl (.tmp 47) (.tmp 51) 23 rfl w1.heap.size 34 i0 (.agg #[.string ⟨#[]⟩, .string ⟨#[]⟩]) 2 32 Tryz.underlying23 hi0 hz0 hz1 hz2 rfl (by decide) (.slice a' m d') m (flatP out) rfl (own.alloc _) ⟨wr.heap.size, 0, none⟩ 1 1 [.string key, .string val] rfl rfl (World.news_of_block (heap_alloc_new wr _)) (by simp [Value.oneCell']) (by decide) (by unfold maxLen; omega) (by omega) (by simp; omega) (wr.heap.size + 1) (by simp) ?_; intro g5 c5 w5 hown5 hgrow5 hat5 hlt5)
     go_ret
     have hW5 := hW.more (y := (key, val)) hown5 hgrow5 rfl
     rw [hfin.out] at hW5
     have hl := hW5.len
     exact ⟨some ⟨g5, 0, none⟩, c5, by rw [hl]; rfl, by rw [hl]; exact hW5.up hb1⟩
theorem ownG_cells {w : World} {base g n t z : Nat} {v : Value} {xs : List Value} (h : w.ownsRow base t z v n xs) (hv : v.ownBlock = some g) : base <= g /\ g < w.heap.size /\ ∃ cur, w.heap[g]? = some (.cells cur t (0, 0)) := by
 rcases h.2 with ⟨rfl, _⟩ | ⟨g', cap, cur, rfl, hb, hg, _⟩
 · cases hv
 · obtain rfl : g' = g := Option.some.inj hv
   exact ⟨hb, (Array.getElem?_eq_some_iff.1 hg).1, cur, hg⟩
theorem ownG_kept {w w' : World} {base n t z : Nat} {v : Value} {xs : List Value} (h : w.ownsRow base t z v n xs) (hk : ∀ g, v.ownBlock = some g -> g < w.heap.size -> w'.heap[g]? = w.heap[g]?) : w'.ownsRow base t z v n xs := by
 refine ⟨h.1, ?_⟩
 rcases h.2 with ⟨h1, h2⟩ | ⟨g, cap, cur, hv, hb, hg, rest⟩
 · exact .inl ⟨h1, h2⟩
 · exact .inr ⟨g, cap, cur, hv, hb, (hk g (by rw [hv]; rfl) (Array.getElem?_eq_some_iff.1 hg).1).trans hg, rest⟩
theorem ownG_mono {w : World} {base base' n t z : Nat} {v : Value} {xs : List Value} (h : w.ownsRow base t z v n xs) (hb : base' <= base) : w.ownsRow base' t z v n xs := by
 refine ⟨h.1, ?_⟩
 rcases h.2 with ⟨h1, h2⟩ | ⟨g, cap, cur, hv, hg, rest⟩
 · exact .inl ⟨h1, h2⟩
 · exact .inr ⟨g, cap, cur, hv, Nat.le_trans hb hg, rest⟩
def Bd (L : List PairT) : Prop := ∀ p ∈ L, p.1.size <= 1048576 /\ p.2.size <= 1048576
theorem Bd.small {L : List PairT} (h : Bd L) (hl : L.length <= 1048576) : SmallP L := by
 refine ⟨hl, fun j => ?_⟩
 by_cases hj : j < L.length
 · rw [List.getD_eq_getElem?_getD, List.getElem?_eq_getElem hj, Option.getD_some]
   exact h _ (List.getElem_mem hj)
 · rw [pget_out _ _ (by omega)]
   exact ⟨Nat.zero_le _, Nat.zero_le _⟩
theorem mem_ins' {k v : ByteArray} {x : PairT} : ∀ {ps : List PairT}, x ∈ ins k v ps -> x = (k, v) \/ x ∈ ps
 | [], h => by simpa [ins] using h
 | p :: ps, h => by
  rw [ins] at h
  split at h
  · simpa using h
  · rcases List.mem_cons.1 h with h | h
    · exact .inr (by rw [h]; exact List.mem_cons_self)
    · rcases mem_ins' h with h | h
      · exact .inl h
      · exact .inr (List.mem_cons_of_mem _ h)
theorem wth_len (L : List PairT) (k v : ByteArray) : (wth L k v).length <= L.length + 1 := by
 have hi : ∀ l : List PairT, (ins k v l).length = l.length + 1 := fun l => by
  induction l with
  | nil => rfl
  | cons p l ih => rw [ins]; split <;> simp [ih]
 unfold Proofs.YtfmpjlpakldheaaGreatDoor.wth
 rw [hi]
 have := wout_le L k
 omega
end Go.Proofs.YtfmpjlpakldheaaGreatDoor
