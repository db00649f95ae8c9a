import Derived.Test.YtmfhfehemoeeeaaGreatDoorZsbc
import Derived.Test.YtmfhfehemoeeeaaGreatDoorZsbb
set_option maxRecDepth 100000
set_option maxHeartbeats 2000000
namespace Go.Proofs.YtmfhfehemoeeeaaGreatDoor
open Go.RowKit Go.Proofs.Sha

/-- How far the pairs with a key set are put together. -/
def Mid (rest : List PairT) (key val : ByteArray) (k : Nat) (out : List PairT) : Bool → Prop
  | true => out ++ rest.drop k = ins key val rest
  | false => out = rest.take k ∧ ins key val rest = rest.take k ++ ins key val (rest.drop k)
theorem drewN_below (w : World) (q : Nat) : Below w.heap.size w (w.drewN q) := draws_below _ (Below.refl _ _)
theorem Mid.start (rest : List PairT) (key val : ByteArray) : Mid rest key val 0 [] false := ⟨rfl, rfl⟩
theorem Mid.done {rest : List PairT} {key val : ByteArray} {k : Nat} {out : List PairT} (h : Mid rest key val k out true) (hk : k < rest.length) : Mid rest key val (k + 1) (out ++ [rest.getD k noPair]) true := by
  unfold Mid at h ⊢
  rw [← h, drop_getD rest k hk]
  simp
theorem Mid.now {rest : List PairT} {key val : ByteArray} {k : Nat} {out : List PairT} (h : Mid rest key val k out false) (hk : k < rest.length) (hl : lessB key (rest.getD k noPair).1 = true) : Mid rest key val (k + 1) (out ++ [(key, val)] ++ [rest.getD k noPair]) true := by
  unfold Mid at h ⊢
  obtain ⟨h1, h2⟩ := h
  rw [h2, drop_getD rest k hk, ins, if_pos hl, h1]
  simp
theorem Mid.past {rest : List PairT} {key val : ByteArray} {k : Nat} {out : List PairT} (h : Mid rest key val k out false) (hk : k < rest.length) (hl : lessB key (rest.getD k noPair).1 = false) : Mid rest key val (k + 1) (out ++ [rest.getD k noPair]) false := by
  unfold Mid at h ⊢
  obtain ⟨h1, h2⟩ := h
  rw [take_getD rest k hk, h1]
  refine ⟨rfl, ?_⟩
  rw [h2, drop_getD rest k hk, ins, if_neg (by rw [hl]; decide)]
  simp
theorem OwnP.up {w w1 W : World} {xs : List PairT} {a : Option Addr} {m c : Nat} (h : OwnP w1 xs a m c W) (hb : Below w.heap.size w w1) : OwnP w xs a m c W :=
  ⟨own2_mono h.own hb.size, hb.trans (h.bel.mono hb.size), h.len⟩
theorem ownp_parg {w W : World} {c m : Nat} {a : Option Addr} {ps : List PairT} (h : OwnP w ps a m c W) (hs : SmallP ps) : PArg a ps W := by
  have hl := h.len
  subst hl
  exact own_parg h.own hs
theorem Mid.len {rest : List PairT} {key val : ByteArray} {k : Nat} {out : List PairT} {d : Bool} (h : Mid rest key val k out d) : out.length ≤ rest.length + 1 := by
  have hi : ∀ l : List PairT, (ins key val l).length = l.length + 1 := fun l => by
    induction l with
    | nil => rfl
    | cons p l ih => rw [ins]; split <;> simp [ih]
  cases d with
  | true =>
    have := congrArg List.length h
    rw [List.length_append, hi] at this
    omega
  | false =>
    rw [h.1, List.length_take]
    omega
theorem with_any (a : Option Addr) (ps : List PairT) (c : Nat) (key val : ByteArray) (w : World) (h : PArg a ps w) (hks : key.size ≤ 1048576) (hpl : ps.length ≤ 100000) : Calls Tryz.prog 65 #[.slice a ps.length c, .string key, .string val] w (PairsAt (wth ps key val) w) := by
  obtain ⟨i0, hi0, hz0, hz1, hz2⟩ := info_parts2 info37
  have HO := without_any a ps c key w h
  have hrs : SmallP (wout ps key) := by
    refine ⟨Nat.le_trans (wout_le ps key) h.le, fun j => ?_⟩
    by_cases hj : j < (wout ps key).length
    · have hm : (wout ps key)[j] ∈ ps := (List.mem_filter.1 (List.getElem_mem hj)).1
      obtain ⟨i, hi, e⟩ := List.getElem_of_mem hm
      have := h.sz i
      rw [List.getD_eq_getElem?_getD, List.getElem?_eq_getElem hi, Option.getD_some, e] at this
      rw [List.getD_eq_getElem?_getD, List.getElem?_eq_getElem hj, Option.getD_some]
      exact this
    · rw [pget_out _ _ (by omega)]
      exact ⟨Nat.zero_le _, Nat.zero_le _⟩
  have hrl : (wout ps key).length ≤ 100000 := Nat.le_trans (wout_le ps key) hpl
  unfold wth
  generalize wout ps key = rest at HO hrs hrl ⊢
  go_enter Tryz.func65, Tryz.ntmps65
  go_upto_region 2 with (first | (go_at_call 84; refine HO.mono ?_; rintro e w1 ⟨a1, c1, rfl, hO1⟩))
  have hb1 := hO1.bel
  have hp1 := ownp_parg hO1 hrs
  have hO2 := OwnP.nil w1
  obtain ⟨N, hN⟩ : ∃ N, rest.length = N := ⟨_, rfl⟩
  rw [hN] at hrl ⊢
  have hNl : Hid (rest.length = N) := hN
  clear hN hO1 HO
  go_wp2_with fail
  go_loopw [8, 9, 10] (fun t8 t9 t10 wr => ∃ k : Nat, k ≤ N ∧ t10 = .int .i64 (k : Int) ∧ ∃ (d : Bool) (a' : Option Addr) (m d' : Nat) (out : List PairT), t9 = .bool d ∧ t8 = .slice a' m d' ∧ OwnP w1 out a' m d' wr ∧ Hid (Mid rest key val k out d)) (fun _ _ t10 _ => N - (intOf t10).toNat)
  case atStart => exact ⟨0, Nat.zero_le _, rfl, false, _, _, _, [], rfl, rfl, hO2, Mid.start rest key val⟩
  case round =>
    obtain ⟨k, hk, rfl, d, a', m, d', out, rfl, rfl, hW, hM⟩ := hrel
    have hml : m ≤ 100001 := by have := hW.len; have := hM.out.len; rw [hNl.out] at this; omega
    have hbs := hW.bel.size
    have own := hW.own
    by_cases hlt : k < N
    · have z1 : decide ((k : Int) < (N : Int)) = true := by simp; omega
      have hx0 : (0 : Int) ≤ (k : Int) := Int.natCast_nonneg _
      have hx1 : (k : Int) < (N : Int) := by omega
      have hkr : Hid (k < rest.length) := by show _ < _; rw [hNl.out]; exact hlt
      obtain ⟨b1, off1, rfl, hbl1, hc⟩ := (hp1.below hW.bel).at_ (by rw [hNl.out]; omega)
      obtain ⟨hc1, hc2⟩ := hc k hkr.out
      have hsz := (hrs.2 k).1
      have Mdone : Hid (d = true → Mid rest key val (k + 1) (out ++ [rest.getD k noPair]) true) := fun e => by subst e; exact hM.out.done hkr.out
      have Mnow : Hid (d = false → lessB key (rest.getD k noPair).1 = true → Mid rest key val (k + 1) (out ++ [(key, val)] ++ [rest.getD k noPair]) true) := fun e => by subst e; exact hM.out.now hkr.out
      have Mpast : Hid (d = false → lessB key (rest.getD k noPair).1 = false → Mid rest key val (k + 1) (out ++ [rest.getD k noPair]) false) := fun e => by subst e; exact hM.out.past hkr.out
      obtain ⟨p, hpp⟩ : ∃ p, rest.getD k noPair = p := ⟨_, rfl⟩
      have hpe : Hid (rest.getD k noPair = p) := hpp
      rw [hpp] at hc1 hc2 hsz Mdone Mnow Mpast
      clear hpp
      obtain ⟨pk, pv⟩ := p
      simp only at hc1 hc2 hsz
      have hbl2 : b1 < wr.heap.size := hbl1
      clear hc hM
      cases d with
      | true =>
        go_wp2_with (at_builtin; refine wpList_append_lies _ rfl (.tmp 38) (.tmp 43) 23 rfl w1.heap.size 56 i0 (.agg #[.string ⟨#[]⟩, .string ⟨#[]⟩]) 2 32 Tryz.underlying23 hi0 hz0 hz1 hz2 rfl (by decide) (.slice a' m d') m (flatP out) rfl (own.alloc _) ⟨wr.heap.size, 0, none⟩ 1 1 [.string pk, .string pv] rfl rfl (World.news_of_block (heap_alloc_new wr _)) (by simp [Value.oneCell']) (by decide) (by unfold maxLen; omega) (by omega) (by simp; omega) (wr.heap.size + 1) (by simp) ?_; intro g5 c5 w5 hown5 hgrow5 hat5 hlt5)
        go_roundw
        case rel => exact ⟨k + 1, hlt, by go_num, true, _, _, _, _, rfl, rfl, hW.more hown5 hgrow5 rfl, Mdone.out (by first | rfl | trivial)⟩
        case measure => simp [intOf]; omega
      | false =>
        have HL := lessS_q key pk wr hks hsz
        cases hl : lessB key pk with
        | false =>
          rw [hl] at HL
          go_upto_region 10 with (first | (go_at_call 43; refine HL.mono ?_; rintro e w3 ⟨rfl, q, rfl⟩))
          have hW3 := hW.below (drewN_below wr q)
          have own3 := hW3.own
          have hd1 := ((drewN_below wr q).cell (p := ⟨b1, off1 + k * 2, none⟩) hbl2).trans hc1
          have hd2 := ((drewN_below wr q).cell (p := ⟨b1, off1 + k * 2 + 1, none⟩) hbl2).trans hc2
          have hbs3 := hW3.bel.size
          clear own hc1 hc2 HL
          generalize wr.drewN q = w3 at *
          go_wp2_with (at_builtin; refine wpList_append_lies _ rfl (.tmp 38) (.tmp 43) 23 rfl w1.heap.size 56 i0 (.agg #[.string ⟨#[]⟩, .string ⟨#[]⟩]) 2 32 Tryz.underlying23 hi0 hz0 hz1 hz2 rfl (by decide) (.slice a' m d') m (flatP out) rfl (own3.alloc _) ⟨w3.heap.size, 0, none⟩ 1 1 [.string pk, .string pv] rfl rfl (World.news_of_block (heap_alloc_new w3 _)) (by simp [Value.oneCell']) (by decide) (by unfold maxLen; omega) (by omega) (by simp; omega) (w3.heap.size + 1) (by simp) ?_; intro g5 c5 w5 hown5 hgrow5 hat5 hlt5)
          go_roundw
          case rel => exact ⟨k + 1, hlt, by go_num, false, _, _, _, _, rfl, rfl, hW3.more hown5 hgrow5 rfl, Mpast.out (by first | rfl | trivial) hl⟩
          case measure => simp [intOf]; omega
        | true =>
          rw [hl] at HL
          go_upto_region 8 with (first | (go_at_call 43; refine HL.mono ?_; rintro e w3 ⟨rfl, q, rfl⟩))
          have hW3 := hW.below (drewN_below wr q)
          have own3 := hW3.own
          have hd1 := ((drewN_below wr q).cell (p := ⟨b1, off1 + k * 2, none⟩) hbl2).trans hc1
          have hd2 := ((drewN_below wr q).cell (p := ⟨b1, off1 + k * 2 + 1, none⟩) hbl2).trans hc2
          have hbs3 := hW3.bel.size
          clear own hc1 hc2 HL
          generalize wr.drewN q = w3 at *
          go_upto_region 9 with (at_builtin; refine wpList_append_lies _ rfl (.tmp 32) (.tmp 36) 23 rfl w1.heap.size 56 i0 (.agg #[.string ⟨#[]⟩, .string ⟨#[]⟩]) 2 32 Tryz.underlying23 hi0 hz0 hz1 hz2 rfl (by decide) (.slice a' m d') m (flatP out) rfl (own3.alloc _) ⟨w3.heap.size, 0, none⟩ 1 1 [.string key, .string val] rfl rfl (World.news_of_block (heap_alloc_new w3 _)) (by simp [Value.oneCell']) (by decide) (by unfold maxLen; omega) (by omega) (by simp; omega) (w3.heap.size + 1) (by simp) ?_; intro g5 c5 w5 hown5 hgrow5 hat5 hlt5)
          have hW5 := hW3.more (y := (key, val)) hown5 hgrow5 rfl
          have hp5 := hp1.below hW5.bel
          have own5 := hW5.own
          have hbs5 := hW5.bel.size
          obtain ⟨b2, off2, e2, hbl5, hc5⟩ := hp5.at_ (by rw [hNl.out]; omega)
          cases e2
          obtain ⟨hd1, hd2⟩ := hc5 k hkr.out
          have Mn := Mnow.out (by first | rfl | trivial) hl
          replace Mn : Hid _ := Mn
          have hgd : (rest.getD k noPair) = (pk, pv) := hpe.out
          rw [hgd] at hd1 hd2
          simp only at hd1 hd2
          clear own3 hc5 hgd
          go_wp2_with (at_builtin; refine wpList_append_lies _ rfl (.tmp 38) (.tmp 43) 23 rfl w1.heap.size 56 i0 (.agg #[.string ⟨#[]⟩, .string ⟨#[]⟩]) 2 32 Tryz.underlying23 hi0 hz0 hz1 hz2 rfl (by decide) (.slice (some ⟨g5, 0, none⟩) (m + 1) c5) (m + 1) (flatP (out ++ [(key, val)])) rfl (own5.alloc _) ⟨w5.heap.size, 0, none⟩ 1 1 [.string pk, .string pv] rfl rfl (World.news_of_block (heap_alloc_new w5 _)) (by simp [Value.oneCell']) (by decide) (by unfold maxLen; omega) (by omega) (by simp; omega) (w5.heap.size + 1) (by simp) ?_; intro g6 c6 w6 hown6 hgrow6 hat6 hlt6)
          go_roundw
          case rel => exact ⟨k + 1, hlt, by go_num, true, _, _, _, _, rfl, rfl, hW5.more hown6 hgrow6 rfl, Mn.out⟩
          case measure => simp [intOf]; omega
    · obtain rfl : k = N := by omega
      have z1 : decide ((k : Int) < (k : Int)) = false := by simp
      cases d with
      | true =>
        have hfin : Hid (out = ins key val rest) := by
          have := hM.out
          unfold Mid at this
          rw [List.drop_of_length_le (by rw [hNl.out]; exact Nat.le_refl _), List.append_nil] at this
          exact this
        have HF : Hid (PairsAt (ins key val rest) w (.returned (.slice a' m d')) wr) := by
          have hl := hW.len
          subst hl
          rw [← hfin.out]
          exact ⟨_, _, rfl, hW.up hb1⟩
        clear hM hfin own
        go_wp2_with fail
        go_ret
        exact HF.out
      | false =>
        have hfin : Hid (out ++ [(key, val)] = ins key val rest) := by
          have := hM.out
          unfold Mid at this
          obtain ⟨h1, h2⟩ := this
          rw [List.drop_of_length_le (by rw [hNl.out]; exact Nat.le_refl _), ins] at h2
          show _ = _
          rw [h2, h1]
        clear hM
        go_wp2_with (at_builtin; refine wpList_append_lies _ rfl (.tmp 47) (.tmp 51) 23 rfl w1.heap.size 56 i0 (.agg #[.string ⟨#[]⟩, .string ⟨#[]⟩]) 2 32 Tryz.underlying23 hi0 hz0 hz1 hz2 rfl (by decide) (.slice a' m d') m (flatP out) rfl (own.alloc _) ⟨wr.heap.size, 0, none⟩ 1 1 [.string key, .string val] rfl rfl (World.news_of_block (heap_alloc_new wr _)) (by simp [Value.oneCell']) (by decide) (by unfold maxLen; omega) (by omega) (by simp; omega) (wr.heap.size + 1) (by simp) ?_; intro g5 c5 w5 hown5 hgrow5 hat5 hlt5)
        go_ret
        have hW5 := hW.more (y := (key, val)) hown5 hgrow5 rfl
        rw [hfin.out] at hW5
        have hl := hW5.len
        exact ⟨some ⟨g5, 0, none⟩, c5, by rw [hl]; rfl, by rw [hl]; exact hW5.up hb1⟩
theorem below_draws {B : Nat} {a w : World} (n : Nat) (h : Below B a w) : Below B a (w.drewN n) := ⟨h.os, h.tape, h.output, h.size, h.block⟩

theorem mapOk_any (a : Option Addr) (ps : List PairT) (c : Nat) (w : World) (h : PArg a ps w) :
    Calls Tryz.prog 18 #[.slice a ps.length c] w fun e w' => e = .returned (.bool (isMapT ps)) ∧ Below w.heap.size w w' := by
  have hn := h.le
  obtain ⟨n, hnn⟩ : ∃ n, ps.length = n := ⟨_, rfl⟩
  obtain ⟨B, hB⟩ : ∃ B, isMapT ps = B := ⟨_, rfl⟩
  rw [hB, hnn]
  rw [hnn] at hn
  by_cases hx : 500 < n
  · have hf : Hid (B = false) := by show B = false; rw [← hB]; unfold isMapT; rw [decide_eq_false (by omega), Bool.false_and]
    have z1 : decide ((500 : Int) < (n : Int)) = true := by rw [decide_eq_true_eq]; omega
    have z2 : decide ((n : Int) > 500) = true := by rw [decide_eq_true_eq]; omega
    clear hB
    go_enter Tryz.func18, Tryz.ntmps18
    go_wp2_with fail
    go_ret
    exact ⟨by rw [hf.out]; rfl, Below.refl _ _⟩
  · have hBm : Hid (B = mapTo ps n) := by show B = _; rw [← hB]; unfold isMapT; rw [decide_eq_true (by omega), Bool.true_and, hnn]
    have z1 : decide ((500 : Int) < (n : Int)) = false := by rw [decide_eq_false_iff_not]; omega
    have z2 : decide ((n : Int) > 500) = false := by rw [decide_eq_false_iff_not]; omega
    have hnl : Hid (ps.length = n) := hnn
    clear hB hnn
    go_enter Tryz.func18, Tryz.ntmps18
    go_wp2_with fail
    go_loopw [3] (fun t3 wr => ∃ k : Nat, k ≤ n ∧ t3 = .int .i64 (k : Int) ∧ Hid (mapTo ps k = true) ∧ Below w.heap.size w wr) (fun t3 _ => n - (intOf t3).toNat)
    case atStart => exact ⟨0, Nat.zero_le _, rfl, rfl, Below.refl _ _⟩
    case round =>
      obtain ⟨k, hk, rfl, hm, hbw⟩ := hrel
      by_cases hlt : k < n
      · have z3 : decide ((k : Int) < (n : Int)) = true := by simp; omega
        have hx0 : (0 : Int) ≤ (k : Int) := Int.natCast_nonneg _
        have hx1 : (k : Int) < (n : Int) := by omega
        obtain ⟨b, off, rfl, hbl, hc⟩ := (h.below hbw).at_ (by rw [hnl.out]; omega)
        obtain ⟨hc1, hc2⟩ := hc k (by rw [hnl.out]; exact hlt)
        have hgd : Hid (goodAt ps k = (okKey (ps.getD k noPair).1 && (okVal (ps.getD k noPair).2 && Op.bytesLess (lastK ps k).toList (ps.getD k noPair).1.toList))) := rfl
        obtain ⟨hs1, hs2⟩ := h.sz k
        have hkn : ∀ pk : ByteArray, okKey pk = true → Op.bytesLess (⟨#[]⟩ : ByteArray).toList pk.toList = true := fun pk hok => by
          unfold okKey at hok
          rw [decide_eq_true_eq] at hok
          have : pk.toList ≠ [] := fun e => by
            have hl := congrArg List.length e
            rw [ByteArray.toList_eq] at hl
            have h0 : pk.data.toList.length = pk.size := rfl
            have h1 : pk.size = 0 := h0.symm.trans hl
            omega
          have e0 : (⟨#[]⟩ : ByteArray).toList = [] := by rw [ByteArray.toList_eq]
          rw [e0]
          cases hp : pk.toList with
          | nil => exact absurd hp this
          | cons x y => rfl
        generalize hpk : (ps.getD k noPair).1 = pk at hc1 hgd hs1
        generalize (ps.getD k noPair).2 = pv at hc2 hgd hs2
        have H1 : ∀ w', Calls Tryz.prog 42 #[.string pk, .string pv] w' fun e w'' => e = .returned (.bool (okKey pk && okVal pv)) ∧ w'' = w' := fun w' => pairOk_q pk pv w' hs1 hs2
        cases hk1 : (okKey pk && okVal pv) with
        | false =>
          rw [hk1] at H1
          have hbf : Hid (B = false) := by
            show B = false
            rw [hBm.out]
            exact mapTo_false ps k n hlt (by rw [hgd.out, ← Bool.and_assoc, hk1, Bool.false_and])
          replace H1 : Hid _ := H1
          clear hk1 hgd hm hBm hc hkn hpk
          go_upto_region 6 with fail
          go_quiet ((go_at_call 42; exact Calls.quiet_of_same (H1.out _)))
          go_wp2_with fail
          go_ret
          exact ⟨by rw [hbf.out]; rfl, below_draws nq hbw⟩
        | true =>
          rw [hk1] at H1
          have hok : okKey pk = true := by cases hq : okKey pk with
            | true => rfl
            | false => rw [hq, Bool.false_and] at hk1; cases hk1
          have hg2 : Hid (goodAt ps k = Op.bytesLess (lastK ps k).toList pk.toList) := by show _ = _; rw [hgd.out, ← Bool.and_assoc, hk1, Bool.true_and]
          replace H1 : Hid _ := H1
          by_cases hk0 : k = 0
          · have hm' : Hid (mapTo ps (k + 1) = true) := by
              show _ = _
              rw [mapTo, hm.out, hg2.out, Bool.true_and]
              subst hk0
              exact hkn pk hok
            have y0 : ¬ (0 < (k : Int)) := by omega
            have y1 : decide (0 < (k : Int)) = false := by rw [decide_eq_false_iff_not]; exact y0
            have y2 : ¬ (0 < k) := by omega
            have y3 : decide (0 < k) = false := by rw [decide_eq_false_iff_not]; exact y2
            clear hk1 hgd hm hBm hc hkn hpk hg2 hk0 hok
            go_upto_region 6 with fail
            go_quiet ((go_at_call 42; exact Calls.quiet_of_same (H1.out _)))
            go_wp2_with fail
            go_roundw
            case rel => exact ⟨k + 1, hlt, by go_num, hm', below_draws nq hbw⟩
            case measure => simp [intOf]; omega
          · have y0 : 0 < (k : Int) := by omega
            have y1 : decide (0 < (k : Int)) = true := by rw [decide_eq_true_eq]; exact y0
            have y2 : 0 < k := by omega
            have y3 : decide (0 < k) = true := by rw [decide_eq_true_eq]; exact y2
            obtain ⟨hc3, hc4⟩ := hc (k - 1) (by rw [hnl.out]; omega)
            obtain ⟨hs3, hs4⟩ := h.sz (k - 1)
            have hlk : lastK ps k = (ps.getD (k - 1) noPair).1 := by cases k with | zero => exact absurd rfl hk0 | succ k' => rfl
            rw [hlk] at hg2
            generalize (ps.getD (k - 1) noPair).1 = pl at hc3 hs3 hg2
            have H2 : ∀ w', Calls Tryz.prog 43 #[.string pl, .string pk] w' fun e w'' => e = .returned (.bool (Op.bytesLess pl.toList pk.toList)) ∧ ∃ m, w'' = w'.drewN m := fun w' => by
              rw [ByteArray.toList_eq, ByteArray.toList_eq]
              exact less_q pl pk w' hs3 hs1
            have x0 : (0 : Int) ≤ (k : Int) - 1 := by omega
            have x1 : (k : Int) - 1 < (n : Int) := by omega
            have x2 : ((k : Int) - 1).toNat = k - 1 := by omega
            have x3 : wrap64 ((k : Int) - 1) = (k : Int) - 1 := by unfold wrap64; omega
            cases hlt2 : Op.bytesLess pl.toList pk.toList with
            | false =>
              rw [hlt2] at H2 hg2
              have hbf : Hid (B = false) := by
                show B = false
                rw [hBm.out]
                exact mapTo_false ps k n hlt hg2.out
              replace H2 : Hid _ := H2
              clear hk1 hgd hm hBm hc hkn hpk hg2 hk0 hok hlt2 hlk hc4 hs4
              go_upto_region 6 with fail
              go_quiet (first | (go_at_call 42; exact Calls.quiet_of_same (H1.out _)) | (go_at_call 43; exact Calls.quiet_of (H2.out _)))
              go_wp2_with fail
              go_ret
              exact ⟨by rw [hbf.out]; rfl, below_draws nq hbw⟩
            | true =>
              rw [hlt2] at H2 hg2
              have hm' : Hid (mapTo ps (k + 1) = true) := by
                show _ = _
                rw [mapTo, hm.out, hg2.out]; rfl
              replace H2 : Hid _ := H2
              clear hk1 hgd hm hBm hc hkn hpk hg2 hk0 hok hlt2 hlk hc4 hs4
              go_upto_region 6 with fail
              go_quiet (first | (go_at_call 42; exact Calls.quiet_of_same (H1.out _)) | (go_at_call 43; exact Calls.quiet_of (H2.out _)))
              go_wp2_with fail
              go_roundw
              case rel => exact ⟨k + 1, hlt, by go_num, hm', below_draws nq hbw⟩
              case measure => simp [intOf]; omega
      · obtain rfl : k = n := by omega
        have z3 : decide ((k : Int) < (k : Int)) = false := by simp
        have hbt : Hid (B = true) := by show B = true; rw [hBm.out, hm.out]
        clear hBm hm
        go_wp2_with fail
        go_ret
        exact ⟨by rw [hbt.out]; rfl, hbw⟩
end Go.Proofs.YtmfhfehemoeeeaaGreatDoor
