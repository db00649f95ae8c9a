import Derived.Test.YtfmpjlpakldheaaGreatDoorZybr
import Derived.Test.YtfmpjlpakldheaaGreatDoorZyat
import Derived.Test.YtfmpjlpakldheaaGreatDoorZybg
namespace Go.Proofs.YtfmpjlpakldheaaGreatDoor
open Go.RowKit Go.Proofs.Sha

set_option maxRecDepth 100000 in
set_option maxHeartbeats 1000000 in
theorem wwithout_any (a : Option Addr) (ps : List PairT) (c : Nat) (key : ByteArray) (w : World) (h : PArg a ps w) : Calls Tryz.prog 20 #[.slice a ps.length c, .string key] w (PairsAt (wout ps key) w) := by
  obtain ⟨i0, hi0, hz0, hz1, hz2⟩ := info_parts2 info37
  have hn := h.le
  obtain ⟨N, hN⟩ : ∃ N, ps.length = N := ⟨_, rfl⟩
  rw [hN] at hn ⊢
  have hNl : Hid (ps.length = N) := hN
  clear hN
  have hO := OwnP.nil w
  go_enter Tryz.func20, Tryz.ntmps20
  go_wp2_with fail
  go_loopw [5, 6] (fun t5 t6 wr => ∃ k : Nat, k ≤ N ∧ t6 = .int .i64 (k : Int) ∧ ∃ (a' : Option Addr) (m d' : Nat), t5 = .slice a' m d' ∧ OwnP w (wout (ps.take k) key) a' m d' wr) (fun _ t6 _ => N - (intOf t6).toNat)
  case atStart => exact ⟨0, Nat.zero_le _, rfl, _, _, _, rfl, hO⟩
  case round =>
    obtain ⟨k, hk, rfl, a', m, d', rfl, hW⟩ := hrel
    by_cases hlt : k < N
    · have z1 : decide ((k : Int) < (N : Int)) = true := by simp; omega
      have hx0 : (0 : Int) ≤ (k : Int) := Int.natCast_nonneg _
      have hx1 : (k : Int) < (N : Int) := by omega
      obtain ⟨b1, off1, rfl, hbl1, hc⟩ := (h.below hW.bel).at_ (by rw [hNl.out]; omega)
      obtain ⟨hc1, hc2⟩ := hc k (by rw [hNl.out]; exact hlt)
      have hml : m ≤ 1048576 := by have := hW.len; have := wout_le (ps.take k) key; rw [List.length_take] at this; omega
      have htk : Hid (wout (ps.take (k + 1)) key = wout (ps.take k) key ++ wout [ps.getD k noPair] key) := by
        show _ = _
        rw [take_getD ps k (by rw [hNl.out]; exact hlt), wout_app]
      generalize ps.getD k noPair = p at hc1 hc2 htk
      obtain ⟨pk, pv⟩ := p
      simp only at hc1 hc2
      have hbs := hW.bel.size
      by_cases e : pk = key
      · have z2 : (pk.toList == key.toList) = true := by rw [ba_eq, decide_eq_true e]
        have hf : Hid (wout [(pk, pv)] key = []) := by show _ = _; simp [wout, e]
        clear e hc
        go_wp2_with fail
        go_roundw
        case rel => exact ⟨k + 1, hlt, by go_num, _, _, _, rfl, by rw [htk.out, hf.out, List.append_nil]; exact hW⟩
        case measure => simp [intOf]; omega
      · have z2 : (pk.toList == key.toList) = false := by rw [ba_eq, decide_eq_false e]
        have hf : Hid (wout [(pk, pv)] key = [(pk, pv)]) := by show _ = _; simp [wout, e]
        have own := hW.own
        clear e hc
        go_wp2_with (at_builtin; refine wpList_append_lies _ rfl (.tmp 21) (.tmp 26) 23 rfl w.heap.size 34 i0 (.agg #[.string ⟨#[]⟩, .string ⟨#[]⟩]) 2 32 Tryz.underlying23 hi0 hz0 hz1 hz2 rfl (by decide) (.slice a' m d') m (flatP (wout (ps.take k) key)) rfl (own.alloc _) ⟨wr.heap.size, 0, none⟩ 1 1 [.string pk, .string pv] rfl rfl (World.news_of_block (heap_alloc_new wr _)) (by simp [Value.oneCell']) (by decide) (by unfold maxLen; omega) (by omega) (by simp; omega) (wr.heap.size + 1) (by simp) ?_; intro g5 c5 w5 hown5 hgrow5 hat5 hlt5)
        go_roundw
        case rel => exact ⟨k + 1, hlt, by go_num, _, _, _, rfl, by rw [htk.out, hf.out]; exact hW.more hown5 hgrow5 rfl⟩
        case measure => simp [intOf]; omega
    · obtain rfl : k = N := by omega
      have z1 : decide ((k : Int) < (k : Int)) = false := by simp
      rw [List.take_of_length_le (by rw [hNl.out]; exact Nat.le_refl _)] at hW
      have hl := hW.len
      subst hl
      go_wp2_with fail
      go_ret
      exact ⟨_, _, rfl, hW⟩
set_option maxRecDepth 100000 in
set_option maxHeartbeats 2000000 in
theorem wwith_any (a : Option Addr) (ps : List PairT) (c : Nat) (key val : ByteArray) (w : World) (h : PArg a ps w) (hks : key.size ≤ 1048576) (hpl : ps.length ≤ 100000) : Calls Tryz.prog 40 #[.slice a ps.length c, .string key, .string val] w (PairsAt (wth ps key val) w) := by
  obtain ⟨i0, hi0, hz0, hz1, hz2⟩ := info_parts2 info37
  have HO := wwithout_any a ps c key w h
  have hrs : SmallP (wout ps key) := by
    refine ⟨Nat.le_trans (wout_le ps key) h.le, fun j => ?_⟩
    by_cases hj : j < (wout ps key).length
    · have hm : (wout ps key)[j] ∈ ps := (List.mem_filter.1 (List.getElem_mem hj)).1
      obtain ⟨i, hi, e⟩ := List.getElem_of_mem hm
      have := h.sz i
      rw [List.getD_eq_getElem?_getD, List.getElem?_eq_getElem hi, Option.getD_some, e] at this
      rw [List.getD_eq_getElem?_getD, List.getElem?_eq_getElem hj, Option.getD_some]
      exact this
    · rw [pget_out _ _ (by omega)]
      exact ⟨Nat.zero_le _, Nat.zero_le _⟩
  have hrl : (wout ps key).length ≤ 100000 := Nat.le_trans (wout_le ps key) hpl
  unfold wth
  generalize wout ps key = rest at HO hrs hrl ⊢
  go_enter Tryz.func40, Tryz.ntmps40
  go_upto_region 2 with (first | (go_at_call 20; refine HO.mono ?_; rintro e w1 ⟨a1, c1, rfl, hO1⟩))
  have hb1 := hO1.bel
  have hp1 := ownp_parg hO1 hrs
  have hO2 := OwnP.nil w1
  obtain ⟨N, hN⟩ : ∃ N, rest.length = N := ⟨_, rfl⟩
  rw [hN] at hrl ⊢
  have hNl : Hid (rest.length = N) := hN
  clear hN hO1 HO
  go_wp2_with fail
  go_loopw [8, 9, 10] (fun t8 t9 t10 wr => ∃ k : Nat, k ≤ N ∧ t10 = .int .i64 (k : Int) ∧ ∃ (d : Bool) (a' : Option Addr) (m d' : Nat) (out : List PairT), t9 = .bool d ∧ t8 = .slice a' m d' ∧ OwnP w1 out a' m d' wr ∧ Hid (Mid rest key val k out d)) (fun _ _ t10 _ => N - (intOf t10).toNat)
  case atStart => exact ⟨0, Nat.zero_le _, rfl, false, _, _, _, [], rfl, rfl, hO2, Mid.start rest key val⟩
  case round =>
    obtain ⟨k, hk, rfl, d, a', m, d', out, rfl, rfl, hW, hM⟩ := hrel
    have hml : m ≤ 100001 := by have := hW.len; have := hM.out.len; rw [hNl.out] at this; omega
    have hbs := hW.bel.size
    have own := hW.own
    by_cases hlt : k < N
    · have z1 : decide ((k : Int) < (N : Int)) = true := by simp; omega
      have hx0 : (0 : Int) ≤ (k : Int) := Int.natCast_nonneg _
      have hx1 : (k : Int) < (N : Int) := by omega
      have hkr : Hid (k < rest.length) := by show _ < _; rw [hNl.out]; exact hlt
      obtain ⟨b1, off1, rfl, hbl1, hc⟩ := (hp1.below hW.bel).at_ (by rw [hNl.out]; omega)
      obtain ⟨hc1, hc2⟩ := hc k hkr.out
      have hsz := (hrs.2 k).1
      have Mdone : Hid (d = true → Mid rest key val (k + 1) (out ++ [rest.getD k noPair]) true) := fun e => by subst e; exact hM.out.done hkr.out
      have Mnow : Hid (d = false → lessB key (rest.getD k noPair).1 = true → Mid rest key val (k + 1) (out ++ [(key, val)] ++ [rest.getD k noPair]) true) := fun e => by subst e; exact hM.out.now hkr.out
      have Mpast : Hid (d = false → lessB key (rest.getD k noPair).1 = false → Mid rest key val (k + 1) (out ++ [rest.getD k noPair]) false) := fun e => by subst e; exact hM.out.past hkr.out
      obtain ⟨p, hpp⟩ : ∃ p, rest.getD k noPair = p := ⟨_, rfl⟩
      have hpe : Hid (rest.getD k noPair = p) := hpp
      rw [hpp] at hc1 hc2 hsz Mdone Mnow Mpast
      clear hpp
      obtain ⟨pk, pv⟩ := p
      simp only at hc1 hc2 hsz
      have hbl2 : b1 < wr.heap.size := hbl1
      clear hc hM
      cases d with
      | true =>
        go_wp2_with (at_builtin; refine wpList_append_lies _ rfl (.tmp 38) (.tmp 43) 23 rfl w1.heap.size 34 i0 (.agg #[.string ⟨#[]⟩, .string ⟨#[]⟩]) 2 32 Tryz.underlying23 hi0 hz0 hz1 hz2 rfl (by decide) (.slice a' m d') m (flatP out) rfl (own.alloc _) ⟨wr.heap.size, 0, none⟩ 1 1 [.string pk, .string pv] rfl rfl (World.news_of_block (heap_alloc_new wr _)) (by simp [Value.oneCell']) (by decide) (by unfold maxLen; omega) (by omega) (by simp; omega) (wr.heap.size + 1) (by simp) ?_; intro g5 c5 w5 hown5 hgrow5 hat5 hlt5)
        go_roundw
        case rel => exact ⟨k + 1, hlt, by go_num, true, _, _, _, _, rfl, rfl, hW.more hown5 hgrow5 rfl, Mdone.out (by first | rfl | trivial)⟩
        case measure => simp [intOf]; omega
      | false =>
        have HL := wless_q key pk wr hks hsz
        cases hl : lessB key pk with
        | false =>
          rw [hl] at HL
          go_upto_region 10 with (first | (go_at_call 35; refine HL.mono ?_; rintro e w3 ⟨rfl, q, rfl⟩))
          have hW3 := hW.below (drewN_below wr q)
          have own3 := hW3.own
          have hd1 := ((drewN_below wr q).cell (p := ⟨b1, off1 + k * 2, none⟩) hbl2).trans hc1
          have hd2 := ((drewN_below wr q).cell (p := ⟨b1, off1 + k * 2 + 1, none⟩) hbl2).trans hc2
          have hbs3 := hW3.bel.size
          clear own hc1 hc2 HL
          generalize wr.drewN q = w3 at *
          go_wp2_with (at_builtin; refine wpList_append_lies _ rfl (.tmp 38) (.tmp 43) 23 rfl w1.heap.size 34 i0 (.agg #[.string ⟨#[]⟩, .string ⟨#[]⟩]) 2 32 Tryz.underlying23 hi0 hz0 hz1 hz2 rfl (by decide) (.slice a' m d') m (flatP out) rfl (own3.alloc _) ⟨w3.heap.size, 0, none⟩ 1 1 [.string pk, .string pv] rfl rfl (World.news_of_block (heap_alloc_new w3 _)) (by simp [Value.oneCell']) (by decide) (by unfold maxLen; omega) (by omega) (by simp; omega) (w3.heap.size + 1) (by simp) ?_; intro g5 c5 w5 hown5 hgrow5 hat5 hlt5)
          go_roundw
          case rel => exact ⟨k + 1, hlt, by go_num, false, _, _, _, _, rfl, rfl, hW3.more hown5 hgrow5 rfl, Mpast.out (by first | rfl | trivial) hl⟩
          case measure => simp [intOf]; omega
        | true =>
          rw [hl] at HL
          go_upto_region 8 with (first | (go_at_call 35; refine HL.mono ?_; rintro e w3 ⟨rfl, q, rfl⟩))
          have hW3 := hW.below (drewN_below wr q)
          have own3 := hW3.own
          have hd1 := ((drewN_below wr q).cell (p := ⟨b1, off1 + k * 2, none⟩) hbl2).trans hc1
          have hd2 := ((drewN_below wr q).cell (p := ⟨b1, off1 + k * 2 + 1, none⟩) hbl2).trans hc2
          have hbs3 := hW3.bel.size
          clear own hc1 hc2 HL
          generalize wr.drewN q = w3 at *
          go_upto_region 9 with (at_builtin; refine wpList_append_lies _ rfl (.tmp 32) (.tmp 36) 23 rfl w1.heap.size 34 i0 (.agg #[.string ⟨#[]⟩, .string ⟨#[]⟩]) 2 32 Tryz.underlying23 hi0 hz0 hz1 hz2 rfl (by decide) (.slice a' m d') m (flatP out) rfl (own3.alloc _) ⟨w3.heap.size, 0, none⟩ 1 1 [.string key, .string val] rfl rfl (World.news_of_block (heap_alloc_new w3 _)) (by simp [Value.oneCell']) (by decide) (by unfold maxLen; omega) (by omega) (by simp; omega) (w3.heap.size + 1) (by simp) ?_; intro g5 c5 w5 hown5 hgrow5 hat5 hlt5)
          have hW5 := hW3.more (y := (key, val)) hown5 hgrow5 rfl
          have hp5 := hp1.below hW5.bel
          have own5 := hW5.own
          have hbs5 := hW5.bel.size
          obtain ⟨b2, off2, e2, hbl5, hc5⟩ := hp5.at_ (by rw [hNl.out]; omega)
          cases e2
          obtain ⟨hd1, hd2⟩ := hc5 k hkr.out
          have Mn := Mnow.out (by first | rfl | trivial) hl
          replace Mn : Hid _ := Mn
          have hgd : (rest.getD k noPair) = (pk, pv) := hpe.out
          rw [hgd] at hd1 hd2
          simp only at hd1 hd2
          clear own3 hc5 hgd
          go_wp2_with (at_builtin; refine wpList_append_lies _ rfl (.tmp 38) (.tmp 43) 23 rfl w1.heap.size 34 i0 (.agg #[.string ⟨#[]⟩, .string ⟨#[]⟩]) 2 32 Tryz.underlying23 hi0 hz0 hz1 hz2 rfl (by decide) (.slice (some ⟨g5, 0, none⟩) (m + 1) c5) (m + 1) (flatP (out ++ [(key, val)])) rfl (own5.alloc _) ⟨w5.heap.size, 0, none⟩ 1 1 [.string pk, .string pv] rfl rfl (World.news_of_block (heap_alloc_new w5 _)) (by simp [Value.oneCell']) (by decide) (by unfold maxLen; omega) (by omega) (by simp; omega) (w5.heap.size + 1) (by simp) ?_; intro g6 c6 w6 hown6 hgrow6 hat6 hlt6)
          go_roundw
          case rel => exact ⟨k + 1, hlt, by go_num, true, _, _, _, _, rfl, rfl, hW5.more hown6 hgrow6 rfl, Mn.out⟩
          case measure => simp [intOf]; omega
    · obtain rfl : k = N := by omega
      have z1 : decide ((k : Int) < (k : Int)) = false := by simp
      cases d with
      | true =>
        have hfin : Hid (out = ins key val rest) := by
          have := hM.out
          unfold Mid at this
          rw [List.drop_of_length_le (by rw [hNl.out]; exact Nat.le_refl _), List.append_nil] at this
          exact this
        have HF : Hid (PairsAt (ins key val rest) w (.returned (.slice a' m d')) wr) := by
          have hl := hW.len
          subst hl
          rw [← hfin.out]
          exact ⟨_, _, rfl, hW.up hb1⟩
        clear hM hfin own
        go_wp2_with fail
        go_ret
        exact HF.out
      | false =>
        have hfin : Hid (out ++ [(key, val)] = ins key val rest) := by
          have := hM.out
          unfold Mid at this
          obtain ⟨h1, h2⟩ := this
          rw [List.drop_of_length_le (by rw [hNl.out]; exact Nat.le_refl _), ins] at h2
          show _ = _
          rw [h2, h1]
        clear hM
        go_wp2_with (at_builtin; refine wpList_append_lies _ rfl (.tmp 47) (.tmp 51) 23 rfl w1.heap.size 34 i0 (.agg #[.string ⟨#[]⟩, .string ⟨#[]⟩]) 2 32 Tryz.underlying23 hi0 hz0 hz1 hz2 rfl (by decide) (.slice a' m d') m (flatP out) rfl (own.alloc _) ⟨wr.heap.size, 0, none⟩ 1 1 [.string key, .string val] rfl rfl (World.news_of_block (heap_alloc_new wr _)) (by simp [Value.oneCell']) (by decide) (by unfold maxLen; omega) (by omega) (by simp; omega) (wr.heap.size + 1) (by simp) ?_; intro g5 c5 w5 hown5 hgrow5 hat5 hlt5)
        go_ret
        have hW5 := hW.more (y := (key, val)) hown5 hgrow5 rfl
        rw [hfin.out] at hW5
        have hl := hW5.len
        exact ⟨some ⟨g5, 0, none⟩, c5, by rw [hl]; rfl, by rw [hl]; exact hW5.up hb1⟩
end Go.Proofs.YtfmpjlpakldheaaGreatDoor
namespace Go.Proofs.YtfmpjlpakldheaaGreatDoor
open Go.RowKit Go.Proofs.Sha

def noCh : ChT := (⟨#[]⟩, false, ⟨#[]⟩, false, ⟨#[]⟩)
theorem flatC_get : ∀ (l : List ChT) (j : Nat), j < l.length → ∀ i, i < 5 → (flatC l)[j * 5 + i]? = (chL (l.getD j noCh))[i]?
  | [], j, h, _, _ => absurd h (Nat.not_lt_zero _)
  | x :: l, 0, _, i, hi => by
    rw [flatC, Nat.zero_mul, Nat.zero_add, List.getElem?_append_left (by show i < 5; exact hi)]
    rfl
  | x :: l, j + 1, h, i, hi => by
    have := flatC_get l j (by simpa using h) i hi
    rw [flatC, List.getElem?_append_right (by show 5 ≤ _; omega)]
    show (flatC l)[(j + 1) * 5 + i - 5]? = _
    rw [show (j + 1) * 5 + i - 5 = j * 5 + i by omega, this]
    rfl
/-- Changes that are read. -/
structure CArg (a : Option Addr) (cs : List ChT) (w : World) : Prop where
  le : cs.length ≤ 1048576
  sz : ∀ j, (cs.getD j noCh).1.size ≤ 1048576 ∧ (cs.getD j noCh).2.2.2.2.size ≤ 1048576
  at_ : 0 < cs.length → ∃ b off : Nat, a = some ⟨b, off, none⟩ ∧ b < w.heap.size ∧ ∀ j, j < cs.length → w.cell? ⟨b, off + j * 5, none⟩ = some (.string (cs.getD j noCh).1) ∧ w.cell? ⟨b, off + j * 5 + 1, none⟩ = some (.bool (cs.getD j noCh).2.1) ∧ w.cell? ⟨b, off + j * 5 + 2, none⟩ = some (.string (cs.getD j noCh).2.2.1) ∧ w.cell? ⟨b, off + j * 5 + 3, none⟩ = some (.bool (cs.getD j noCh).2.2.2.1) ∧ w.cell? ⟨b, off + j * 5 + 4, none⟩ = some (.string (cs.getD j noCh).2.2.2.2)
theorem CArg.below {a : Option Addr} {cs : List ChT} {w w' : World} (h : CArg a cs w) (hb : Below w.heap.size w w') : CArg a cs w' := by
  refine ⟨h.le, h.sz, fun hn => ?_⟩
  obtain ⟨b, off, ha, hlt, hc⟩ := h.at_ hn
  exact ⟨b, off, ha, Nat.lt_of_lt_of_le hlt hb.size, fun j hj => ⟨(hb.cell (p := ⟨b, off + j * 5, none⟩) hlt).trans (hc j hj).1, (hb.cell (p := ⟨b, off + j * 5 + 1, none⟩) hlt).trans (hc j hj).2.1, (hb.cell (p := ⟨b, off + j * 5 + 2, none⟩) hlt).trans (hc j hj).2.2.1, (hb.cell (p := ⟨b, off + j * 5 + 3, none⟩) hlt).trans (hc j hj).2.2.2.1, (hb.cell (p := ⟨b, off + j * 5 + 4, none⟩) hlt).trans (hc j hj).2.2.2.2⟩⟩
theorem OwnC.carg {w W : World} {cs : List ChT} {a : Option Addr} {m c : Nat} (h : OwnC w cs a m c W) (hl : cs.length ≤ 1048576) (hs : ∀ x ∈ cs, x.1.size ≤ 1048576 ∧ x.2.2.2.2.size ≤ 1048576) : CArg a cs W := by
  have hlen := h.len
  refine ⟨hl, fun j => ?_, fun hn => ?_⟩
  · by_cases hj : j < cs.length
    · rw [List.getD_eq_getElem?_getD, List.getElem?_eq_getElem hj]
      exact hs _ (List.getElem_mem hj)
    · rw [List.getD_eq_getElem?_getD, List.getElem?_eq_none (by omega)]
      exact ⟨Nat.zero_le _, Nat.zero_le _⟩
  · rcases h.own.2 with ⟨e, h0⟩ | ⟨g, cap', cur, e, hb, hg, q1, q2, q3, q4⟩
    · omega
    · simp only [Value.slice.injEq] at e
      obtain ⟨rfl, _, _⟩ := e
      refine ⟨g, 0, rfl, (Array.getElem?_eq_some_iff.1 hg).1, fun j hj => ?_⟩
      have hgt : ∀ i, i < 5 → W.cell? ⟨g, 0 + j * 5 + i, Option.none⟩ = (chL (cs.getD j noCh))[i]? := fun i hi => by
        have e0 := flatC_get cs j hj i hi
        rw [← q4, List.getElem?_take, if_pos (by omega)] at e0
        rw [Nat.zero_add]
        exact (Lib.cell_of_heap hg _).trans (by simpa using e0)
      exact ⟨hgt 0 (by omega), hgt 1 (by omega), hgt 2 (by omega), hgt 3 (by omega), hgt 4 (by omega)⟩
theorem take_getC (ps : List ChT) (i : Nat) (h : i < ps.length) : ps.take (i + 1) = ps.take i ++ [ps.getD i noCh] := by
  rw [List.take_add_one, List.getElem?_eq_getElem h]
  simp [List.getD_eq_getElem?_getD, List.getElem?_eq_getElem h]
theorem appl_app (ps : List PairT) (a b : List ChT) : appl ps (a ++ b) = appl (appl ps a) b := List.foldl_append ..
theorem appl_len : ∀ (cs : List ChT) (ps : List PairT), (appl ps cs).length ≤ ps.length + cs.length
  | [], ps => Nat.le_refl _
  | c :: cs, ps => by
    have h1 := appl_len cs (appS ps c)
    have h2 : (appS ps c).length ≤ ps.length + 1 := by
      unfold appS
      split
      · exact wth_len _ _ _
      · have := wout_le ps c.1
        omega
    show (appl (appS ps c) cs).length ≤ _
    simp only [List.length_cons]
    omega
set_option maxRecDepth 100000 in
set_option maxHeartbeats 1000000 in
theorem wapplied_any (a : Option Addr) (ps : List PairT) (c : Nat) (b : Option Addr) (cs : List ChT) (d : Nat) (w : World) (h : PArg a ps w) (hC : CArg b cs w) (hpl : ps.length ≤ 10000) (hcl : cs.length ≤ 10000) :
    Calls Tryz.prog 36 #[.slice a ps.length c, .slice b cs.length d] w fun e w' => ∃ a' c', e = .returned (.slice a' (appl ps cs).length c') ∧ PArg a' (appl ps cs) w' ∧ Below w.heap.size w w' := by
  obtain ⟨M, hM⟩ : ∃ M, ps.length = M := ⟨_, rfl⟩
  obtain ⟨N, hN⟩ : ∃ N, cs.length = N := ⟨_, rfl⟩
  rw [hN] at hcl ⊢
  rw [hM] at hpl ⊢
  have hNl : Hid (cs.length = N) := hN
  have hMl : Hid (ps.length = M) := hM
  clear hN hM
  go_enter Tryz.func36, Tryz.ntmps36
  go_wp2_with fail
  go_loopw [0, 5] (fun t2 t5 wr => ∃ k : Nat, k ≤ N ∧ t5 = .int .i64 (k : Int) ∧ ∃ (a' : Option Addr) (m d' : Nat), t2 = .slice a' m d' ∧ Hid ((appl ps (cs.take k)).length = m) ∧ PArg a' (appl ps (cs.take k)) wr ∧ Below w.heap.size w wr) (fun _ t5 _ => N - (intOf t5).toNat)
  case atStart => exact ⟨0, Nat.zero_le _, rfl, _, _, _, rfl, hMl, h, Below.refl _ _⟩
  case round =>
    obtain ⟨k, hk, rfl, a', m, d', rfl, hml, hP, hbw⟩ := hrel
    by_cases hlt : k < N
    · have z1 : decide ((k : Int) < (N : Int)) = true := by simp; omega
      have hx0 : (0 : Int) ≤ (k : Int) := Int.natCast_nonneg _
      have hx1 : (k : Int) < (N : Int) := by omega
      have hszk := hC.sz k
      obtain ⟨b1, off1, rfl, hbl1, hc⟩ := (hC.below hbw).at_ (by rw [hNl.out]; omega)
      obtain ⟨hc1, hc2, hc3, hc4, hc5⟩ := hc k (by rw [hNl.out]; exact hlt)
      have hlen : (appl ps (cs.take k)).length ≤ 100000 := by
        have := appl_len (cs.take k) ps
        rw [List.length_take, hMl.out] at this
        omega
      have htk : Hid (appl ps (cs.take (k + 1)) = appS (appl ps (cs.take k)) (cs.getD k noCh)) := by
        show _ = _
        rw [take_getC cs k (by rw [hNl.out]; exact hlt), appl_app]
        rfl
      generalize cs.getD k noCh = p at hc1 hc2 hc3 hc4 hc5 htk hszk
      obtain ⟨pk, p1, p2, p3, pv⟩ := p
      simp only at hc1 hc2 hc3 hc4 hc5 hszk
      generalize appl ps (cs.take k) = S at hml hP htk hlen
      clear hc
      cases p3 with
      | true =>
        have hbd : Bd S := fun p hp => by
          obtain ⟨j, hj, rfl⟩ := List.mem_iff_getElem.1 hp
          have := hP.sz j
          rw [List.getD_eq_getElem?_getD, List.getElem?_eq_getElem hj] at this
          exact this
        obtain ⟨m5, hm5⟩ : ∃ m5, (wth S pk pv).length = m5 := ⟨_, rfl⟩
        have hm5h : Hid ((wth S pk pv).length = m5) := hm5
        have hdr : Below wr.heap.size wr wr.drew := draws_below 1 (Below.refl _ _)
        have K : Hid (Calls Tryz.prog 40 #[.slice a' m d', .string pk, .string pv] wr.drew fun e w'' => ∃ a5 c5, e = .returned (.slice a5 m5 c5) ∧ PArg a5 (wth S pk pv) w'' ∧ Below wr.heap.size wr w'') := by
          have HW := wwith_any a' S d' pk pv wr.drew (hP.below hdr) hszk.1 (by omega)
          rw [hml.out] at HW
          refine HW.mono ?_
          rintro e w'' ⟨a5, c5, rfl, ho⟩
          exact ⟨a5, c5, by rw [hm5], ownp_parg ho ((hbd.wth hszk.1 hszk.2).small (by have := wth_len S pk pv; omega)), hdr.trans (ho.bel.mono hdr.size)⟩
        have htk' : Hid (appl ps (cs.take (k + 1)) = wth S pk pv) := by
          show _ = _
          rw [htk.out]
          unfold appS
          rw [if_pos rfl]
        clear hm5 htk hbd hszk hP
        go_wp2_with fail
        go_region_held3 (fun W => W.cell? ⟨b1, off1 + k * 5, none⟩ = some (.string pk) ∧ W.cell? ⟨b1, off1 + k * 5 + 4, none⟩ = some (.string pv)) (first | exact ⟨hc1, hc5⟩ | exact ⟨hd1, hd5⟩) (first | (go_at_call 40; refine K.out.mono ?_; rintro e w1 ⟨a5, c5, rfl, hP5, hb5⟩; have hd1 := (hb5.cell (p := ⟨b1, off1 + k * 5, none⟩) hbl1).trans hc1; have hd5 := (hb5.cell (p := ⟨b1, off1 + k * 5 + 4, none⟩) hbl1).trans hc5))
        go_wp2_with fail
        have hbw5 := hbw.trans (hb5.mono hbw.size)
        go_roundw
        case rel => exact ⟨k + 1, hlt, by go_num, _, _, _, rfl, by rw [htk'.out]; exact hm5h, by rw [htk'.out]; exact hP5, hbw5⟩
        case measure => simp [intOf]; omega
      | false =>
        have hbd : Bd S := fun p hp => by
          obtain ⟨j, hj, rfl⟩ := List.mem_iff_getElem.1 hp
          have := hP.sz j
          rw [List.getD_eq_getElem?_getD, List.getElem?_eq_getElem hj] at this
          exact this
        obtain ⟨m5, hm5⟩ : ∃ m5, (wout S pk).length = m5 := ⟨_, rfl⟩
        have hm5h : Hid ((wout S pk).length = m5) := hm5
        have K : Hid (Calls Tryz.prog 20 #[.slice a' m d', .string pk] wr fun e w'' => ∃ a5 c5, e = .returned (.slice a5 m5 c5) ∧ PArg a5 (wout S pk) w'' ∧ Below wr.heap.size wr w'') := by
          have HW := wwithout_any a' S d' pk wr hP
          rw [hml.out] at HW
          refine HW.mono ?_
          rintro e w'' ⟨a5, c5, rfl, ho⟩
          exact ⟨a5, c5, by rw [hm5], ownp_parg ho ((Bd.small (fun p hp => hbd p ((List.mem_filter.1 hp).1)) (by have := wout_le S pk; omega))), ho.bel⟩
        have htk' : Hid (appl ps (cs.take (k + 1)) = wout S pk) := by
          show _ = _
          rw [htk.out]
          unfold appS
          rw [if_neg (by simp)]
        clear hm5 htk hbd hszk hP
        go_wp2_with (first | (go_at_call 20; refine K.out.mono ?_; rintro e w1 ⟨a5, c5, rfl, hP5, hb5⟩))
        have hbw5 := hbw.trans (hb5.mono hbw.size)
        go_roundw
        case rel => exact ⟨k + 1, hlt, by go_num, _, _, _, rfl, by rw [htk'.out]; exact hm5h, by rw [htk'.out]; exact hP5, hbw5⟩
        case measure => simp [intOf]; omega
    · obtain rfl : k = N := by omega
      have z1 : decide ((k : Int) < (k : Int)) = false := by simp
      rw [List.take_of_length_le (by rw [hNl.out]; exact Nat.le_refl _)] at hP hml
      go_wp2_with fail
      go_ret
      exact ⟨a', d', by rw [hml.out]; rfl, hP, hbw⟩
end Go.Proofs.YtfmpjlpakldheaaGreatDoor
