import Derived.Test.YtmfhfehemoeeeaaGreatDoorZsbr
import Derived.Test.YtmfhfehemoeeeaaGreatDoorZsbo
import Derived.Test.YtmfhfehemoeeeaaGreatDoorZsbd
import Derived.Test.YtmfhfehemoeeeaaGreatDoorZsbc
import Derived.Test.YtmfhfehemoeeeaaGreatDoorZsbj
set_option maxRecDepth 100000
set_option maxHeartbeats 2000000
namespace Go.Proofs.YtmfhfehemoeeeaaGreatDoor
open Go.RowKit Go.Proofs.Sha

theorem firstI_is {p : Nat → Bool} : ∀ {k i : Nat}, firstI p k = some i → p i = true
  | 0, i, h => by simp [firstI] at h
  | k + 1, i, h => by
    rw [firstI] at h
    cases hk : firstI p k with
    | some j =>
      rw [hk] at h
      cases h
      exact firstI_is hk
    | none =>
      rw [hk] at h
      simp only at h
      split at h
      · cases h; assumption
      · cases h
theorem fst2_is {wd : Nat} {ss ad : List ByteArray} {e u : ByteArray} (h : fst2 wd ss ad (hashT wd e) = some u) : hashT wd u = hashT wd e ∧ u ∈ ss ++ ad := by
  unfold fst2 at h
  cases hi : firstI (hitB wd (ss ++ ad) (hashT wd e)) (ss.length + ad.length) with
  | none => rw [hi] at h; cases h
  | some i =>
    rw [hi] at h
    simp only [Option.map_some, Option.some.injEq] at h
    have h1 := firstI_is hi
    have hl := firstI_lt hi
    unfold hitB at h1
    rw [h, decide_eq_true_eq] at h1
    refine ⟨?_, ?_⟩
    · unfold hashT at h1 ⊢
      simp only at h1
      rw [h1]
    · rw [← h, List.getD_eq_getElem?_getD, List.getElem?_eq_getElem (by rw [List.length_append]; omega)]
      exact List.getElem_mem _
/-- What a clash and a full pool say. -/
theorem sv_ends (wd : Nat) (ss : List ByteArray) : ∀ (es ad0 : List ByteArray), (∀ u e, es.foldl (svStep wd ss) (.go ad0) = .clash u e → u ≠ e ∧ hashT wd u = hashT wd e ∧ (u ∈ ss ∨ u ∈ ad0 ∨ u ∈ es) ∧ e ∈ es) ∧ (es.foldl (svStep wd ss) (.go ad0) = .full → 20000 ≤ ss.length + ad0.length + es.length)
  | [], ad0 => ⟨fun u e h => (by cases h), fun h => (by cases h)⟩
  | e :: es, ad0 => by
    rw [List.foldl_cons]
    cases hf : fst2 wd ss ad0 (hashT wd e) with
    | some u =>
      rw [svStep_some hf]
      split
      · obtain ⟨a1, a2⟩ := sv_ends wd ss es ad0
        refine ⟨fun u' e' h => ?_, fun h => by have := a2 h; rw [List.length_cons]; omega⟩
        obtain ⟨b1, b2, b3, b4⟩ := a1 u' e' h
        exact ⟨b1, b2, b3.imp id (fun q => q.imp id (List.mem_cons_of_mem _)), List.mem_cons_of_mem _ b4⟩
      · rename_i hne
        rw [sv_stuck wd ss es _ rfl]
        refine ⟨fun u' e' h => ?_, fun h => by cases h⟩
        cases h
        obtain ⟨b1, b2⟩ := fst2_is hf
        refine ⟨hne, b1, ?_, List.mem_cons_self⟩
        rcases List.mem_append.1 b2 with q | q
        · exact .inl q
        · exact .inr (.inl q)
    | none =>
      rw [svStep_none hf]
      split
      · rename_i hfl
        rw [sv_stuck wd ss es _ rfl]
        refine ⟨fun u' e' h => (by cases h), fun _ => ?_⟩
        rw [List.length_cons]
        omega
      · obtain ⟨a1, a2⟩ := sv_ends wd ss es (ad0 ++ [e])
        refine ⟨fun u' e' h => ?_, fun h => by have := a2 h; rw [List.length_append] at this; rw [List.length_cons]; simp at this; omega⟩
        obtain ⟨b1, b2, b3, b4⟩ := a1 u' e' h
        refine ⟨b1, b2, ?_, List.mem_cons_of_mem _ b4⟩
        rcases b3 with q | q | q
        · exact .inl q
        · rcases List.mem_append.1 q with q | q
          · exact .inr (.inl q)
          · exact .inr (.inr (by rw [List.mem_singleton.1 q]; exact List.mem_cons_self))
        · exact .inr (.inr (List.mem_cons_of_mem _ q))
/-- Saving into a pool that is not near its end: it is gone through, or there is a clash. -/
theorem savO_cases {wd n k s : Nat} {ss : List ByteArray} {ps : List PairT} (hs : SmT ss n s) (h10 : 10000 ≤ s) (hp : ps.length ≤ k) (hnk : n + k < 20000) :
    (∃ ad, svAll wd ss (encsT wd (cutTree ps)) = .go ad ∧ savO wd ss (cutTree ps) = ⟨0, (wd : Int), ss ++ ad, rootT wd (cutTree ps), ⟨#[]⟩, ⟨#[]⟩⟩ ∧ SmT (ss ++ ad) (n + k) s) ∨
    (∃ u e, savO wd ss (cutTree ps) = ⟨4, (wd : Int), ss, ⟨#[]⟩, txt u, txt e⟩ ∧ u ≠ e ∧ hashT wd u = hashT wd e ∧ u.size ≤ s ∧ e.size ≤ s) := by
  have hen := sv_ends wd ss (encsT wd (cutTree ps)) []
  unfold savO
  cases hR : svAll wd ss (encsT wd (cutTree ps)) with
  | full =>
    have := hen.2 hR
    rw [encsT_len, cutTree_size] at this
    have h1 := hs.len
    simp at this
    omega
  | clash u e =>
    obtain ⟨b1, b2, b3, b4⟩ := hen.1 u e hR
    refine .inr ⟨u, e, rfl, b1, b2, ?_, Nat.le_trans (encsT_size wd _ e b4) h10⟩
    rcases b3 with q | q | q
    · exact hs.sz u q
    · cases q
    · exact Nat.le_trans (encsT_size wd _ u q) h10
  | go ad =>
    obtain ⟨a1, a2⟩ := sv_sub wd ss _ [] ad hR
    refine .inl ⟨ad, rfl, rfl, hs.app ⟨?_, fun x hx => ?_⟩⟩
    · rw [encsT_len, cutTree_size] at a2
      simp at a2
      omega
    · rcases a1 x hx with q | q
      · cases q
      · exact Nat.le_trans (encsT_size wd _ x q) h10
theorem mem_wth2 {ps : List PairT} {k v : ByteArray} {p : PairT} (h : p ∈ wth ps k v) : p = (k, v) ∨ p ∈ ps := by
  rcases mem_ins' h with q | q
  · exact .inl q
  · exact .inr (List.mem_filter.1 q).1
section
variable {D : Dec} {wd : Nat} {ss : List ByteArray} {root : ByteArray} {m : List PairT} {M : Nat}
end
theorem wless_p (p q : ByteArray) (w : World) (hp : p.size ≤ 1048576) (hq : q.size ≤ 1048576) :
    Calls Tryz.prog 22 #[.string p, .string q] w fun e w' => e = .returned (.bool (Op.bytesLess p.data.toList q.data.toList)) ∧ (∃ m, w' = w.drewN m) := by
  have hpl : p.data.toList.length = p.size := rfl
  have hql : q.data.toList.length = q.size := rfl
  go_enter Tryz.func22, Tryz.ntmps22
  go_wp2_with fail
  go_loopw [5] (fun t wr => ∃ k : Nat, k ≤ p.size ∧ k ≤ q.size ∧ t = .int .i64 (k : Int) ∧ Hid (Op.bytesLess p.data.toList q.data.toList = Op.bytesLess (p.data.toList.drop k) (q.data.toList.drop k)) ∧ ∃ m, wr = w.drewN m) (fun t _ => p.size - (intOf t).toNat)
  case atStart => exact ⟨0, by omega, by omega, rfl, rfl, 0, rfl⟩
  case round =>
    obtain ⟨k, hk1, hk2, rfl, HL, hb⟩ := hrel
    by_cases h1 : k < p.size
    · by_cases h2 : k < q.size
      · have z1 : (0 : Int) ≤ (k : Int) := by omega
        have z2 : (k : Int) < (p.size : Int) := by omega
        have z3 : (k : Int) < (q.size : Int) := by omega
        go_wp2_with fail
        go_region
        rw [bget p k h1, bget q k h2]
        have HE := less_eq p.data.toList q.data.toList k h1 h2
        have HN := less_ne p.data.toList q.data.toList k h1 h2
        obtain ⟨x, hx⟩ : ∃ x, p.data.toList.getD k 0 = x := ⟨_, rfl⟩
        obtain ⟨y, hy⟩ : ∃ y, q.data.toList.getD k 0 = y := ⟨_, rfl⟩
        rw [hx, hy] at HE HN
        rw [hx, hy]
        have HXY : Hid (p.data.toList.getD k 0 = x ∧ q.data.toList.getD k 0 = y) := ⟨hx, hy⟩
        clear hx hy
        by_cases hxy : x = y
        · have c0 : ((x.toNat : Int) != (y.toNat : Int)) = false := by rw [hxy]; simp
          have HE' : Hid (Op.bytesLess p.data.toList q.data.toList = Op.bytesLess (p.data.toList.drop (k + 1)) (q.data.toList.drop (k + 1))) := HL.out.trans (HE hxy)
          clear HE HN hxy
          go_wp2_with fail
          go_roundw
          case rel => exact ⟨k + 1, by omega, by omega, by go_num, HE', drew1 hb⟩
          case measure => simp [intOf]; omega
        · have c0 : ((x.toNat : Int) != (y.toNat : Int)) = true := by
            rw [bne_iff_ne]; exact fun h => hxy (UInt8.toNat_inj.1 (by omega))
          have HN' : Hid (Op.bytesLess p.data.toList q.data.toList = decide (x.toNat < y.toNat)) := (HL.out.trans (HN hxy)).trans (by simp)
          clear HE HN hxy
          go_wp2_with fail
          go_region
          rw [bget p k h1, bget q k h2, HXY.out.1, HXY.out.2]
          go_wp2
          go_ret
          exact ⟨by rw [HN'.out]; rfl, drew1 (drew1 hb)⟩
      · have HN' : Hid (Op.bytesLess p.data.toList q.data.toList = decide (p.size < q.size)) := (HL.out.trans (less_end p.data.toList q.data.toList k (.inr (by omega)) (by omega) (by omega))).trans (by simp)
        go_wp2
        go_ret
        exact ⟨by rw [HN'.out]; rfl, hb⟩
    · have HN' : Hid (Op.bytesLess p.data.toList q.data.toList = decide (p.size < q.size)) := (HL.out.trans (less_end p.data.toList q.data.toList k (.inl (by omega)) (by omega) (by omega))).trans (by simp)
      go_wp2
      go_ret
      exact ⟨by rw [HN'.out]; rfl, hb⟩

theorem wless_q (p q : ByteArray) (w : World) (hp : p.size ≤ 1048576) (hq : q.size ≤ 1048576) : Calls Tryz.prog 22 #[.string p, .string q] w fun e w' => e = .returned (.bool (lessB p q)) ∧ (∃ m, w' = w.drewN m) := by
  have := wless_p p q w hp hq
  rw [lessL] at this
  exact this
theorem wwithout_any (a : Option Addr) (ps : List PairT) (c : Nat) (key : ByteArray) (w : World) (h : PArg a ps w) : Calls Tryz.prog 21 #[.slice a ps.length c, .string key] w (PairsAt (wout ps key) w) := by
  obtain ⟨i0, hi0, hz0, hz1, hz2⟩ := info_parts2 info37
  have hn := h.le
  obtain ⟨N, hN⟩ : ∃ N, ps.length = N := ⟨_, rfl⟩
  rw [hN] at hn ⊢
  have hNl : Hid (ps.length = N) := hN
  clear hN
  have hO := OwnP.nil w
  go_enter Tryz.func21, Tryz.ntmps21
  go_wp2_with fail
  go_loopw [5, 6] (fun t5 t6 wr => ∃ k : Nat, k ≤ N ∧ t6 = .int .i64 (k : Int) ∧ ∃ (a' : Option Addr) (m d' : Nat), t5 = .slice a' m d' ∧ OwnP w (wout (ps.take k) key) a' m d' wr) (fun _ t6 _ => N - (intOf t6).toNat)
  case atStart => exact ⟨0, Nat.zero_le _, rfl, _, _, _, rfl, hO⟩
  case round =>
    obtain ⟨k, hk, rfl, a', m, d', rfl, hW⟩ := hrel
    by_cases hlt : k < N
    · have z1 : decide ((k : Int) < (N : Int)) = true := by simp; omega
      have hx0 : (0 : Int) ≤ (k : Int) := Int.natCast_nonneg _
      have hx1 : (k : Int) < (N : Int) := by omega
      obtain ⟨b1, off1, rfl, hbl1, hc⟩ := (h.below hW.bel).at_ (by rw [hNl.out]; omega)
      obtain ⟨hc1, hc2⟩ := hc k (by rw [hNl.out]; exact hlt)
      have hml : m ≤ 1048576 := by have := hW.len; have := wout_le (ps.take k) key; rw [List.length_take] at this; omega
      have htk : Hid (wout (ps.take (k + 1)) key = wout (ps.take k) key ++ wout [ps.getD k noPair] key) := by
        show _ = _
        rw [take_getD ps k (by rw [hNl.out]; exact hlt), wout_app]
      generalize ps.getD k noPair = p at hc1 hc2 htk
      obtain ⟨pk, pv⟩ := p
      simp only at hc1 hc2
      have hbs := hW.bel.size
      by_cases e : pk = key
      · have z2 : (pk.toList == key.toList) = true := by rw [ba_eq, decide_eq_true e]
        have hf : Hid (wout [(pk, pv)] key = []) := by show _ = _; simp [wout, e]
        clear e hc
        go_wp2_with fail
        go_roundw
        case rel => exact ⟨k + 1, hlt, by go_num, _, _, _, rfl, by rw [htk.out, hf.out, List.append_nil]; exact hW⟩
        case measure => simp [intOf]; omega
      · have z2 : (pk.toList == key.toList) = false := by rw [ba_eq, decide_eq_false e]
        have hf : Hid (wout [(pk, pv)] key = [(pk, pv)]) := by show _ = _; simp [wout, e]
        have own := hW.own
        clear e hc
        go_wp2_with (at_builtin; refine wpList_append_lies _ rfl (.tmp 21) (.tmp 26) 23 rfl w.heap.size 56 i0 (.agg #[.string ⟨#[]⟩, .string ⟨#[]⟩]) 2 32 Tryz.underlying23 hi0 hz0 hz1 hz2 rfl (by decide) (.slice a' m d') m (flatP (wout (ps.take k) key)) rfl (own.alloc _) ⟨wr.heap.size, 0, none⟩ 1 1 [.string pk, .string pv] rfl rfl (World.news_of_block (heap_alloc_new wr _)) (by simp [Value.oneCell']) (by decide) (by unfold maxLen; omega) (by omega) (by simp; omega) (wr.heap.size + 1) (by simp) ?_; intro g5 c5 w5 hown5 hgrow5 hat5 hlt5)
        go_roundw
        case rel => exact ⟨k + 1, hlt, by go_num, _, _, _, rfl, by rw [htk.out, hf.out]; exact hW.more hown5 hgrow5 rfl⟩
        case measure => simp [intOf]; omega
    · obtain rfl : k = N := by omega
      have z1 : decide ((k : Int) < (k : Int)) = false := by simp
      rw [List.take_of_length_le (by rw [hNl.out]; exact Nat.le_refl _)] at hW
      have hl := hW.len
      subst hl
      go_wp2_with fail
      go_ret
      exact ⟨_, _, rfl, hW⟩
theorem wwith_any (a : Option Addr) (ps : List PairT) (c : Nat) (key val : ByteArray) (w : World) (h : PArg a ps w) (hks : key.size ≤ 1048576) (hpl : ps.length ≤ 100000) : Calls Tryz.prog 7 #[.slice a ps.length c, .string key, .string val] w (PairsAt (wth ps key val) w) := by
  obtain ⟨i0, hi0, hz0, hz1, hz2⟩ := info_parts2 info37
  have HO := wwithout_any a ps c key w h
  have hrs : SmallP (wout ps key) := by
    refine ⟨Nat.le_trans (wout_le ps key) h.le, fun j => ?_⟩
    by_cases hj : j < (wout ps key).length
    · have hm : (wout ps key)[j] ∈ ps := (List.mem_filter.1 (List.getElem_mem hj)).1
      obtain ⟨i, hi, e⟩ := List.getElem_of_mem hm
      have := h.sz i
      rw [List.getD_eq_getElem?_getD, List.getElem?_eq_getElem hi, Option.getD_some, e] at this
      rw [List.getD_eq_getElem?_getD, List.getElem?_eq_getElem hj, Option.getD_some]
      exact this
    · rw [pget_out _ _ (by omega)]
      exact ⟨Nat.zero_le _, Nat.zero_le _⟩
  have hrl : (wout ps key).length ≤ 100000 := Nat.le_trans (wout_le ps key) hpl
  unfold wth
  generalize wout ps key = rest at HO hrs hrl ⊢
  go_enter Tryz.func7, Tryz.ntmps7
  go_upto_region 2 with (first | (go_at_call 21; refine HO.mono ?_; rintro e w1 ⟨a1, c1, rfl, hO1⟩))
  have hb1 := hO1.bel
  have hp1 := ownp_parg hO1 hrs
  have hO2 := OwnP.nil w1
  obtain ⟨N, hN⟩ : ∃ N, rest.length = N := ⟨_, rfl⟩
  rw [hN] at hrl ⊢
  have hNl : Hid (rest.length = N) := hN
  clear hN hO1 HO
  go_wp2_with fail
  go_loopw [8, 9, 10] (fun t8 t9 t10 wr => ∃ k : Nat, k ≤ N ∧ t10 = .int .i64 (k : Int) ∧ ∃ (d : Bool) (a' : Option Addr) (m d' : Nat) (out : List PairT), t9 = .bool d ∧ t8 = .slice a' m d' ∧ OwnP w1 out a' m d' wr ∧ Hid (Mid rest key val k out d)) (fun _ _ t10 _ => N - (intOf t10).toNat)
  case atStart => exact ⟨0, Nat.zero_le _, rfl, false, _, _, _, [], rfl, rfl, hO2, Mid.start rest key val⟩
  case round =>
    obtain ⟨k, hk, rfl, d, a', m, d', out, rfl, rfl, hW, hM⟩ := hrel
    have hml : m ≤ 100001 := by have := hW.len; have := hM.out.len; rw [hNl.out] at this; omega
    have hbs := hW.bel.size
    have own := hW.own
    by_cases hlt : k < N
    · have z1 : decide ((k : Int) < (N : Int)) = true := by simp; omega
      have hx0 : (0 : Int) ≤ (k : Int) := Int.natCast_nonneg _
      have hx1 : (k : Int) < (N : Int) := by omega
      have hkr : Hid (k < rest.length) := by show _ < _; rw [hNl.out]; exact hlt
      obtain ⟨b1, off1, rfl, hbl1, hc⟩ := (hp1.below hW.bel).at_ (by rw [hNl.out]; omega)
      obtain ⟨hc1, hc2⟩ := hc k hkr.out
      have hsz := (hrs.2 k).1
      have Mdone : Hid (d = true → Mid rest key val (k + 1) (out ++ [rest.getD k noPair]) true) := fun e => by subst e; exact hM.out.done hkr.out
      have Mnow : Hid (d = false → lessB key (rest.getD k noPair).1 = true → Mid rest key val (k + 1) (out ++ [(key, val)] ++ [rest.getD k noPair]) true) := fun e => by subst e; exact hM.out.now hkr.out
      have Mpast : Hid (d = false → lessB key (rest.getD k noPair).1 = false → Mid rest key val (k + 1) (out ++ [rest.getD k noPair]) false) := fun e => by subst e; exact hM.out.past hkr.out
      obtain ⟨p, hpp⟩ : ∃ p, rest.getD k noPair = p := ⟨_, rfl⟩
      have hpe : Hid (rest.getD k noPair = p) := hpp
      rw [hpp] at hc1 hc2 hsz Mdone Mnow Mpast
      clear hpp
      obtain ⟨pk, pv⟩ := p
      simp only at hc1 hc2 hsz
      have hbl2 : b1 < wr.heap.size := hbl1
      clear hc hM
      cases d with
      | true =>
        go_wp2_with (at_builtin; refine wpList_append_lies _ rfl (.tmp 38) (.tmp 43) 23 rfl w1.heap.size 56 i0 (.agg #[.string ⟨#[]⟩, .string ⟨#[]⟩]) 2 32 Tryz.underlying23 hi0 hz0 hz1 hz2 rfl (by decide) (.slice a' m d') m (flatP out) rfl (own.alloc _) ⟨wr.heap.size, 0, none⟩ 1 1 [.string pk, .string pv] rfl rfl (World.news_of_block (heap_alloc_new wr _)) (by simp [Value.oneCell']) (by decide) (by unfold maxLen; omega) (by omega) (by simp; omega) (wr.heap.size + 1) (by simp) ?_; intro g5 c5 w5 hown5 hgrow5 hat5 hlt5)
        go_roundw
        case rel => exact ⟨k + 1, hlt, by go_num, true, _, _, _, _, rfl, rfl, hW.more hown5 hgrow5 rfl, Mdone.out (by first | rfl | trivial)⟩
        case measure => simp [intOf]; omega
      | false =>
        have HL := wless_q key pk wr hks hsz
        cases hl : lessB key pk with
        | false =>
          rw [hl] at HL
          go_upto_region 10 with (first | (go_at_call 22; refine HL.mono ?_; rintro e w3 ⟨rfl, q, rfl⟩))
          have hW3 := hW.below (drewN_below wr q)
          have own3 := hW3.own
          have hd1 := ((drewN_below wr q).cell (p := ⟨b1, off1 + k * 2, none⟩) hbl2).trans hc1
          have hd2 := ((drewN_below wr q).cell (p := ⟨b1, off1 + k * 2 + 1, none⟩) hbl2).trans hc2
          have hbs3 := hW3.bel.size
          clear own hc1 hc2 HL
          generalize wr.drewN q = w3 at *
          go_wp2_with (at_builtin; refine wpList_append_lies _ rfl (.tmp 38) (.tmp 43) 23 rfl w1.heap.size 56 i0 (.agg #[.string ⟨#[]⟩, .string ⟨#[]⟩]) 2 32 Tryz.underlying23 hi0 hz0 hz1 hz2 rfl (by decide) (.slice a' m d') m (flatP out) rfl (own3.alloc _) ⟨w3.heap.size, 0, none⟩ 1 1 [.string pk, .string pv] rfl rfl (World.news_of_block (heap_alloc_new w3 _)) (by simp [Value.oneCell']) (by decide) (by unfold maxLen; omega) (by omega) (by simp; omega) (w3.heap.size + 1) (by simp) ?_; intro g5 c5 w5 hown5 hgrow5 hat5 hlt5)
          go_roundw
          case rel => exact ⟨k + 1, hlt, by go_num, false, _, _, _, _, rfl, rfl, hW3.more hown5 hgrow5 rfl, Mpast.out (by first | rfl | trivial) hl⟩
          case measure => simp [intOf]; omega
        | true =>
          rw [hl] at HL
          go_upto_region 8 with (first | (go_at_call 22; refine HL.mono ?_; rintro e w3 ⟨rfl, q, rfl⟩))
          have hW3 := hW.below (drewN_below wr q)
          have own3 := hW3.own
          have hd1 := ((drewN_below wr q).cell (p := ⟨b1, off1 + k * 2, none⟩) hbl2).trans hc1
          have hd2 := ((drewN_below wr q).cell (p := ⟨b1, off1 + k * 2 + 1, none⟩) hbl2).trans hc2
          have hbs3 := hW3.bel.size
          clear own hc1 hc2 HL
          generalize wr.drewN q = w3 at *
          go_upto_region 9 with (at_builtin; refine wpList_append_lies _ rfl (.tmp 32) (.tmp 36) 23 rfl w1.heap.size 56 i0 (.agg #[.string ⟨#[]⟩, .string ⟨#[]⟩]) 2 32 Tryz.underlying23 hi0 hz0 hz1 hz2 rfl (by decide) (.slice a' m d') m (flatP out) rfl (own3.alloc _) ⟨w3.heap.size, 0, none⟩ 1 1 [.string key, .string val] rfl rfl (World.news_of_block (heap_alloc_new w3 _)) (by simp [Value.oneCell']) (by decide) (by unfold maxLen; omega) (by omega) (by simp; omega) (w3.heap.size + 1) (by simp) ?_; intro g5 c5 w5 hown5 hgrow5 hat5 hlt5)
          have hW5 := hW3.more (y := (key, val)) hown5 hgrow5 rfl
          have hp5 := hp1.below hW5.bel
          have own5 := hW5.own
          have hbs5 := hW5.bel.size
          obtain ⟨b2, off2, e2, hbl5, hc5⟩ := hp5.at_ (by rw [hNl.out]; omega)
          cases e2
          obtain ⟨hd1, hd2⟩ := hc5 k hkr.out
          have Mn := Mnow.out (by first | rfl | trivial) hl
          replace Mn : Hid _ := Mn
          have hgd : (rest.getD k noPair) = (pk, pv) := hpe.out
          rw [hgd] at hd1 hd2
          simp only at hd1 hd2
          clear own3 hc5 hgd
          go_wp2_with (at_builtin; refine wpList_append_lies _ rfl (.tmp 38) (.tmp 43) 23 rfl w1.heap.size 56 i0 (.agg #[.string ⟨#[]⟩, .string ⟨#[]⟩]) 2 32 Tryz.underlying23 hi0 hz0 hz1 hz2 rfl (by decide) (.slice (some ⟨g5, 0, none⟩) (m + 1) c5) (m + 1) (flatP (out ++ [(key, val)])) rfl (own5.alloc _) ⟨w5.heap.size, 0, none⟩ 1 1 [.string pk, .string pv] rfl rfl (World.news_of_block (heap_alloc_new w5 _)) (by simp [Value.oneCell']) (by decide) (by unfold maxLen; omega) (by omega) (by simp; omega) (w5.heap.size + 1) (by simp) ?_; intro g6 c6 w6 hown6 hgrow6 hat6 hlt6)
          go_roundw
          case rel => exact ⟨k + 1, hlt, by go_num, true, _, _, _, _, rfl, rfl, hW5.more hown6 hgrow6 rfl, Mn.out⟩
          case measure => simp [intOf]; omega
    · obtain rfl : k = N := by omega
      have z1 : decide ((k : Int) < (k : Int)) = false := by simp
      cases d with
      | true =>
        have hfin : Hid (out = ins key val rest) := by
          have := hM.out
          unfold Mid at this
          rw [List.drop_of_length_le (by rw [hNl.out]; exact Nat.le_refl _), List.append_nil] at this
          exact this
        have HF : Hid (PairsAt (ins key val rest) w (.returned (.slice a' m d')) wr) := by
          have hl := hW.len
          subst hl
          rw [← hfin.out]
          exact ⟨_, _, rfl, hW.up hb1⟩
        clear hM hfin own
        go_wp2_with fail
        go_ret
        exact HF.out
      | false =>
        have hfin : Hid (out ++ [(key, val)] = ins key val rest) := by
          have := hM.out
          unfold Mid at this
          obtain ⟨h1, h2⟩ := this
          rw [List.drop_of_length_le (by rw [hNl.out]; exact Nat.le_refl _), ins] at h2
          show _ = _
          rw [h2, h1]
        clear hM
        go_wp2_with (at_builtin; refine wpList_append_lies _ rfl (.tmp 47) (.tmp 51) 23 rfl w1.heap.size 56 i0 (.agg #[.string ⟨#[]⟩, .string ⟨#[]⟩]) 2 32 Tryz.underlying23 hi0 hz0 hz1 hz2 rfl (by decide) (.slice a' m d') m (flatP out) rfl (own.alloc _) ⟨wr.heap.size, 0, none⟩ 1 1 [.string key, .string val] rfl rfl (World.news_of_block (heap_alloc_new wr _)) (by simp [Value.oneCell']) (by decide) (by unfold maxLen; omega) (by omega) (by simp; omega) (wr.heap.size + 1) (by simp) ?_; intro g5 c5 w5 hown5 hgrow5 hat5 hlt5)
        go_ret
        have hW5 := hW.more (y := (key, val)) hown5 hgrow5 rfl
        rw [hfin.out] at hW5
        have hl := hW5.len
        exact ⟨some ⟨g5, 0, none⟩, c5, by rw [hl]; rfl, by rw [hl]; exact hW5.up hb1⟩
theorem wtexts_same (a b : Option Addr) (xs : List ByteArray) (c d : Nat) (w : World) (h : SArg a xs w) (h' : SArg b xs w) :
    Calls Tryz.prog 13 #[.slice a xs.length c, .slice b xs.length d] w fun e w' => e = .returned (.bool true) ∧ Below w.heap.size w w' := by
  have hn := h.le
  obtain ⟨N, hN⟩ : ∃ N, xs.length = N := ⟨_, rfl⟩
  have hNl : Hid (xs.length = N) := hN
  rw [hN] at hn ⊢
  clear hN
  go_enter Tryz.func13, Tryz.ntmps13
  go_wp2_with fail
  go_loopw [5] (fun t wr => ∃ k : Nat, k ≤ N ∧ t = .int .i64 (k : Int) ∧ Below w.heap.size w wr) (fun t _ => N - (intOf t).toNat)
  case atStart => exact ⟨0, Nat.zero_le _, rfl, Below.refl _ _⟩
  case round =>
    obtain ⟨k, hk, rfl, hbw⟩ := hrel
    by_cases hlt : k < N
    · have z1 : decide ((k : Int) < (N : Int)) = true := by simp; omega
      have hx0 : (0 : Int) ≤ (k : Int) := Int.natCast_nonneg _
      have hx1 : (k : Int) < (N : Int) := by omega
      obtain ⟨b1, off1, rfl, hbl1, hc⟩ := (h.below hbw).at_ (by rw [hNl.out]; omega)
      obtain ⟨b2, off2, rfl, hbl2, hd⟩ := (h'.below hbw).at_ (by rw [hNl.out]; omega)
      have hc1 := hc k (by rw [hNl.out]; exact hlt)
      have hd1 := hd k (by rw [hNl.out]; exact hlt)
      generalize xs.getD k ⟨#[]⟩ = u at hc1 hd1
      have zu : (u.toList == u.toList) = true := by rw [ba_eq, decide_eq_true rfl]
      clear hc hd
      go_wp2_with fail
      go_quiet (fail)
      go_wp2_with fail
      go_roundw
      case rel => exact ⟨k + 1, hlt, by go_num, below_draws nq hbw⟩
      case measure => simp [intOf]; omega
    · obtain rfl : k = N := by omega
      have z1 : decide ((k : Int) < (k : Int)) = false := by simp
      go_wp2_with fail
      go_ret
      exact ⟨rfl, hbw⟩
end Go.Proofs.YtmfhfehemoeeeaaGreatDoor
