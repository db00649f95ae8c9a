import Derived.Test.YtibjhkpgaaapaaaGreatDoorZgbb
import Derived.Test.YtibjhkpgaaapaaaGreatDoorZgax
import Derived.Test.YtibjhkpgaaapaaaGreatDoorZgas
import Derived.Test.YtibjhkpgaaapaaaGreatDoorZgam
import Derived.Deep.AppendLies
set_option maxRecDepth 100000
set_option maxHeartbeats 2000000
namespace Go.Proofs.YtibjhkpgaaapaaaGreatDoor
open Go.RowKit Go.Proofs.Sha

theorem PArg.grown {a : Option Addr} {ps : List PairT} {w w' : World} {row : Option Nat} (h : PArg a ps w) (hg : w.grownBy w' row) (hn : ∀ b off, a = some ⟨b, off, none⟩ → 0 < ps.length → some b ≠ row) : PArg a ps w' := by
  refine ⟨h.le, h.sz, fun h0 => ?_⟩
  obtain ⟨b, off, ha, hlt, hc⟩ := h.at_ h0
  have hne := hn b off ha h0
  exact ⟨b, off, ha, Nat.lt_of_lt_of_le hlt hg.size, fun j hj => ⟨(hg.cell_far ⟨b, off + j * 2, none⟩ hlt hne).trans (hc j hj).1, (hg.cell_far ⟨b, off + j * 2 + 1, none⟩ hlt hne).trans (hc j hj).2⟩⟩
theorem own_parg {w : World} {base c : Nat} {a : Option Addr} {ps : List PairT} (h : w.ownsRow base 81 2 (.slice a ps.length c) ps.length (flatP ps)) (hs : SmallP ps) : PArg a ps w := by
  rcases own_prow h with h0 | ⟨g, rfl, hr⟩
  · exact ⟨hs.1, hs.2, fun q => by omega⟩
  · exact Row.parg hr hs
/-- How far the pairs with a key set are put together. -/
def Mid (rest : List PairT) (key val : ByteArray) (k : Nat) (out : List PairT) : Bool → Prop
  | true => out ++ rest.drop k = ins key val rest
  | false => out = rest.take k ∧ ins key val rest = rest.take k ++ ins key val (rest.drop k)
theorem drewN_below (w : World) (q : Nat) : Below w.heap.size w (w.drewN q) := draws_below _ (Below.refl _ _)
theorem Mid.start (rest : List PairT) (key val : ByteArray) : Mid rest key val 0 [] false := ⟨rfl, rfl⟩
theorem Mid.done {rest : List PairT} {key val : ByteArray} {k : Nat} {out : List PairT} (h : Mid rest key val k out true) (hk : k < rest.length) : Mid rest key val (k + 1) (out ++ [rest.getD k noPair]) true := by
  unfold Mid at h ⊢
  rw [← h, drop_getD rest k hk]
  simp
theorem Mid.now {rest : List PairT} {key val : ByteArray} {k : Nat} {out : List PairT} (h : Mid rest key val k out false) (hk : k < rest.length) (hl : lessB key (rest.getD k noPair).1 = true) : Mid rest key val (k + 1) (out ++ [(key, val)] ++ [rest.getD k noPair]) true := by
  unfold Mid at h ⊢
  obtain ⟨h1, h2⟩ := h
  rw [h2, drop_getD rest k hk, ins, if_pos hl, h1]
  simp
theorem Mid.past {rest : List PairT} {key val : ByteArray} {k : Nat} {out : List PairT} (h : Mid rest key val k out false) (hk : k < rest.length) (hl : lessB key (rest.getD k noPair).1 = false) : Mid rest key val (k + 1) (out ++ [rest.getD k noPair]) false := by
  unfold Mid at h ⊢
  obtain ⟨h1, h2⟩ := h
  rw [take_getD rest k hk, h1]
  refine ⟨rfl, ?_⟩
  rw [h2, drop_getD rest k hk, ins, if_neg (by rw [hl]; decide)]
  simp
theorem OwnP.up {w w1 W : World} {xs : List PairT} {a : Option Addr} {m c : Nat} (h : OwnP w1 xs a m c W) (hb : Below w.heap.size w w1) : OwnP w xs a m c W :=
  ⟨own2_mono h.own hb.size, hb.trans (h.bel.mono hb.size), h.len⟩
theorem ownp_parg {w W : World} {c m : Nat} {a : Option Addr} {ps : List PairT} (h : OwnP w ps a m c W) (hs : SmallP ps) : PArg a ps W := by
  have hl := h.len
  subst hl
  exact own_parg h.own hs
theorem Mid.len {rest : List PairT} {key val : ByteArray} {k : Nat} {out : List PairT} {d : Bool} (h : Mid rest key val k out d) : out.length ≤ rest.length + 1 := by
  have hi : ∀ l : List PairT, (ins key val l).length = l.length + 1 := fun l => by
    induction l with
    | nil => rfl
    | cons p l ih => rw [ins]; split <;> simp [ih]
  cases d with
  | true =>
    have := congrArg List.length h
    rw [List.length_append, hi] at this
    omega
  | false =>
    rw [h.1, List.length_take]
    omega
theorem with_any (a : Option Addr) (ps : List PairT) (c : Nat) (key val : ByteArray) (w : World) (h : PArg a ps w) (hks : key.size ≤ 1048576) (hpl : ps.length ≤ 100000) : Calls Tryz.prog 86 #[.slice a ps.length c, .string key, .string val] w (PairsAt (wth ps key val) w) := by
  obtain ⟨i0, hi0, hz0, hz1, hz2⟩ := info_parts2 info37
  have HO := without_any a ps c key w h
  have hrs : SmallP (wout ps key) := by
    refine ⟨Nat.le_trans (wout_le ps key) h.le, fun j => ?_⟩
    by_cases hj : j < (wout ps key).length
    · have hm : (wout ps key)[j] ∈ ps := (List.mem_filter.1 (List.getElem_mem hj)).1
      obtain ⟨i, hi, e⟩ := List.getElem_of_mem hm
      have := h.sz i
      rw [List.getD_eq_getElem?_getD, List.getElem?_eq_getElem hi, Option.getD_some, e] at this
      rw [List.getD_eq_getElem?_getD, List.getElem?_eq_getElem hj, Option.getD_some]
      exact this
    · rw [pget_out _ _ (by omega)]
      exact ⟨Nat.zero_le _, Nat.zero_le _⟩
  have hrl : (wout ps key).length ≤ 100000 := Nat.le_trans (wout_le ps key) hpl
  unfold wth
  generalize wout ps key = rest at HO hrs hrl ⊢
  go_enter Tryz.func86, Tryz.ntmps86
  go_upto_region 2 with (first | (go_at_call 137; refine HO.mono ?_; rintro e w1 ⟨a1, c1, rfl, hO1⟩))
  have hb1 := hO1.bel
  have hp1 := ownp_parg hO1 hrs
  have hO2 := OwnP.nil w1
  obtain ⟨N, hN⟩ : ∃ N, rest.length = N := ⟨_, rfl⟩
  rw [hN] at hrl ⊢
  have hNl : Hid (rest.length = N) := hN
  clear hN hO1 HO
  go_wp2_with fail
  go_loopw [8, 9, 10] (fun t8 t9 t10 wr => ∃ k : Nat, k ≤ N ∧ t10 = .int .i64 (k : Int) ∧ ∃ (d : Bool) (a' : Option Addr) (m d' : Nat) (out : List PairT), t9 = .bool d ∧ t8 = .slice a' m d' ∧ OwnP w1 out a' m d' wr ∧ Hid (Mid rest key val k out d)) (fun _ _ t10 _ => N - (intOf t10).toNat)
  case atStart => exact ⟨0, Nat.zero_le _, rfl, false, _, _, _, [], rfl, rfl, hO2, Mid.start rest key val⟩
  case round =>
    obtain ⟨k, hk, rfl, d, a', m, d', out, rfl, rfl, hW, hM⟩ := hrel
    have hml : m ≤ 100001 := by have := hW.len; have := hM.out.len; rw [hNl.out] at this; omega
    have hbs := hW.bel.size
    have own := hW.own
    by_cases hlt : k < N
    · have z1 : decide ((k : Int) < (N : Int)) = true := by simp; omega
      have hx0 : (0 : Int) ≤ (k : Int) := Int.natCast_nonneg _
      have hx1 : (k : Int) < (N : Int) := by omega
      have hkr : Hid (k < rest.length) := by show _ < _; rw [hNl.out]; exact hlt
      obtain ⟨b1, off1, rfl, hbl1, hc⟩ := (hp1.below hW.bel).at_ (by rw [hNl.out]; omega)
      obtain ⟨hc1, hc2⟩ := hc k hkr.out
      have hsz := (hrs.2 k).1
      have Mdone : Hid (d = true → Mid rest key val (k + 1) (out ++ [rest.getD k noPair]) true) := fun e => by subst e; exact hM.out.done hkr.out
      have Mnow : Hid (d = false → lessB key (rest.getD k noPair).1 = true → Mid rest key val (k + 1) (out ++ [(key, val)] ++ [rest.getD k noPair]) true) := fun e => by subst e; exact hM.out.now hkr.out
      have Mpast : Hid (d = false → lessB key (rest.getD k noPair).1 = false → Mid rest key val (k + 1) (out ++ [rest.getD k noPair]) false) := fun e => by subst e; exact hM.out.past hkr.out
      obtain ⟨p, hpp⟩ : ∃ p, rest.getD k noPair = p := ⟨_, rfl⟩
      have hpe : Hid (rest.getD k noPair = p) := hpp
      rw [hpp] at hc1 hc2 hsz Mdone Mnow Mpast
      clear hpp
      obtain ⟨pk, pv⟩ := p
      simp only at hc1 hc2 hsz
      have hbl2 : b1 < wr.heap.size := hbl1
      clear hc hM
      cases d with
      | true =>
        go_wp2_with (at_builtin; refine wpList_append_lies _ rfl (.tmp 38) (.tmp 43) 35 rfl w1.heap.size 81 i0 (.agg #[.string ⟨#[]⟩, .string ⟨#[]⟩]) 2 32 Tryz.underlying35 hi0 hz0 hz1 hz2 rfl (by decide) (.slice a' m d') m (flatP out) rfl (own.alloc _) ⟨wr.heap.size, 0, none⟩ 1 1 [.string pk, .string pv] rfl rfl (World.news_of_block (heap_alloc_new wr _)) (by simp [Value.oneCell']) (by decide) (by unfold maxLen; omega) (by omega) (by simp; omega) (wr.heap.size + 1) (by simp) ?_; intro g5 c5 w5 hown5 hgrow5 hat5 hlt5)
        go_roundw
        case rel => exact ⟨k + 1, hlt, by go_num, true, _, _, _, _, rfl, rfl, hW.more hown5 hgrow5 rfl, Mdone.out (by first | rfl | trivial)⟩
        case measure => simp [intOf]; omega
      | false =>
        have HL := lessS_q key pk wr hks hsz
        cases hl : lessB key pk with
        | false =>
          rw [hl] at HL
          go_upto_region 10 with (first | (go_at_call 85; refine HL.mono ?_; rintro e w3 ⟨rfl, q, rfl⟩))
          have hW3 := hW.below (drewN_below wr q)
          have own3 := hW3.own
          have hd1 := ((drewN_below wr q).cell (p := ⟨b1, off1 + k * 2, none⟩) hbl2).trans hc1
          have hd2 := ((drewN_below wr q).cell (p := ⟨b1, off1 + k * 2 + 1, none⟩) hbl2).trans hc2
          have hbs3 := hW3.bel.size
          clear own hc1 hc2 HL
          generalize wr.drewN q = w3 at *
          go_wp2_with (at_builtin; refine wpList_append_lies _ rfl (.tmp 38) (.tmp 43) 35 rfl w1.heap.size 81 i0 (.agg #[.string ⟨#[]⟩, .string ⟨#[]⟩]) 2 32 Tryz.underlying35 hi0 hz0 hz1 hz2 rfl (by decide) (.slice a' m d') m (flatP out) rfl (own3.alloc _) ⟨w3.heap.size, 0, none⟩ 1 1 [.string pk, .string pv] rfl rfl (World.news_of_block (heap_alloc_new w3 _)) (by simp [Value.oneCell']) (by decide) (by unfold maxLen; omega) (by omega) (by simp; omega) (w3.heap.size + 1) (by simp) ?_; intro g5 c5 w5 hown5 hgrow5 hat5 hlt5)
          go_roundw
          case rel => exact ⟨k + 1, hlt, by go_num, false, _, _, _, _, rfl, rfl, hW3.more hown5 hgrow5 rfl, Mpast.out (by first | rfl | trivial) hl⟩
          case measure => simp [intOf]; omega
        | true =>
          rw [hl] at HL
          go_upto_region 8 with (first | (go_at_call 85; refine HL.mono ?_; rintro e w3 ⟨rfl, q, rfl⟩))
          have hW3 := hW.below (drewN_below wr q)
          have own3 := hW3.own
          have hd1 := ((drewN_below wr q).cell (p := ⟨b1, off1 + k * 2, none⟩) hbl2).trans hc1
          have hd2 := ((drewN_below wr q).cell (p := ⟨b1, off1 + k * 2 + 1, none⟩) hbl2).trans hc2
          have hbs3 := hW3.bel.size
          clear own hc1 hc2 HL
          generalize wr.drewN q = w3 at *
          go_upto_region 9 with (at_builtin; refine wpList_append_lies _ rfl (.tmp 32) (.tmp 36) 35 rfl w1.heap.size 81 i0 (.agg #[.string ⟨#[]⟩, .string ⟨#[]⟩]) 2 32 Tryz.underlying35 hi0 hz0 hz1 hz2 rfl (by decide) (.slice a' m d') m (flatP out) rfl (own3.alloc _) ⟨w3.heap.size, 0, none⟩ 1 1 [.string key, .string val] rfl rfl (World.news_of_block (heap_alloc_new w3 _)) (by simp [Value.oneCell']) (by decide) (by unfold maxLen; omega) (by omega) (by simp; omega) (w3.heap.size + 1) (by simp) ?_; intro g5 c5 w5 hown5 hgrow5 hat5 hlt5)
          have hW5 := hW3.more (y := (key, val)) hown5 hgrow5 rfl
          have hp5 := hp1.below hW5.bel
          have own5 := hW5.own
          have hbs5 := hW5.bel.size
          obtain ⟨b2, off2, e2, hbl5, hc5⟩ := hp5.at_ (by rw [hNl.out]; omega)
          cases e2
          obtain ⟨hd1, hd2⟩ := hc5 k hkr.out
          have Mn := Mnow.out (by first | rfl | trivial) hl
          replace Mn : Hid _ := Mn
          have hgd : (rest.getD k noPair) = (pk, pv) := hpe.out
          rw [hgd] at hd1 hd2
          simp only at hd1 hd2
          clear own3 hc5 hgd
          go_wp2_with (at_builtin; refine wpList_append_lies _ rfl (.tmp 38) (.tmp 43) 35 rfl w1.heap.size 81 i0 (.agg #[.string ⟨#[]⟩, .string ⟨#[]⟩]) 2 32 Tryz.underlying35 hi0 hz0 hz1 hz2 rfl (by decide) (.slice (some ⟨g5, 0, none⟩) (m + 1) c5) (m + 1) (flatP (out ++ [(key, val)])) rfl (own5.alloc _) ⟨w5.heap.size, 0, none⟩ 1 1 [.string pk, .string pv] rfl rfl (World.news_of_block (heap_alloc_new w5 _)) (by simp [Value.oneCell']) (by decide) (by unfold maxLen; omega) (by omega) (by simp; omega) (w5.heap.size + 1) (by simp) ?_; intro g6 c6 w6 hown6 hgrow6 hat6 hlt6)
          go_roundw
          case rel => exact ⟨k + 1, hlt, by go_num, true, _, _, _, _, rfl, rfl, hW5.more hown6 hgrow6 rfl, Mn.out⟩
          case measure => simp [intOf]; omega
    · obtain rfl : k = N := by omega
      have z1 : decide ((k : Int) < (k : Int)) = false := by simp
      cases d with
      | true =>
        have hfin : Hid (out = ins key val rest) := by
          have := hM.out
          unfold Mid at this
          rw [List.drop_of_length_le (by rw [hNl.out]; exact Nat.le_refl _), List.append_nil] at this
          exact this
        have HF : Hid (PairsAt (ins key val rest) w (.returned (.slice a' m d')) wr) := by
          have hl := hW.len
          subst hl
          rw [← hfin.out]
          exact ⟨_, _, rfl, hW.up hb1⟩
        clear hM hfin own
        go_wp2_with fail
        go_ret
        exact HF.out
      | false =>
        have hfin : Hid (out ++ [(key, val)] = ins key val rest) := by
          have := hM.out
          unfold Mid at this
          obtain ⟨h1, h2⟩ := this
          rw [List.drop_of_length_le (by rw [hNl.out]; exact Nat.le_refl _), ins] at h2
          show _ = _
          rw [h2, h1]
        clear hM
        go_wp2_with (at_builtin; refine wpList_append_lies _ rfl (.tmp 47) (.tmp 51) 35 rfl w1.heap.size 81 i0 (.agg #[.string ⟨#[]⟩, .string ⟨#[]⟩]) 2 32 Tryz.underlying35 hi0 hz0 hz1 hz2 rfl (by decide) (.slice a' m d') m (flatP out) rfl (own.alloc _) ⟨wr.heap.size, 0, none⟩ 1 1 [.string key, .string val] rfl rfl (World.news_of_block (heap_alloc_new wr _)) (by simp [Value.oneCell']) (by decide) (by unfold maxLen; omega) (by omega) (by simp; omega) (wr.heap.size + 1) (by simp) ?_; intro g5 c5 w5 hown5 hgrow5 hat5 hlt5)
        go_ret
        have hW5 := hW.more (y := (key, val)) hown5 hgrow5 rfl
        rw [hfin.out] at hW5
        have hl := hW5.len
        exact ⟨some ⟨g5, 0, none⟩, c5, by rw [hl]; rfl, by rw [hl]; exact hW5.up hb1⟩
abbrev NodeT := ByteArray × ByteArray × ByteArray × ByteArray
def flatN : List NodeT → List Value
  | [] => []
  | p :: l => .string p.1 :: .string p.2.1 :: .string p.2.2.1 :: .string p.2.2.2 :: flatN l
theorem flatN_app : ∀ l m : List NodeT, flatN (l ++ m) = flatN l ++ flatN m
  | [], m => rfl
  | p :: l, m => by simp only [List.cons_append, flatN, flatN_app l m]
def noNode : NodeT := (⟨#[]⟩, ⟨#[]⟩, ⟨#[]⟩, ⟨#[]⟩)
theorem flatN_get : ∀ (l : List NodeT) (j : Nat), j < l.length → (flatN l)[j * 4]? = some (.string (l.getD j noNode).1) ∧ (flatN l)[j * 4 + 1]? = some (.string (l.getD j noNode).2.1) ∧ (flatN l)[j * 4 + 2]? = some (.string (l.getD j noNode).2.2.1) ∧ (flatN l)[j * 4 + 3]? = some (.string (l.getD j noNode).2.2.2)
  | [], j, h => absurd h (Nat.not_lt_zero _)
  | p :: l, 0, _ => ⟨rfl, rfl, rfl, rfl⟩
  | p :: l, j + 1, h => by
    have := flatN_get l j (by simpa using h)
    rw [show (j + 1) * 4 = j * 4 + 4 by omega]
    simpa [flatN] using this
/-- The nodes of a proof's F, each ahead of its subtrees. -/
def nodesP (wd : Nat) : PT → List NodeT
  | .f k v l r => (k, v, hashP wd l, hashP wd r) :: (nodesP wd l ++ nodesP wd r)
  | _ => []
theorem nodesP_len (wd : Nat) : ∀ t : PT, (nodesP wd t).length = cP t
  | .e => rfl
  | .s _ => rfl
  | .f k v l r => by rw [nodesP, cP, List.length_cons, List.length_append, nodesP_len wd l, nodesP_len wd r]; omega
/-- The shape of a proof. -/
def shapeP : PT → List UInt8
  | .e => [69]
  | .s _ => [83]
  | .f _ _ l r => 70 :: (shapeP l ++ shapeP r)
theorem shapeP_len : ∀ t : PT, (shapeP t).length = 2 * cP t + 1
  | .e => rfl
  | .s _ => rfl
  | .f k v l r => by rw [shapeP, cP, List.length_cons, List.length_append, shapeP_len l, shapeP_len r]; omega
theorem own4_cells {w : World} {base g n : Nat} {v : Value} {xs : List Value} (h : w.ownsRow base 73 4 v n xs) (hv : v.ownBlock = some g) : base ≤ g ∧ g < w.heap.size ∧ ∃ cur, w.heap[g]? = some (.cells cur 73 (0, 0)) := by
  rcases h.2 with ⟨rfl, _⟩ | ⟨g', cap, cur, rfl, hb, hg, _⟩
  · cases hv
  · obtain rfl : g' = g := Option.some.inj hv
    exact ⟨hb, (Array.getElem?_eq_some_iff.1 hg).1, cur, hg⟩
theorem own4_kept {w w' : World} {base n : Nat} {v : Value} {xs : List Value} (h : w.ownsRow base 73 4 v n xs) (hk : ∀ g, v.ownBlock = some g → g < w.heap.size → w'.heap[g]? = w.heap[g]?) : w'.ownsRow base 73 4 v n xs := by
  refine ⟨h.1, ?_⟩
  rcases h.2 with ⟨h1, h2⟩ | ⟨g, cap, cur, hv, hb, hg, rest⟩
  · exact .inl ⟨h1, h2⟩
  · exact .inr ⟨g, cap, cur, hv, hb, (hk g (by rw [hv]; rfl) (Array.getElem?_eq_some_iff.1 hg).1).trans hg, rest⟩
theorem own4_mono {w : World} {base base' n : Nat} {v : Value} {xs : List Value} (h : w.ownsRow base 73 4 v n xs) (hb : base' ≤ base) : w.ownsRow base' 73 4 v n xs := by
  refine ⟨h.1, ?_⟩
  rcases h.2 with ⟨h1, h2⟩ | ⟨g, cap, cur, hv, hg, rest⟩
  · exact .inl ⟨h1, h2⟩
  · exact .inr ⟨g, cap, cur, hv, Nat.le_trans hb hg, rest⟩
/-- Nodes to be read. -/
structure NArg (a : Option Addr) (ns : List NodeT) (w : World) : Prop where
  le : ns.length ≤ 1000
  cells : 0 < ns.length → ∃ b, a = some ⟨b, 0, none⟩ ∧ b < w.heap.size ∧ ∀ j, j < ns.length → w.cell? ⟨b, j * 4, none⟩ = some (.string (ns.getD j noNode).1) ∧ w.cell? ⟨b, j * 4 + 1, none⟩ = some (.string (ns.getD j noNode).2.1) ∧ w.cell? ⟨b, j * 4 + 2, none⟩ = some (.string (ns.getD j noNode).2.2.1) ∧ w.cell? ⟨b, j * 4 + 3, none⟩ = some (.string (ns.getD j noNode).2.2.2)
theorem NArg.below {a : Option Addr} {ns : List NodeT} {w w' : World} {B : Nat} (h : NArg a ns w) (hb : Below B w w') (hB : ∀ b, a = some ⟨b, 0, none⟩ → 0 < ns.length → b < B) : NArg a ns w' :=
  ⟨h.le, fun hn => by
    obtain ⟨b, e, hl, hc⟩ := h.cells hn
    have hbl := hb.block b (hB b e hn)
    have hcell : ∀ i, w'.cell? ⟨b, i, none⟩ = w.cell? ⟨b, i, none⟩ := fun i => by unfold World.cell?; simp only [hbl]
    exact ⟨b, e, Nat.lt_of_lt_of_le hl hb.size, fun j hj => by simp only [hcell]; exact hc j hj⟩⟩
theorem own4_narg {w : World} {base cap : Nat} {a : Option Addr} {ns : List NodeT} (h : w.ownsRow base 73 4 (.slice a ns.length cap) ns.length (flatN ns)) (hs : ns.length ≤ 1000) : NArg a ns w := by
  refine ⟨hs, fun hn => ?_⟩
  rcases h.2 with ⟨e, h0⟩ | ⟨g, cap', cur, e, hb, hg, q1, q2, q3, q4⟩
  · omega
  · simp only [Value.slice.injEq] at e
    obtain ⟨rfl, _, _⟩ := e
    refine ⟨g, rfl, (Array.getElem?_eq_some_iff.1 hg).1, fun j hj => ?_⟩
    obtain ⟨e0, e1, e2, e3⟩ := flatN_get ns j hj
    rw [← q4] at e0 e1 e2 e3
    rw [List.getElem?_take, if_pos (by omega)] at e0 e1 e2 e3
    exact ⟨(Lib.cell_of_heap hg _).trans (by simpa using e0), (Lib.cell_of_heap hg _).trans (by simpa using e1), (Lib.cell_of_heap hg _).trans (by simpa using e2), (Lib.cell_of_heap hg _).trans (by simpa using e3)⟩
theorem info73 : (Tryz.prog.info? 73).map (fun i => (i.zero, i.size, i.bytes)) = some (some (.agg #[.string ⟨#[]⟩, .string ⟨#[]⟩, .string ⟨#[]⟩, .string ⟨#[]⟩]), 4, 64) := by kernel_rfl
/-- What a reading of the model answers. -/
def RdAt (wd : Nat) (R : Option (PT × Nat × Nat)) (w : World) (e : Ending) (w' : World) : Prop :=
  (∀ t a' c', R = some (t, a', c') → ∃ (x y : ByteArray) (a : Option Addr) (cap : Nat), e = .returned (.agg #[.string x, .slice a (nodesP wd t).length cap, .string y, .int .i64 (a' : Int)]) ∧ Hid (x = hashP wd t) ∧ Hid (y.data.toList = shapeP t) ∧ w'.ownsRow w.heap.size 73 4 (.slice a (nodesP wd t).length cap) (nodesP wd t).length (flatN (nodesP wd t))) ∧ (R = none → e = .returned (.agg #[.string ⟨#[]⟩, .slice none 0 0, .string ⟨#[]⟩, .int .i64 (-1)])) ∧ Below w.heap.size w w'
theorem none_any (w : World) : Calls Tryz.prog 83 #[] w fun e w' => e = .returned (.agg #[.string ⟨#[]⟩, .slice none 0 0, .string ⟨#[]⟩, .int .i64 (-1)]) ∧ Below w.heap.size w w' := by
  go_enter Tryz.func83, Tryz.ntmps83
  go_wp2
  have n := heap_alloc_new w (.cells #[.string ⟨#[]⟩, .slice none 0 0, .string ⟨#[]⟩, .int .i64 (-1)] 65)
  have c0 := Lib.cell_of_heap n 0
  have c1 := Lib.cell_of_heap n 1
  have c2 := Lib.cell_of_heap n 2
  have c3 := Lib.cell_of_heap n 3
  refine bodyPost_ret (v := .agg #[.string ⟨#[]⟩, .slice none 0 0, .string ⟨#[]⟩, .int .i64 (-1)]) ?_ rfl ⟨rfl, (Below.refl _ _).alloc (Nat.le_refl _) _⟩
  simp [results, Tryz.results83, go_sem, asAddr, c0, c1, c2, c3]
/-- The blocks that a reading has of its own. -/
structure LQ (w : World) (ga gb gr : Nat) (wd : Nat) (lo hi s over under : ByteArray) (W : World) : Prop where
  sz : w.heap.size = ga
  o1 : ga < gb
  o2 : gb < gr
  bl : Below w.heap.size w W
  nq : W.heap[ga]? = some (.cells #[.int .i64 (wd : Int), .string lo, .string hi, .string s] 131)
  nb : W.heap[gb]? = some (.cells #[.string over, .string under] 94)
  nr : W.heap[gr]? = some (.cells #[.string ⟨#[]⟩, .slice none 0 0, .string ⟨#[]⟩, .int .i64 0] 65)
section
variable {w : World} {ga gb gr : Nat} {wd : Nat} {lo hi s over under : ByteArray} {W W' : World}
theorem LQ.lt (h : LQ w ga gb gr wd lo hi s over under W) : gr < W.heap.size := (Array.getElem?_eq_some_iff.1 h.nr).1
theorem LQ.upto {B : Nat} (h : LQ w ga gb gr wd lo hi s over under W) (hb : Below B W W') (hB : gr < B) : LQ w ga gb gr wd lo hi s over under W' := by
  have h1 := h.o1
  have h2 := h.o2
  have h3 := h.sz
  exact ⟨h3, h1, h2, h.bl.trans (hb.mono (by omega)), (hb.block _ (by omega)).trans h.nq, (hb.block _ (by omega)).trans h.nb, (hb.block _ hB).trans h.nr⟩
theorem LQ.below (h : LQ w ga gb gr wd lo hi s over under W) (hb : Below W.heap.size W W') : LQ w ga gb gr wd lo hi s over under W' := h.upto hb h.lt
theorem LQ.mk0 (w : World) (wd : Nat) (lo hi s over under : ByteArray) : LQ w w.heap.size (w.heap.size + 1) (w.heap.size + 1 + 1) wd lo hi s over under (((w.alloc (.cells #[.int .i64 (wd : Int), .string lo, .string hi, .string s] 131)).alloc (.cells #[.string over, .string under] 94)).alloc (.cells #[.string ⟨#[]⟩, .slice none 0 0, .string ⟨#[]⟩, .int .i64 0] 65)) := by
  have e1 := heap_alloc_new w (.cells #[.int .i64 (wd : Int), .string lo, .string hi, .string s] 131)
  have e2 := heap_alloc_new (w.alloc (.cells #[.int .i64 (wd : Int), .string lo, .string hi, .string s] 131)) (.cells #[.string over, .string under] 94)
  have e3 := heap_alloc_new ((w.alloc (.cells #[.int .i64 (wd : Int), .string lo, .string hi, .string s] 131)).alloc (.cells #[.string over, .string under] 94)) (.cells #[.string ⟨#[]⟩, .slice none 0 0, .string ⟨#[]⟩, .int .i64 0] 65)
  simp only [World.size_alloc] at e1 e2 e3
  refine ⟨rfl, by omega, by omega, (((Below.refl _ _).alloc (Nat.le_refl _) _).alloc (by simp) _).alloc (by simp; omega) _, ?_, ?_, e3⟩
  · rw [Below.heap_alloc _ _ _ (by simp <;> omega), Below.heap_alloc _ _ _ (by simp)]; exact e1
  · rw [Below.heap_alloc _ _ _ (by simp)]; exact e2
/-- The answer, written. -/
theorem LQ.fin (h : LQ w ga gb gr wd lo hi s over under W) (v0 v1 v2 v3 : Value) :
    ((((W.setCell ⟨gr, 0, none⟩ v0).setCell ⟨gr, 1, none⟩ v1).setCell ⟨gr, 2, none⟩ v2).setCell ⟨gr, 3, none⟩ v3).heap[gr]? = some (.cells #[v0, v1, v2, v3] 65) ∧ Below w.heap.size w ((((W.setCell ⟨gr, 0, none⟩ v0).setCell ⟨gr, 1, none⟩ v1).setCell ⟨gr, 2, none⟩ v2).setCell ⟨gr, 3, none⟩ v3) ∧ (∀ k, k ≠ gr → ((((W.setCell ⟨gr, 0, none⟩ v0).setCell ⟨gr, 1, none⟩ v1).setCell ⟨gr, 2, none⟩ v2).setCell ⟨gr, 3, none⟩ v3).heap[k]? = W.heap[k]?) := by
  have hg : w.heap.size ≤ gr := by have := h.sz; have := h.o1; have := h.o2; omega
  refine ⟨heap_setCell_same _ gr 3 _ 65 _ (heap_setCell_same _ gr 2 _ 65 _ (heap_setCell_same _ gr 1 _ 65 _ (heap_setCell_same _ gr 0 _ 65 _ h.nr))), (((h.bl.setCell hg _).setCell hg _).setCell hg _).setCell hg _, fun k hk => ?_⟩
  rw [Below.heap_setCell _ _ _ _ (by exact hk), Below.heap_setCell _ _ _ _ (by exact hk), Below.heap_setCell _ _ _ _ (by exact hk), Below.heap_setCell _ _ _ _ (by exact hk)]
end
theorem retR {W : World} {A : Act} {gr : Nat} {v0 v1 v2 v3 : Value} {R : Ending → World → Prop} (hp : A.tmps.getD 10 undef = .pointer (some ⟨gr, 0, none⟩)) (hd : A.defers = []) (h : W.heap[gr]? = some (.cells #[v0, v1, v2, v3] 65)) (hR : R (.returned (.agg #[v0, v1, v2, v3])) W) : bodyPost Tryz.prog Tryz.f84 R .ret A W := by
  have q0 := Lib.cell_of_heap h 0
  have q1 := Lib.cell_of_heap h 1
  have q2 := Lib.cell_of_heap h 2
  have q3 := Lib.cell_of_heap h 3
  refine bodyPost_ret (v := .agg #[v0, v1, v2, v3]) ?_ hd hR
  rw [results_cell W (fn := Tryz.f84) (p := 10) (ty := 65) rfl A.tmps _ hp]
  exact run_loadVar_mid W gr 0 65 [v0, v1, v2, v3] _ (fun j u hj => by
    match j, hj with
    | 0, hj => simpa using q0.trans (by simpa using hj)
    | 1, hj => simpa using q1.trans (by simpa using hj)
    | 2, hj => simpa using q2.trans (by simpa using hj)
    | 3, hj => simpa using q3.trans (by simpa using hj)) Tryz.underlying65 rfl (by kernel_rfl)
theorem LQ.none {w : World} {ga gb gr wd : Nat} {lo hi s over under : ByteArray} {W : World} (h : LQ w ga gb gr wd lo hi s over under W) {A : Act} {R : Option (PT × Nat × Nat)} (hR : R = none) (hp : A.tmps.getD 10 undef = .pointer (some ⟨gr, 0, Option.none⟩)) (hd : A.defers = []) :
    bodyPost Tryz.prog Tryz.f84 (RdAt wd R w) .ret A ((((W.setCell ⟨gr, 0, Option.none⟩ (.string ⟨#[]⟩)).setCell ⟨gr, 1, Option.none⟩ (.slice Option.none 0 0)).setCell ⟨gr, 2, Option.none⟩ (.string ⟨#[]⟩)).setCell ⟨gr, 3, Option.none⟩ (.int .i64 (-1))) := by
  obtain ⟨h1, h2, h3⟩ := h.fin (.string ⟨#[]⟩) (.slice Option.none 0 0) (.string ⟨#[]⟩) (.int .i64 (-1))
  subst hR
  exact retR hp hd h1 ⟨fun t a' c' h => (by cases h), fun _ => rfl, h2⟩
theorem LQ.good {w : World} {ga gb gr wd : Nat} {lo hi s over under : ByteArray} {W : World} (h : LQ w ga gb gr wd lo hi s over under W) {A : Act} {R : Option (PT × Nat × Nat)} {t : PT} {a' c' : Nat} (hR : R = some (t, a', c')) (x y : ByteArray) (a : Option Addr) (cap n : Nat) (hx : x = hashP wd t) (hy : y.data.toList = shapeP t) (hn : (nodesP wd t).length = n) (ho : W.ownsRow w.heap.size 73 4 (.slice a n cap) n (flatN (nodesP wd t))) (ai : Int) (hai : ai = (a' : Int)) (hp : A.tmps.getD 10 undef = .pointer (some ⟨gr, 0, Option.none⟩)) (hd : A.defers = []) :
    bodyPost Tryz.prog Tryz.f84 (RdAt wd R w) .ret A ((((W.setCell ⟨gr, 0, Option.none⟩ (.string x)).setCell ⟨gr, 1, Option.none⟩ (.slice a n cap)).setCell ⟨gr, 2, Option.none⟩ (.string y)).setCell ⟨gr, 3, Option.none⟩ (.int .i64 ai)) := by
  obtain ⟨h1, h2, h3⟩ := h.fin (.string x) (.slice a n cap) (.string y) (.int .i64 ai)
  subst hR
  subst hn
  refine retR hp hd h1 ⟨fun t' a'' c'' h' => ?_, fun h' => (by cases h'), h2⟩
  cases h'
  refine ⟨x, y, a, cap, by rw [hai], hx, hy, own4_kept ho (fun g hv hg => h3 g (fun e => ?_))⟩
  obtain ⟨_, _, cur, h9⟩ := own4_cells ho hv
  rw [e, h.nr] at h9
  simp only [Option.some.injEq, Obj.cells.injEq] at h9
  exact absurd h9.2.1 (by decide)
end Go.Proofs.YtibjhkpgaaapaaaGreatDoor
