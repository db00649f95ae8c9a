import Derived.Test.YtibjhkpgaaapaaaGreatDoorZxbm
import Derived.Test.YtibjhkpgaaapaaaGreatDoorZxat
import Derived.Test.YtibjhkpgaaapaaaGreatDoorZxba
import Derived.Deep.AppendLies
import Derived.Deep.Cut
import Derived.Test.YtibjhkpgaaapaaaGreatDoorZxbe
import Derived.Laws.MakeOwn
import Derived.Laws.OwnMore
import Derived.Test.YtibjhkpgaaapaaaGreatDoorZxak
namespace Go.Proofs.YtibjhkpgaaapaaaGreatDoor
open Go.RowKit Go.Proofs.Sha

abbrev ChT := ByteArray × Bool × ByteArray × Bool × ByteArray
def getP : List PairT → ByteArray → ByteArray × Bool
  | [], _ => (⟨#[]⟩, false)
  | p :: ps, k => if p.1 = k then (p.2, true) else getP ps k
def chOf (ps qs : List PairT) (k : ByteArray) : Option ChT :=
  if (getP ps k).2 ≠ (getP qs k).2 ∨ (getP ps k).1 ≠ (getP qs k).1 then some (k, (getP ps k).2, (getP ps k).1, (getP qs k).2, (getP qs k).1) else none
/-- The changes, two lists gone through side by side. -/
def chg : List PairT → List PairT → List ChT
  | [], [] => []
  | p :: ps, [] => (p.1, true, p.2, false, ⟨#[]⟩) :: chg ps []
  | [], q :: qs => (q.1, false, ⟨#[]⟩, true, q.2) :: chg [] qs
  | p :: ps, q :: qs => if p.1 = q.1 then (if p.2 = q.2 then chg ps qs else (p.1, true, p.2, true, q.2) :: chg ps qs) else if lessB p.1 q.1 = true then (p.1, true, p.2, false, ⟨#[]⟩) :: chg ps (q :: qs) else (q.1, false, ⟨#[]⟩, true, q.2) :: chg (p :: ps) qs
termination_by ps qs => ps.length + qs.length
def kU : List PairT → List PairT → List ByteArray
  | [], [] => []
  | p :: ps, [] => p.1 :: kU ps []
  | [], q :: qs => q.1 :: kU [] qs
  | p :: ps, q :: qs => if p.1 = q.1 then p.1 :: kU ps qs else if lessB p.1 q.1 = true then p.1 :: kU ps (q :: qs) else q.1 :: kU (p :: ps) qs
termination_by ps qs => ps.length + qs.length
theorem mem_kU (x : ByteArray) : ∀ (n : Nat) (ps qs : List PairT), ps.length + qs.length = n → (x ∈ kU ps qs ↔ x ∈ keys ps ∨ x ∈ keys qs) := by
  intro n
  induction n using Nat.strongRecOn with
  | ind n ih =>
    intro ps qs hn
    match ps, qs with
    | [], [] => rw [kU]; simp
    | p :: ps, [] =>
      rw [kU, List.mem_cons, ih _ (by simp at hn ⊢; omega) ps [] rfl]
      simp
    | [], q :: qs =>
      rw [kU, List.mem_cons, ih _ (by simp at hn ⊢; omega) [] qs rfl]
      simp
    | p :: ps, q :: qs =>
      rw [kU]
      split
      · rename_i e
        rw [List.mem_cons, ih _ (by simp at hn ⊢; omega) ps qs rfl]
        simp only [keys, List.map_cons, List.mem_cons]
        rw [e]
        constructor
        · rintro (h | h | h)
          · exact .inl (.inl h)
          · exact .inl (.inr h)
          · exact .inr (.inr h)
        · rintro ((h | h) | (h | h))
          · exact .inl h
          · exact .inr (.inl h)
          · exact .inl h
          · exact .inr (.inr h)
      · split
        · rw [List.mem_cons, ih _ (by simp at hn ⊢; omega) ps (q :: qs) rfl]
          simp only [keys, List.map_cons, List.mem_cons]
          constructor
          · rintro (h | h | h)
            · exact .inl (.inl h)
            · exact .inl (.inr h)
            · exact .inr h
          · rintro ((h | h) | h)
            · exact .inl h
            · exact .inr (.inl h)
            · exact .inr (.inr h)
        · rw [List.mem_cons, ih _ (by simp at hn ⊢; omega) (p :: ps) qs rfl]
          simp only [keys, List.map_cons, List.mem_cons]
          constructor
          · rintro (h | h | h)
            · exact .inr (.inl h)
            · exact .inl h
            · exact .inr (.inr h)
          · rintro (h | (h | h))
            · exact .inr (.inl h)
            · exact .inl h
            · exact .inr (.inr h)
theorem getP_none {ps : List PairT} {k : ByteArray} (h : k ∉ keys ps) : getP ps k = (⟨#[]⟩, false) := by
  induction ps with
  | nil => rfl
  | cons p ps ih =>
    simp only [keys, List.map_cons, List.mem_cons, not_or] at h
    rw [getP, if_neg (fun e => h.1 e.symm)]
    exact ih h.2
theorem getP_hit (p : PairT) (ps : List PairT) : getP (p :: ps) p.1 = (p.2, true) := by rw [getP, if_pos rfl]
theorem getP_skip {p : PairT} {ps : List PairT} {k : ByteArray} (h : p.1 ≠ k) : getP (p :: ps) k = getP ps k := by rw [getP, if_neg h]
theorem ne_of_less {a b : ByteArray} (h : lessB a b = true) : a ≠ b := fun e => by subst e; rw [lessB_irr] at h; cases h
theorem fm_congr {f g : ByteArray → Option ChT} : ∀ {l : List ByteArray}, (∀ x ∈ l, f x = g x) → l.filterMap f = l.filterMap g
  | [], _ => rfl
  | a :: l, h => by rw [List.filterMap_cons, List.filterMap_cons, h a List.mem_cons_self, fm_congr (fun x hx => h x (List.mem_cons_of_mem _ hx))]
theorem chg_kU : ∀ (n : Nat) (ps qs : List PairT), ps.length + qs.length = n → KeysUp (keys ps) → KeysUp (keys qs) → KeysUp (kU ps qs) ∧ chg ps qs = (kU ps qs).filterMap (chOf ps qs) := by
  intro n
  induction n using Nat.strongRecOn with
  | ind n ih =>
    intro ps qs hn hp hq
    match ps, qs with
    | [], [] => rw [kU, chg]; exact ⟨trivial, rfl⟩
    | p :: ps, [] =>
      obtain ⟨i1, i2⟩ := ih _ (by simp at hn ⊢; omega) ps [] rfl hp.2 hq
      have hm : ∀ x ∈ kU ps [], lessB p.1 x = true := fun x hx => by
        rcases (mem_kU x _ ps [] rfl).1 hx with h | h
        · exact hp.1 x h
        · simp at h
      rw [kU, chg, i2]
      refine ⟨⟨hm, i1⟩, ?_⟩
      have e0 : chOf (p :: ps) [] p.1 = some (p.1, true, p.2, false, ⟨#[]⟩) := by
        unfold chOf
        rw [getP_hit, getP]
        simp
      rw [List.filterMap_cons, e0]
      congr 1
      refine fm_congr fun x hx => ?_
      unfold chOf
      rw [getP_skip (ne_of_less (hm x hx))]
    | [], q :: qs =>
      obtain ⟨i1, i2⟩ := ih _ (by simp at hn ⊢; omega) [] qs rfl hp hq.2
      have hm : ∀ x ∈ kU [] qs, lessB q.1 x = true := fun x hx => by
        rcases (mem_kU x _ [] qs rfl).1 hx with h | h
        · simp at h
        · exact hq.1 x h
      rw [kU, chg, i2]
      refine ⟨⟨hm, i1⟩, ?_⟩
      have e0 : chOf [] (q :: qs) q.1 = some (q.1, false, ⟨#[]⟩, true, q.2) := by
        unfold chOf
        rw [getP_hit, getP]
        simp
      rw [List.filterMap_cons, e0]
      congr 1
      refine fm_congr fun x hx => ?_
      unfold chOf
      rw [getP_skip (ps := qs) (ne_of_less (hm x hx))]
    | p :: ps, q :: qs =>
      rw [kU, chg]
      by_cases e : p.1 = q.1
      · rw [if_pos e, if_pos e]
        obtain ⟨i1, i2⟩ := ih _ (by simp at hn ⊢; omega) ps qs rfl hp.2 hq.2
        have hm : ∀ x ∈ kU ps qs, lessB p.1 x = true := fun x hx => by
          rcases (mem_kU x _ ps qs rfl).1 hx with h | h
          · exact hp.1 x h
          · rw [e]; exact hq.1 x h
        refine ⟨⟨hm, i1⟩, ?_⟩
        have hc : (kU ps qs).filterMap (chOf (p :: ps) (q :: qs)) = (kU ps qs).filterMap (chOf ps qs) := fm_congr fun x hx => by
          unfold chOf
          rw [getP_skip (ps := ps) (ne_of_less (hm x hx)), getP_skip (ps := qs) (by rw [← e]; exact ne_of_less (hm x hx))]
        have e0 : chOf (p :: ps) (q :: qs) p.1 = if p.2 = q.2 then none else some (p.1, true, p.2, true, q.2) := by
          unfold chOf
          rw [getP_hit]
          have : getP (q :: qs) p.1 = (q.2, true) := by rw [e]; exact getP_hit q qs
          rw [this]
          by_cases e2 : p.2 = q.2 <;> simp [e2]
        rw [List.filterMap_cons, e0, hc, i2]
        split <;> rfl
      · rw [if_neg e, if_neg e]
        cases hl : lessB p.1 q.1 with
        | true =>
          rw [if_pos rfl, if_pos rfl]
          obtain ⟨i1, i2⟩ := ih _ (by simp at hn ⊢; omega) ps (q :: qs) rfl hp.2 hq
          have hm : ∀ x ∈ kU ps (q :: qs), lessB p.1 x = true := fun x hx => by
            rcases (mem_kU x _ ps (q :: qs) rfl).1 hx with h | h
            · exact hp.1 x h
            · rcases List.mem_cons.1 h with h | h
              · rw [h]; exact hl
              · exact lessB_tr hl (hq.1 x h)
          refine ⟨⟨hm, i1⟩, ?_⟩
          have hnq : p.1 ∉ keys (q :: qs) := fun h => by
            rcases List.mem_cons.1 h with h | h
            · exact e h
            · have := lessB_tr hl (hq.1 _ h); rw [lessB_irr] at this; cases this
          have e0 : chOf (p :: ps) (q :: qs) p.1 = some (p.1, true, p.2, false, ⟨#[]⟩) := by
            unfold chOf
            rw [getP_hit, getP_none hnq]
            simp
          rw [List.filterMap_cons, e0, i2]
          congr 1
          refine fm_congr fun x hx => ?_
          unfold chOf
          rw [getP_skip (ps := ps) (ne_of_less (hm x hx))]
        | false =>
          rw [if_neg (by decide), if_neg (by decide)]
          have hl2 := lessB_or _ _ hl e
          obtain ⟨i1, i2⟩ := ih _ (by simp at hn ⊢; omega) (p :: ps) qs rfl hp hq.2
          have hm : ∀ x ∈ kU (p :: ps) qs, lessB q.1 x = true := fun x hx => by
            rcases (mem_kU x _ (p :: ps) qs rfl).1 hx with h | h
            · rcases List.mem_cons.1 h with h | h
              · rw [h]; exact hl2
              · exact lessB_tr hl2 (hp.1 x h)
            · exact hq.1 x h
          refine ⟨⟨hm, i1⟩, ?_⟩
          have hnq : q.1 ∉ keys (p :: ps) := fun h => by
            rcases List.mem_cons.1 h with h | h
            · exact e h.symm
            · have := lessB_tr hl2 (hp.1 _ h); rw [lessB_irr] at this; cases this
          have e0 : chOf (p :: ps) (q :: qs) q.1 = some (q.1, false, ⟨#[]⟩, true, q.2) := by
            unfold chOf
            rw [getP_hit, getP_none hnq]
            simp
          rw [List.filterMap_cons, e0, i2]
          congr 1
          refine fm_congr fun x hx => ?_
          unfold chOf
          rw [getP_skip (ps := qs) (ne_of_less (hm x hx))]
/-- Every key of either. -/
def uni (ps qs : List PairT) : List PairT := qs.foldl (fun a q => wth a q.1 ⟨#[]⟩) ps
theorem uni_up : ∀ (qs ps : List PairT), KeysUp (keys ps) → KeysUp (keys (uni ps qs)) ∧ ∀ x, x ∈ keys (uni ps qs) ↔ x ∈ keys ps ∨ x ∈ keys qs
  | [], ps, h => ⟨h, fun x => by simp [uni]⟩
  | q :: qs, ps, h => by
    obtain ⟨h1, h2⟩ := uni_up qs (wth ps q.1 ⟨#[]⟩) (ku_wth h _ _)
    refine ⟨h1, fun x => ?_⟩
    have h3 := h2 x
    rw [mem_wth] at h3
    show x ∈ keys (uni (wth ps q.1 ⟨#[]⟩) qs) ↔ _
    rw [h3]
    simp only [keys, List.map_cons, List.mem_cons]
    constructor
    · rintro ((h | h) | h)
      · exact .inr (.inl h)
      · exact .inl h
      · exact .inr (.inr h)
    · rintro (h | (h | h))
      · exact .inl (.inr h)
      · exact .inl (.inl h)
      · exact .inr h
/-- The model's changes are those of going side by side. -/
theorem chg_uni {ps qs : List PairT} (hp : KeysUp (keys ps)) (hq : KeysUp (keys qs)) : (keys (uni ps qs)).filterMap (chOf ps qs) = chg ps qs := by
  obtain ⟨h1, h2⟩ := uni_up qs ps hp
  obtain ⟨h3, h4⟩ := chg_kU _ ps qs rfl hp hq
  rw [h4, KeysUp.one h1 h3 (fun x => by rw [h2 x, mem_kU x _ ps qs rfl])]
end Go.Proofs.YtibjhkpgaaapaaaGreatDoor
namespace Go.Proofs.YtibjhkpgaaapaaaGreatDoor
open Go.RowKit Go.Proofs.Sha

theorem drop_getD (ps : List PairT) (i : Nat) (h : i < ps.length) : ps.drop i = ps.getD i noPair :: ps.drop (i + 1) := by
  rw [List.drop_eq_getElem_cons h]
  congr 1
  simp [List.getD_eq_getElem?_getD, List.getElem?_eq_getElem h]
theorem ba_eq {a b : ByteArray} : (a.toList == b.toList) = decide (a = b) := by
  by_cases e : a = b
  · subst e; simp
  · rw [decide_eq_false e, beq_eq_false_iff_ne]
    intro h
    rw [ByteArray.toList_eq, ByteArray.toList_eq] at h
    exact e (ByteArray.ext (Array.toList_inj.1 h))
/-- A row of pairs of the call's own, while it is put together. -/
structure OwnP (w : World) (xs : List PairT) (a : Option Addr) (m c : Nat) (W : World) : Prop where
  own : W.ownsRow w.heap.size 81 2 (.slice a m c) m (flatP xs)
  bel : Below w.heap.size w W
  len : xs.length = m
theorem OwnP.below {w W W' : World} {xs : List PairT} {a : Option Addr} {m c : Nat} (h : OwnP w xs a m c W) (hb : Below W.heap.size W W') : OwnP w xs a m c W' :=
  ⟨own2_kept h.own (fun q _ hq => hb.block q hq), h.bel.trans (hb.mono h.bel.size), h.len⟩
theorem OwnP.more {w W W' : World} {xs : List PairT} {a : Option Addr} {m c m' g cap : Nat} {y : PairT} {o : Obj} (h : OwnP w xs a m c W) (hown : W'.ownsRow w.heap.size 81 2 (.slice (some ⟨g, 0, none⟩) m' cap) m' (flatP xs ++ [.string y.1, .string y.2])) (hgrow : (W.alloc o).grownBy W' (Value.slice a m c).ownBlock) (hm : m' = m + 1) : OwnP w (xs ++ [y]) (some ⟨g, 0, none⟩) m' cap W' := by
  have ha := h.below ((Below.refl W.heap.size W).alloc (Nat.le_refl _) o)
  refine ⟨by rw [flatP_app]; exact hown, ha.bel.grown hgrow ha.bel.size (fun q hq => (own2_cells ha.own hq).1), by rw [List.length_append, h.len, hm]; rfl⟩
/-- What a function that makes pairs answers. -/
def PairsAt (xs : List PairT) (w : World) (e : Ending) (w' : World) : Prop := ∃ a c, e = .returned (.slice a xs.length c) ∧ OwnP w xs a xs.length c w'
end Go.Proofs.YtibjhkpgaaapaaaGreatDoor
namespace Go.Proofs.YtibjhkpgaaapaaaGreatDoor
open Go.RowKit Go.Proofs.Sha

theorem take_getD (ps : List PairT) (i : Nat) (h : i < ps.length) : ps.take (i + 1) = ps.take i ++ [ps.getD i noPair] := by
  rw [List.take_add_one, List.getElem?_eq_getElem h]
  simp [List.getD_eq_getElem?_getD, List.getElem?_eq_getElem h]
theorem wout_app (a b : List PairT) (k : ByteArray) : wout (a ++ b) k = wout a k ++ wout b k := List.filter_append ..
theorem wout_le (ps : List PairT) (k : ByteArray) : (wout ps k).length ≤ ps.length := List.length_filter_le ..
theorem OwnP.nil (w : World) : OwnP w [] (some ⟨w.heap.size, 0, none⟩) 0 0 (w.alloc (.cells #[] 81)) :=
  ⟨own2_nil (Nat.le_refl _) (heap_alloc_new w _), (Below.refl _ _).alloc (Nat.le_refl _) _, rfl⟩
set_option maxRecDepth 100000 in
set_option maxHeartbeats 1000000 in
theorem without_any (a : Option Addr) (ps : List PairT) (c : Nat) (key : ByteArray) (w : World) (h : PArg a ps w) : Calls Tryz.prog 137 #[.slice a ps.length c, .string key] w (PairsAt (wout ps key) w) := by
  obtain ⟨i0, hi0, hz0, hz1, hz2⟩ := info_parts2 info37
  have hn := h.le
  obtain ⟨N, hN⟩ : ∃ N, ps.length = N := ⟨_, rfl⟩
  rw [hN] at hn ⊢
  have hNl : Hid (ps.length = N) := hN
  clear hN
  have hO := OwnP.nil w
  go_enter Tryz.func137, Tryz.ntmps137
  go_wp2_with fail
  go_loopw [5, 6] (fun t5 t6 wr => ∃ k : Nat, k ≤ N ∧ t6 = .int .i64 (k : Int) ∧ ∃ (a' : Option Addr) (m d' : Nat), t5 = .slice a' m d' ∧ OwnP w (wout (ps.take k) key) a' m d' wr) (fun _ t6 _ => N - (intOf t6).toNat)
  case atStart => exact ⟨0, Nat.zero_le _, rfl, _, _, _, rfl, hO⟩
  case round =>
    obtain ⟨k, hk, rfl, a', m, d', rfl, hW⟩ := hrel
    by_cases hlt : k < N
    · have z1 : decide ((k : Int) < (N : Int)) = true := by simp; omega
      have hx0 : (0 : Int) ≤ (k : Int) := Int.natCast_nonneg _
      have hx1 : (k : Int) < (N : Int) := by omega
      obtain ⟨b1, off1, rfl, hbl1, hc⟩ := (h.below hW.bel).at_ (by rw [hNl.out]; omega)
      obtain ⟨hc1, hc2⟩ := hc k (by rw [hNl.out]; exact hlt)
      have hml : m ≤ 1048576 := by have := hW.len; have := wout_le (ps.take k) key; rw [List.length_take] at this; omega
      have htk : Hid (wout (ps.take (k + 1)) key = wout (ps.take k) key ++ wout [ps.getD k noPair] key) := by
        show _ = _
        rw [take_getD ps k (by rw [hNl.out]; exact hlt), wout_app]
      generalize ps.getD k noPair = p at hc1 hc2 htk
      obtain ⟨pk, pv⟩ := p
      simp only at hc1 hc2
      have hbs := hW.bel.size
      by_cases e : pk = key
      · have z2 : (pk.toList == key.toList) = true := by rw [ba_eq, decide_eq_true e]
        have hf : Hid (wout [(pk, pv)] key = []) := by show _ = _; simp [wout, e]
        clear e hc
        go_wp2_with fail
        go_roundw
        case rel => exact ⟨k + 1, hlt, by go_num, _, _, _, rfl, by rw [htk.out, hf.out, List.append_nil]; exact hW⟩
        case measure => simp [intOf]; omega
      · have z2 : (pk.toList == key.toList) = false := by rw [ba_eq, decide_eq_false e]
        have hf : Hid (wout [(pk, pv)] key = [(pk, pv)]) := by show _ = _; simp [wout, e]
        have own := hW.own
        clear e hc
        go_wp2_with (at_builtin; refine wpList_append_lies _ rfl (.tmp 21) (.tmp 26) 35 rfl w.heap.size 81 i0 (.agg #[.string ⟨#[]⟩, .string ⟨#[]⟩]) 2 32 Tryz.underlying35 hi0 hz0 hz1 hz2 rfl (by decide) (.slice a' m d') m (flatP (wout (ps.take k) key)) rfl (own.alloc _) ⟨wr.heap.size, 0, none⟩ 1 1 [.string pk, .string pv] rfl rfl (World.news_of_block (heap_alloc_new wr _)) (by simp [Value.oneCell']) (by decide) (by unfold maxLen; omega) (by omega) (by simp; omega) (wr.heap.size + 1) (by simp) ?_; intro g5 c5 w5 hown5 hgrow5 hat5 hlt5)
        go_roundw
        case rel => exact ⟨k + 1, hlt, by go_num, _, _, _, rfl, by rw [htk.out, hf.out]; exact hW.more hown5 hgrow5 rfl⟩
        case measure => simp [intOf]; omega
    · obtain rfl : k = N := by omega
      have z1 : decide ((k : Int) < (k : Int)) = false := by simp
      rw [List.take_of_length_le (by rw [hNl.out]; exact Nat.le_refl _)] at hW
      have hl := hW.len
      subst hl
      go_wp2_with fail
      go_ret
      exact ⟨_, _, rfl, hW⟩
end Go.Proofs.YtibjhkpgaaapaaaGreatDoor
namespace Go.Proofs.YtibjhkpgaaapaaaGreatDoor
open Go.RowKit Go.Proofs.Sha

theorem make29 (n : Nat) (hn : n ≤ 1048576) (W : World) : (Instr.makeSlice 25 (.int .i64 (n : Int)) (.int .i64 (n : Int))).run Tryz.prog W = .ok (.slice (some ⟨W.heap.size, 0, none⟩) n n) (W.alloc (.cells ((List.replicate n ⟨#[]⟩).map Value.string).toArray 9)) := by
  obtain ⟨i0, hi, hz0, hz1, hz2⟩ := info_parts info9
  have e : madeCells (Value.string ⟨#[]⟩).cells (((n : Nat) : Int).toNat * i0.size) = ((List.replicate n ⟨#[]⟩).map Value.string).toArray := by
    rw [hz1, Int.toNat_natCast, Nat.mul_one]
    show madeCells #[.string ⟨#[]⟩] n = _
    rw [← Array.toList_inj, toList_madeCells_one, List.map_replicate]
  have h := run_make (P := Tryz.prog) W 25 9 i0 (.string ⟨#[]⟩) Tryz.underlying25 hi hz0 .i64 .i64 (n : Int) (n : Int) (by omega) (by omega) (by rw [hz2]; omega) (by omega)
  rw [e] at h
  simpa using h
theorem Row.sarg {w : World} {base g c : Nat} {ss : List ByteArray} (h : Row w base g ss.length c (ss.map Value.string)) (hs : SmallS ss) : SArg (some ⟨g, 0, none⟩) ss w := by
  refine RArg.sarg ⟨fun _ => ⟨g, 0, rfl, h.lt, fun j hj => ?_⟩⟩ hs
  rw [Nat.zero_add, h.cell j hj, List.getElem?_map, List.getElem?_eq_getElem hj, List.getD_eq_getElem?_getD, List.getElem?_eq_getElem hj]
  rfl

/-- The first k of xs, and zeros. -/
def partS (xs : List ByteArray) (k : Nat) : List ByteArray := xs.take k ++ List.replicate (xs.length - k) ⟨#[]⟩
theorem partS_zero (xs : List ByteArray) : partS xs 0 = List.replicate xs.length ⟨#[]⟩ := by simp [partS]
theorem partS_all (xs : List ByteArray) : partS xs xs.length = xs := by simp [partS]
theorem partS_len (xs : List ByteArray) (k : Nat) (h : k ≤ xs.length) : (partS xs k).length = xs.length := by simp [partS]; omega
theorem partS_set (xs : List ByteArray) (k : Nat) (h : k < xs.length) : ((partS xs k).map Value.string).set k (Value.string (xs.getD k ⟨#[]⟩)) = (partS xs (k + 1)).map Value.string := by
  rw [← List.map_set]
  congr 1
  have e : xs.take (k + 1) = xs.take k ++ [xs[k]] := by rw [List.take_add_one, List.getElem?_eq_getElem h]; rfl
  unfold partS
  rw [show xs.length - k = (xs.length - (k + 1)) + 1 by omega, List.replicate_succ, List.set_append_right _ _ (by rw [List.length_take]; omega), List.length_take, show k - min k xs.length = 0 by omega, List.set_cons_zero, e, List.getD_eq_getElem?_getD, List.getElem?_eq_getElem h, List.append_assoc]
  rfl

set_option maxRecDepth 100000 in
theorem toStringS_any (a : Option Addr) (xs : List ByteArray) (c : Nat) (w : World) (h : SArg a xs w) :
    Calls Tryz.prog 51 #[.slice a xs.length c] w fun e w' => ∃ g, e = .returned (.slice (some ⟨g, 0, none⟩) xs.length xs.length) ∧ Row w' w.heap.size g xs.length xs.length (xs.map Value.string) ∧ Below w.heap.size w w' := by
  have hn := h.le
  have hmk := make29 xs.length hn
  go_enter Tryz.func51, Tryz.ntmps51
  have hrow0 : Row (w.alloc (.cells ((List.replicate xs.length ⟨#[]⟩).map Value.string).toArray 9)) w.heap.size w.heap.size xs.length xs.length ((partS xs 0).map Value.string) := by
    have := Row.of_block (Nat.le_refl w.heap.size) (heap_alloc_new w (.cells ((List.replicate xs.length ⟨#[]⟩).map Value.string).toArray 9)) xs.length (by simp) (.inl rfl)
    simpa [partS_zero] using this
  have hb0 : Below w.heap.size w (w.alloc (.cells ((List.replicate xs.length ⟨#[]⟩).map Value.string).toArray 9)) := (Below.refl _ _).alloc (Nat.le_refl _) _
  obtain ⟨o, ho⟩ : ∃ o, (.cells ((List.replicate xs.length ⟨#[]⟩).map Value.string).toArray 9 : Obj) = o := ⟨_, rfl⟩
  rw [ho] at hrow0 hb0 hmk
  clear ho
  go_wp2_with fail
  go_loopw [4] (fun t wr => ∃ k : Nat, k ≤ xs.length ∧ t = .int .i64 (k : Int) ∧ Row wr w.heap.size w.heap.size xs.length xs.length ((partS xs k).map Value.string) ∧ Below w.heap.size w wr) (fun t _ => xs.length - (intOf t).toNat)
  case atStart => exact ⟨0, Nat.zero_le _, rfl, hrow0, hb0⟩
  case round =>
    clear hrow0 hb0 hmk
    obtain ⟨k, hk, rfl, hrow, hbel⟩ := hrel
    by_cases hlt : k < xs.length
    · have z1 : decide ((k : Int) < (xs.length : Int)) = true := by simp; omega
      obtain ⟨b, off, rfl, hbl, hc⟩ := (h.below hbel).at_ (by omega)
      have hcx := hc k hlt
      obtain ⟨y, hy⟩ := Option.isSome_iff_exists.1 (hrow.room k hlt)
      have hfr := hrow.free k hlt
      obtain ⟨x, hx⟩ : ∃ x, xs.getD k ⟨#[]⟩ = x := ⟨_, rfl⟩
      rw [hx] at hcx
      clear hc
      obtain ⟨g, hg⟩ : ∃ g, w.heap.size = g := ⟨_, rfl⟩
      rw [hg] at hy hfr hrow hbel ⊢
      go_wp2_with fail
      go_roundw
      case rel =>
        have e := hrow.set k hlt (Value.string (xs.getD k ⟨#[]⟩))
        rw [partS_set xs k hlt, hx] at e
        exact ⟨k + 1, hlt, rfl, e, hbel.setCell (Nat.le_refl _) _⟩
      case measure => simp [intOf]; omega
    · obtain rfl : k = xs.length := by omega
      have z1 : decide ((xs.length : Int) < (xs.length : Int)) = false := by simp
      rw [partS_all] at hrow
      go_wp2_with fail
      go_ret
      exact ⟨_, rfl, hrow, hbel⟩

set_option maxRecDepth 100000 in
theorem eqStringS_same (a a2 : Option Addr) (xs : List ByteArray) (c c2 : Nat) (w : World) (h : SArg a xs w) (h2 : SArg a2 xs w) :
    Calls Tryz.prog 55 #[.slice a xs.length c, .slice a2 xs.length c2] w fun e w' => e = .returned (.bool true) ∧ Below w.heap.size w w' := by
  have hn := h.le
  go_enter Tryz.func55, Tryz.ntmps55
  go_wp2_with fail
  go_loopw [5] (fun t wr => ∃ k : Nat, k ≤ xs.length ∧ t = .int .i64 (k : Int) ∧ Below w.heap.size w wr) (fun t _ => xs.length - (intOf t).toNat)
  case atStart => exact ⟨0, Nat.zero_le _, rfl, Below.refl _ _⟩
  case round =>
    obtain ⟨k, hk, rfl, hbel⟩ := hrel
    by_cases hlt : k < xs.length
    · have z1 : decide ((k : Int) < (xs.length : Int)) = true := by simp; omega
      obtain ⟨b, off, rfl, hbl, hc⟩ := (h.below hbel).at_ (by omega)
      obtain ⟨b2, off2, rfl, hbl2, hc2⟩ := (h2.below hbel).at_ (by omega)
      have hcx := hc k hlt
      have hcy := hc2 k hlt
      obtain ⟨x, hx⟩ : ∃ x, xs.getD k ⟨#[]⟩ = x := ⟨_, rfl⟩
      rw [hx] at hcx hcy
      have hq : (x.toList != x.toList) = false := by simp
      clear hc hc2 hx
      have b1 : (k : Int) < (xs.length : Int) := by omega
      go_wp2_with fail
      go_region_held3 (fun W => W.cell? ⟨b, off + k, none⟩ = some (.string x) ∧ W.cell? ⟨b2, off2 + k, none⟩ = some (.string x)) (exact ⟨hcx, hcy⟩) (fail)
      go_wp2_with fail
      go_roundw
      case rel => exact ⟨k + 1, hlt, rfl, hbel.drew⟩
      case measure => simp [intOf]; omega
    · obtain rfl : k = xs.length := by omega
      have z1 : decide ((xs.length : Int) < (xs.length : Int)) = false := by simp
      go_wp2_with fail
      go_ret
      exact ⟨rfl, hbel⟩
end Go.Proofs.YtibjhkpgaaapaaaGreatDoor
namespace Go.Proofs.YtibjhkpgaaapaaaGreatDoor
open Go.RowKit Go.Proofs.Sha

/-- What is left of a number, and its digits so far. -/
def leftK (k : Nat) : Nat → Nat
  | 0 => k
  | j + 1 => leftK k j / 10
def digs (k : Nat) : Nat → ByteArray
  | 0 => ⟨#[]⟩
  | j + 1 => ⟨#[UInt8.ofNat (48 + leftK k j % 10)]⟩ ++ digs k j
theorem digs_size (k j : Nat) : (digs k j).size = j := by
  induction j with
  | zero => rfl
  | succ j ih => rw [digs, ByteArray.size_append, ih]; show 1 + j = _; omega
theorem leftK_le (k j : Nat) (h : ∀ i, i < j → 0 < leftK k i) : leftK k j + j ≤ k := by
  induction j with
  | zero => exact Nat.le_refl _
  | succ j ih =>
    have h1 := ih (fun i hi => h i (by omega))
    have h2 := h j (by omega)
    rw [leftK]
    omega
theorem leftK_ends (k : Nat) : ∃ j, leftK k j = 0 ∧ ∀ i, i < j → 0 < leftK k i := by
  by_cases h : ∀ j, ∀ i, i < j → 0 < leftK k i
  · exfalso
    have := leftK_le k (k + 1) (h (k + 1))
    omega
  · obtain ⟨j, hj⟩ := Classical.not_forall.1 h
    clear h
    induction j with
    | zero => exact absurd (fun i hi => absurd hi (Nat.not_lt_zero i)) hj
    | succ j ih =>
      by_cases hs : ∀ i, i < j → 0 < leftK k i
      · refine ⟨j, ?_, hs⟩
        apply Nat.eq_zero_of_not_pos
        intro hp
        exact hj (fun i hi => by
          by_cases e : i = j
          · subst e; exact hp
          · exact hs i (by omega))
      · exact ih hs
set_option maxRecDepth 100000 in
set_option maxHeartbeats 400000 in
theorem markText_ex (k : Nat) (hk : 1 ≤ k) (hk2 : k ≤ 4000000) : ∃ X : ByteArray, ∀ w, Calls Tryz.prog 57 #[.int .i64 (k : Int)] w fun e w' => e = .returned (.string X) ∧ Below w.heap.size w w' := by
  obtain ⟨j0, hj0, hpos⟩ := leftK_ends k
  have hjb : j0 ≤ k := by have := leftK_le k j0 hpos; omega
  refine ⟨⟨#[109]⟩ ++ digs k j0, fun w => ?_⟩
  have z0 : decide ((k : Int) ≤ 0) = false := by rw [decide_eq_false_iff_not]; omega
  have z00 : decide (k = 0) = false := by rw [decide_eq_false_iff_not]; omega
  have z01 : ¬ k = 0 := by omega
  obtain ⟨Y, hY⟩ : ∃ Y, (⟨#[109]⟩ : ByteArray) ++ digs k j0 = Y := ⟨_, rfl⟩
  rw [hY]
  have HY : Hid ((⟨#[109]⟩ : ByteArray) ++ digs k j0 = Y) := hY
  clear hY
  go_enter Tryz.func57, Tryz.ntmps57
  go_wp2_with fail
  go_loopw [0, 3] (fun t0 t3 wr => ∃ j : Nat, j ≤ j0 ∧ t0 = .int .i64 (leftK k j : Int) ∧ t3 = .string (digs k j) ∧ Below w.heap.size w wr) (fun t0 _ _ => (intOf t0).toNat)
  case atStart => exact ⟨0, Nat.zero_le _, rfl, rfl, Below.refl _ _⟩
  case round =>
    obtain ⟨j, hj, rfl, rfl, hbw⟩ := hrel
    have hKb : leftK k j ≤ 4000000 := by have := leftK_le k j (fun i hi => hpos i (by omega)); omega
    have hsz := digs_size k j
    by_cases hlt : j < j0
    · have hp := hpos j hlt
      have hnx : Hid (leftK k (j + 1) = leftK k j / 10) := rfl
      have hdx : Hid (digs k (j + 1) = ⟨#[UInt8.ofNat (48 + leftK k j % 10)]⟩ ++ digs k j) := rfl
      generalize leftK k j = K at hp hKb hnx hdx ⊢
      generalize hD : digs k j = D at hsz hdx ⊢
      have z1 : decide ((K : Int) > 0) = true := by rw [decide_eq_true_eq]; omega
      have z2 : decide ((0 : Int) < (K : Int)) = true := by rw [decide_eq_true_eq]; omega
      have z3 : decide (0 < K) = true := by rw [decide_eq_true_eq]; omega
      obtain ⟨d, hd⟩ : ∃ d, 48 + K % 10 = d := ⟨_, rfl⟩
      have hrow : Row (wr.alloc (.cells #[.int .u8 (48 + (K : Int) % 10)] 5)) wr.heap.size wr.heap.size 1 1 ([UInt8.ofNat d].map B) := by
        have e : [UInt8.ofNat d].map B = [.int .u8 (48 + (K : Int) % 10)] := by
          show [B (UInt8.ofNat d)] = _
          unfold B
          have h8 : ((UInt8.ofNat d).toNat : Int) = 48 + (K : Int) % 10 := by
            rw [UInt8.toNat_ofNat']; omega
          rw [h8]
        rw [e]
        exact Row.of_block (Nat.le_refl _) (heap_alloc_new wr (.cells #[.int .u8 (48 + (K : Int) % 10)] 5)) 1 (by simp) (.inl rfl)
      have hbn : Below w.heap.size w (wr.alloc (.cells #[.int .u8 (48 + (K : Int) % 10)] 5)) := hbw.alloc hbw.size _
      rw [hd] at hdx
      have z4 : ¬ (9223372036854775807 < (⟨[UInt8.ofNat d].toArray⟩ : ByteArray).size + D.size) := by show ¬ _ < 1 + _; omega
      have z5 : ¬ (9223372036854775807 < 1 + D.size) := by omega
      have z6 : ¬ (9223372036854775807 < (⟨#[UInt8.ofNat d]⟩ : ByteArray).size + D.size) := by show ¬ _ < 1 + _; omega
      clear hd hpos
      go_upto_region 5 with fail
      go_wp2_with (first | (refine wpList_string_row _ rfl (.tmp 12) 41 9 5 rfl wr.heap.size wr.heap.size 1 1 [UInt8.ofNat d] rfl hrow Tryz.underlying41 Tryz.underlying5 Tryz.underlying9 ?_))
      go_roundw
      case rel => exact ⟨j + 1, hlt, by rw [hnx.out]; rfl, by rw [hdx.out], hbn⟩
      case measure => simp [intOf]; omega
    · obtain rfl : j = j0 := by omega
      rw [hj0]
      have z4 : ¬ (9223372036854775807 < (⟨#[109]⟩ : ByteArray).size + (digs k j).size) := by show ¬ _ < 1 + _; omega
      have z5 : ¬ (9223372036854775807 < 1 + (digs k j).size) := by omega
      go_wp2_with fail
      go_ret
      exact ⟨by rw [← HY.out]; rfl, hbw⟩
end Go.Proofs.YtibjhkpgaaapaaaGreatDoor
