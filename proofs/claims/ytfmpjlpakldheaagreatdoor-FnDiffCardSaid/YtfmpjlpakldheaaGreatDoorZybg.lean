import Derived.Test.YtfmpjlpakldheaaGreatDoorZyat
import Derived.Test.YtfmpjlpakldheaaGreatDoorZybf
import Derived.Test.YtfmpjlpakldheaaGreatDoorZyaq
import Derived.Test.YtfmpjlpakldheaaGreatDoorZyaw
import Derived.Test.YtfmpjlpakldheaaGreatDoorZyba
import Derived.Test.YtfmpjlpakldheaaGreatDoorZybc
import Derived.Deep.RegionLaw
namespace Go.Proofs.YtfmpjlpakldheaaGreatDoor
open Go.RowKit Go.Proofs.Sha

theorem ownG_cells {w : World} {base g n t z : Nat} {v : Value} {xs : List Value} (h : w.ownsRow base t z v n xs) (hv : v.ownBlock = some g) : base ≤ g ∧ g < w.heap.size ∧ ∃ cur, w.heap[g]? = some (.cells cur t (0, 0)) := by
  rcases h.2 with ⟨rfl, _⟩ | ⟨g', cap, cur, rfl, hb, hg, _⟩
  · cases hv
  · obtain rfl : g' = g := Option.some.inj hv
    exact ⟨hb, (Array.getElem?_eq_some_iff.1 hg).1, cur, hg⟩
theorem ownG_kept {w w' : World} {base n t z : Nat} {v : Value} {xs : List Value} (h : w.ownsRow base t z v n xs) (hk : ∀ g, v.ownBlock = some g → g < w.heap.size → w'.heap[g]? = w.heap[g]?) : w'.ownsRow base t z v n xs := by
  refine ⟨h.1, ?_⟩
  rcases h.2 with ⟨h1, h2⟩ | ⟨g, cap, cur, hv, hb, hg, rest⟩
  · exact .inl ⟨h1, h2⟩
  · exact .inr ⟨g, cap, cur, hv, hb, (hk g (by rw [hv]; rfl) (Array.getElem?_eq_some_iff.1 hg).1).trans hg, rest⟩
theorem ownG_mono {w : World} {base base' n t z : Nat} {v : Value} {xs : List Value} (h : w.ownsRow base t z v n xs) (hb : base' ≤ base) : w.ownsRow base' t z v n xs := by
  refine ⟨h.1, ?_⟩
  rcases h.2 with ⟨h1, h2⟩ | ⟨g, cap, cur, hv, hg, rest⟩
  · exact .inl ⟨h1, h2⟩
  · exact .inr ⟨g, cap, cur, hv, Nat.le_trans hb hg, rest⟩
/-- Changes, as cells. -/
def chL (x : ChT) : List Value := [.string x.1, .bool x.2.1, .string x.2.2.1, .bool x.2.2.2.1, .string x.2.2.2.2]
def flatC : List ChT → List Value
  | [] => []
  | x :: xs => chL x ++ flatC xs
theorem flatC_app : ∀ l m : List ChT, flatC (l ++ m) = flatC l ++ flatC m
  | [], _ => rfl
  | x :: l, m => by rw [List.cons_append, flatC, flatC, flatC_app l m, List.append_assoc]
theorem info115 : (Tryz.prog.info? 62).map (fun i => (i.zero, i.size, i.bytes)) = some (some (.agg #[.string ⟨#[]⟩, .bool false, .string ⟨#[]⟩, .bool false, .string ⟨#[]⟩]), 5, 64) := by kernel_rfl
structure OwnC (w : World) (xs : List ChT) (a : Option Addr) (m c : Nat) (W : World) : Prop where
  own : W.ownsRow w.heap.size 62 5 (.slice a m c) m (flatC xs)
  bel : Below w.heap.size w W
  len : xs.length = m
theorem OwnC.below {w W W' : World} {xs : List ChT} {a : Option Addr} {m c : Nat} (h : OwnC w xs a m c W) (hb : Below W.heap.size W W') : OwnC w xs a m c W' :=
  ⟨ownG_kept h.own (fun q _ hq => hb.block q hq), h.bel.trans (hb.mono h.bel.size), h.len⟩
theorem OwnC.more {w W W' : World} {xs : List ChT} {a : Option Addr} {m c m' g cap : Nat} {y : ChT} {o : Obj} (h : OwnC w xs a m c W) (hown : W'.ownsRow w.heap.size 62 5 (.slice (some ⟨g, 0, none⟩) m' cap) m' (flatC xs ++ chL y)) (hgrow : (W.alloc o).grownBy W' (Value.slice a m c).ownBlock) (hm : m' = m + 1) : OwnC w (xs ++ [y]) (some ⟨g, 0, none⟩) m' cap W' := by
  have ha := h.below ((Below.refl W.heap.size W).alloc (Nat.le_refl _) o)
  refine ⟨by rw [flatC_app]; show W'.ownsRow _ _ _ _ _ (flatC xs ++ (chL y ++ [])); rw [List.append_nil]; exact hown, ha.bel.grown hgrow ha.bel.size (fun q hq => (ownG_cells ha.own hq).1), by rw [List.length_append, h.len, hm]; rfl⟩
theorem OwnC.up {w w1 W : World} {xs : List ChT} {a : Option Addr} {m c : Nat} (h : OwnC w1 xs a m c W) (hb : Below w.heap.size w w1) : OwnC w xs a m c W :=
  ⟨ownG_mono h.own hb.size, hb.trans (h.bel.mono hb.size), h.len⟩
theorem OwnC.nil (w : World) : OwnC w [] (some ⟨w.heap.size, 0, none⟩) 0 0 (w.alloc (.cells #[] 62)) :=
  ⟨⟨rfl, .inr ⟨w.heap.size, 0, #[], rfl, (Nat.le_refl _), (heap_alloc_new w _), by simp [flatC]⟩⟩, (Below.refl _ _).alloc (Nat.le_refl _) _, rfl⟩
theorem OwnC.none (w : World) : OwnC w [] Option.none 0 0 w := ⟨⟨rfl, .inl ⟨rfl, rfl⟩⟩, Below.refl _ _, rfl⟩
/-- What a function that makes changes answers. -/
def ChAt (xs : List ChT) (w : World) (e : Ending) (w' : World) : Prop := ∃ a c, e = .returned (.slice a xs.length c) ∧ OwnC w xs a xs.length c w'
/-- Pairs whose texts are in bounds. -/
def Bd (L : List PairT) : Prop := ∀ p ∈ L, p.1.size ≤ 1048576 ∧ p.2.size ≤ 1048576
theorem Bd.small {L : List PairT} (h : Bd L) (hl : L.length ≤ 1048576) : SmallP L := by
  refine ⟨hl, fun j => ?_⟩
  by_cases hj : j < L.length
  · rw [List.getD_eq_getElem?_getD, List.getElem?_eq_getElem hj, Option.getD_some]
    exact h _ (List.getElem_mem hj)
  · rw [pget_out _ _ (by omega)]
    exact ⟨Nat.zero_le _, Nat.zero_le _⟩
theorem mem_ins' {k v : ByteArray} {x : PairT} : ∀ {ps : List PairT}, x ∈ ins k v ps → x = (k, v) ∨ x ∈ ps
  | [], h => by simpa [ins] using h
  | p :: ps, h => by
    rw [ins] at h
    split at h
    · simpa using h
    · rcases List.mem_cons.1 h with h | h
      · exact .inr (by rw [h]; exact List.mem_cons_self)
      · rcases mem_ins' h with h | h
        · exact .inl h
        · exact .inr (List.mem_cons_of_mem _ h)
theorem Bd.wth {L : List PairT} (h : Bd L) {k v : ByteArray} (hk : k.size ≤ 1048576) (hv : v.size ≤ 1048576) : Bd (wth L k v) := fun p hp => by
  rcases mem_ins' hp with e | e
  · rw [e]; exact ⟨hk, hv⟩
  · exact h p (List.mem_filter.1 e).1
theorem wth_len (L : List PairT) (k v : ByteArray) : (wth L k v).length ≤ L.length + 1 := by
  have hi : ∀ l : List PairT, (ins k v l).length = l.length + 1 := fun l => by
    induction l with
    | nil => rfl
    | cons p l ih => rw [ins]; split <;> simp [ih]
  unfold Proofs.YtfmpjlpakldheaaGreatDoor.wth
  rw [hi]
  have := wout_le L k
  omega
theorem uni_take (ps qs : List PairT) (k : Nat) (h : k < qs.length) : uni ps (qs.take (k + 1)) = wth (uni ps (qs.take k)) (qs.getD k noPair).1 ⟨#[]⟩ := by
  unfold uni
  rw [take_getD qs k h, List.foldl_append]
  rfl
theorem uni_len (ps qs : List PairT) : (uni ps qs).length ≤ ps.length + qs.length := by
  unfold uni
  induction qs generalizing ps with
  | nil => exact Nat.le_refl _
  | cons q qs ih =>
    rw [List.foldl_cons]
    have h1 := ih (wth ps q.1 ⟨#[]⟩)
    have h2 := wth_len ps q.1 ⟨#[]⟩
    rw [List.length_cons]
    omega
end Go.Proofs.YtfmpjlpakldheaaGreatDoor
namespace Go.Proofs.YtfmpjlpakldheaaGreatDoor
open Go.RowKit Go.Proofs.Sha

/-- Texts of the call's own, while they are put together. -/
structure OwnT (w : World) (xs : List ByteArray) (a : Option Addr) (m c : Nat) (W : World) : Prop where
  own : W.ownsRow w.heap.size 9 1 (.slice a m c) m (xs.map Value.string)
  bel : Below w.heap.size w W
  len : xs.length = m
theorem OwnT.below {w W W' : World} {xs : List ByteArray} {a : Option Addr} {m c : Nat} (h : OwnT w xs a m c W) (hb : Below W.heap.size W W') : OwnT w xs a m c W' :=
  ⟨ownG_kept h.own (fun q _ hq => hb.block q hq), h.bel.trans (hb.mono h.bel.size), h.len⟩
theorem OwnT.more {w W W' : World} {xs : List ByteArray} {a : Option Addr} {m c m' g cap : Nat} {y : ByteArray} {o : Obj} (h : OwnT w xs a m c W) (hown : W'.ownsRow w.heap.size 9 1 (.slice (some ⟨g, 0, none⟩) m' cap) m' (xs.map Value.string ++ [.string y])) (hgrow : (W.alloc o).grownBy W' (Value.slice a m c).ownBlock) (hm : m' = m + 1) : OwnT w (xs ++ [y]) (some ⟨g, 0, none⟩) m' cap W' := by
  have ha := h.below ((Below.refl W.heap.size W).alloc (Nat.le_refl _) o)
  refine ⟨by rw [List.map_append]; exact hown, ha.bel.grown hgrow ha.bel.size (fun q hq => (ownG_cells ha.own hq).1), by rw [List.length_append, h.len, hm]; rfl⟩
theorem OwnT.up {w w1 W : World} {xs : List ByteArray} {a : Option Addr} {m c : Nat} (h : OwnT w1 xs a m c W) (hb : Below w.heap.size w w1) : OwnT w xs a m c W :=
  ⟨ownG_mono h.own hb.size, hb.trans (h.bel.mono hb.size), h.len⟩
theorem takeT (xs : List ByteArray) (i : Nat) (h : i < xs.length) : xs.take (i + 1) = xs.take i ++ [xs.getD i ⟨#[]⟩] := by
  rw [List.take_add_one, List.getElem?_eq_getElem h]
  simp [List.getD_eq_getElem?_getD, List.getElem?_eq_getElem h]
set_option maxRecDepth 100000 in
set_option maxHeartbeats 1000000 in
theorem copyPool_any (n : Int) (a : Option Addr) (xs : List ByteArray) (c : Nat) (w : World) (h : SArg a xs w) :
    Calls Tryz.prog 79 #[.agg #[.int .i64 n, .slice a xs.length c]] w fun e w' => ∃ a' c', e = .returned (.agg #[.int .i64 n, .slice a' xs.length c']) ∧ OwnT w xs a' xs.length c' w' := by
  obtain ⟨i0, hi0, hz0, hz1, hz2⟩ := info_parts2 info9
  have hn := h.le
  obtain ⟨N, hN⟩ : ∃ N, xs.length = N := ⟨_, rfl⟩
  rw [hN] at hn ⊢
  have hNl : Hid (xs.length = N) := hN
  clear hN
  have hW : Below w.heap.size w (((w.alloc (.cells #[.int .i64 n, .slice a N c] 37)).alloc (.cells #[.int .i64 0, .slice none 0 0] 37)).alloc (.cells #[] 9)) := (((Below.refl _ _).alloc (Nat.le_refl _) _).alloc (by simp) _).alloc (by simp; omega) _
  have n2 := heap_alloc_new ((w.alloc (.cells #[.int .i64 n, .slice a N c] 37)).alloc (.cells #[.int .i64 0, .slice none 0 0] 37)) (.cells #[] 9)
  rw [World.size_alloc, World.size_alloc] at n2
  have n1 : ((w.alloc (.cells #[.int .i64 n, .slice a N c] 37)).alloc (.cells #[.int .i64 0, .slice none 0 0] 37)).heap[w.heap.size + 1]? = some (.cells #[.int .i64 0, .slice none 0 0] 37) := by
    have := heap_alloc_new (w.alloc (.cells #[.int .i64 n, .slice a N c] 37)) (.cells #[.int .i64 0, .slice none 0 0] 37)
    rw [World.size_alloc] at this
    exact this
  have n0 : ((w.alloc (.cells #[.int .i64 n, .slice a N c] 37)).alloc (.cells #[.int .i64 0, .slice none 0 0] 37)).heap[w.heap.size]? = some (.cells #[.int .i64 n, .slice a N c] 37) := (Below.heap_alloc (w.alloc (.cells #[.int .i64 n, .slice a N c] 37)) (.cells #[.int .i64 0, .slice none 0 0] 37) w.heap.size (by simp)).trans (heap_alloc_new w _)
  have n1' := (Below.heap_alloc ((w.alloc (.cells #[.int .i64 n, .slice a N c] 37)).alloc (.cells #[.int .i64 0, .slice none 0 0] 37)) (.cells #[] 9) (w.heap.size + 1) (by simp)).trans n1
  have n0' := (Below.heap_alloc ((w.alloc (.cells #[.int .i64 n, .slice a N c] 37)).alloc (.cells #[.int .i64 0, .slice none 0 0] 37)) (.cells #[] 9) w.heap.size (by simp; omega)).trans n0
  have hzz : (((w.alloc (.cells #[.int .i64 n, .slice a N c] 37)).alloc (.cells #[.int .i64 0, .slice none 0 0] 37)).alloc (.cells #[] 9)).heap.size = w.heap.size + 3 := by simp
  have hO : OwnT w [] (some ⟨w.heap.size + 1 + 1, 0, none⟩) 0 0 (((w.alloc (.cells #[.int .i64 n, .slice a N c] 37)).alloc (.cells #[.int .i64 0, .slice none 0 0] 37)).alloc (.cells #[] 9)) := ⟨⟨rfl, .inr ⟨_, 0, #[], rfl, by omega, n2, by simp⟩⟩, hW, rfl⟩
  clear n0 n1 n2
  go_enter Tryz.func79, Tryz.ntmps79
  go_wp2_with fail
  generalize ((w.alloc (.cells #[.int .i64 n, .slice a N c] 37)).alloc (.cells #[.int .i64 0, .slice none 0 0] 37)).alloc (.cells #[] 9) = W0 at hW n1' n0' hzz hO ⊢
  obtain ⟨gp, hgp⟩ : ∃ g, w.heap.size = g := ⟨_, rfl⟩
  rw [hgp] at n1' n0' hzz hO
  try rw [hgp]
  have hgl : w.heap.size ≤ gp := Nat.le_of_eq hgp
  clear hgp hzz
  go_loopw [3, 4] (fun t3 t4 wr => ∃ k : Nat, k ≤ N ∧ t4 = .int .i64 (k : Int) ∧ ∃ (a' : Option Addr) (m c' : Nat), t3 = .slice a' m c' ∧ OwnT w (xs.take k) a' m c' wr ∧ wr.heap[gp]? = some (.cells #[.int .i64 n, .slice a N c] 37) ∧ wr.heap[gp + 1]? = some (.cells #[.int .i64 0, .slice none 0 0] 37)) (fun _ t4 _ => N - (intOf t4).toNat)
  case atStart => exact ⟨0, Nat.zero_le _, rfl, _, _, _, rfl, hO, n0', n1'⟩
  case round =>
    obtain ⟨k, hk, rfl, a', m, c', rfl, hT, m0, m1⟩ := hrel
    have p0 := Lib.cell_of_heap m0 0
    have p1 := Lib.cell_of_heap m0 1
    have own := hT.own
    have hbs := hT.bel.size
    by_cases hlt : k < N
    · have z1 : decide ((k : Int) < (N : Int)) = true := by simp; omega
      have hx0 : (0 : Int) ≤ (k : Int) := Int.natCast_nonneg _
      have hx1 : (k : Int) < (N : Int) := by omega
      obtain ⟨b1, off1, rfl, hbl1, hc⟩ := (h.below hT.bel).at_ (by rw [hNl.out]; omega)
      have hc1 := hc k (by rw [hNl.out]; exact hlt)
      have htk : Hid (xs.take (k + 1) = xs.take k ++ [xs.getD k ⟨#[]⟩]) := takeT xs k (by rw [hNl.out]; exact hlt)
      have hml : m ≤ 1048576 := by have := hT.len; rw [List.length_take] at this; omega
      generalize xs.getD k ⟨#[]⟩ = y at hc1 htk
      clear hc
      go_wp2_with (at_builtin; refine wpList_append_lies _ rfl (.tmp 13) (.tmp 19) 35 rfl w.heap.size 9 i0 (.string ⟨#[]⟩) 1 16 Tryz.underlying35 hi0 hz0 hz1 hz2 rfl (by decide) (.slice a' m c') m ((xs.take k).map Value.string) rfl (own.alloc _) ⟨wr.heap.size, 0, none⟩ 1 1 [.string y] rfl rfl (World.news_of_block (heap_alloc_new wr _)) (by simp [Value.oneCell']) (by decide) (by unfold maxLen; omega) (by omega) (by simp; omega) (wr.heap.size + 1) (by simp) ?_; intro g5 c5 w5 hown5 hgrow5 hat5 hlt5)
      go_roundw
      case rel =>
        have hk29 : ∀ (q : Nat) (cs : Array Value), wr.heap[q]? = some (.cells cs 37) → w5.heap[q]? = some (.cells cs 37) := fun q cs hq => by
          have hql := (Array.getElem?_eq_some_iff.1 hq).1
          have hqa := (Below.heap_alloc wr (.cells #[.string y] 9) q hql).trans hq
          refine (hgrow5.block q (by simp; omega) (fun e => ?_)).trans hqa
          obtain ⟨_, _, cur, h4⟩ := ownG_cells (own.alloc (.cells #[.string y] 9)) e.symm
          exact ne_of_type hqa h4 (by decide) rfl
        exact ⟨k + 1, hlt, by go_num, _, _, _, rfl, by rw [htk.out]; exact hT.more hown5 hgrow5 rfl, hk29 _ _ m0, hk29 _ _ m1⟩
      case measure => simp [intOf]; omega
    · obtain rfl : k = N := by omega
      have z1 : decide ((k : Int) < (k : Int)) = false := by simp
      rw [List.take_of_length_le (by rw [hNl.out]; exact Nat.le_refl _)] at hT
      have hl := hT.len
      rw [hNl.out] at hl
      subst hl
      have q0 := Lib.cell_of_heap m1 0
      have q1 := Lib.cell_of_heap m1 1
      have fz : ∀ j, wr.frozen? ⟨gp + 1, j, none⟩ = false := fun j => by rw [World.frozen?, m1]; rfl
      have m2 := heap_setCell_same _ (gp + 1) 1 _ 37 (.slice a' k c') (heap_setCell_same _ (gp + 1) 0 _ 37 (.int .i64 n) m1)
      have hT2 : OwnT w xs a' k c' ((wr.setCell ⟨gp + 1, 0, none⟩ (.int .i64 n)).setCell ⟨gp + 1, 1, none⟩ (.slice a' k c')) := by
        have hb2 := (hT.bel.setCell (p := ⟨gp + 1, 0, none⟩) (by show w.heap.size ≤ gp + 1; omega) (.int .i64 n)).setCell (p := ⟨gp + 1, 1, none⟩) (by show w.heap.size ≤ gp + 1; omega) (.slice a' k c')
        refine ⟨ownG_kept hT.own (fun q hv hq => ?_), hb2, hT.len⟩
        obtain ⟨_, _, cur, h4⟩ := ownG_cells hT.own hv
        have hne : q ≠ gp + 1 := ne_of_type h4 m1 (by decide)
        rw [Below.heap_setCell _ _ _ _ (by show q ≠ gp + 1; exact hne), Below.heap_setCell _ _ _ _ (by show q ≠ gp + 1; exact hne)]
      clear hT own
      go_wp2_with fail
      exact retP Tryz.results79 rfl rfl m2 ⟨a', c', rfl, hT2⟩
end Go.Proofs.YtfmpjlpakldheaaGreatDoor
namespace Go.Proofs.YtfmpjlpakldheaaGreatDoor
open Go.RowKit Go.Proofs.Sha

end Go.Proofs.YtfmpjlpakldheaaGreatDoor
namespace Go.Proofs.YtfmpjlpakldheaaGreatDoor
open Go.RowKit Go.Proofs.Sha

/-- What Save answers, as a value. -/
abbrev svV (cd n : Int) (a : Option Addr) (m c : Nat) (root x y : ByteArray) : Value := .agg #[.int .i64 cd, .int .i64 n, .slice a m c, .string root, .string x, .string y]
end Go.Proofs.YtfmpjlpakldheaaGreatDoor
namespace Go.Proofs.YtfmpjlpakldheaaGreatDoor
open Go.RowKit Go.Proofs.Sha

end Go.Proofs.YtfmpjlpakldheaaGreatDoor
namespace Go.Proofs.YtfmpjlpakldheaaGreatDoor
open Go.RowKit Go.Proofs.Sha

/-- The first encoding of a hash, in the old stock or in what is added. -/
def fst2 (wd : Nat) (ss ad : List ByteArray) (hash : ByteArray) : Option ByteArray := (firstI (hitB wd (ss ++ ad) hash) (ss.length + ad.length)).map fun i => (ss ++ ad).getD i ⟨#[]⟩
end Go.Proofs.YtfmpjlpakldheaaGreatDoor
namespace Go.Proofs.YtfmpjlpakldheaaGreatDoor
open Go.RowKit Go.Proofs.Sha

end Go.Proofs.YtfmpjlpakldheaaGreatDoor
namespace Go.Proofs.YtfmpjlpakldheaaGreatDoor
open Go.RowKit Go.Proofs.Sha

end Go.Proofs.YtfmpjlpakldheaaGreatDoor
namespace Go.Proofs.YtfmpjlpakldheaaGreatDoor
open Go.RowKit Go.Proofs.Sha

end Go.Proofs.YtfmpjlpakldheaaGreatDoor
namespace Go.Proofs.YtfmpjlpakldheaaGreatDoor
open Go.RowKit Go.Proofs.Sha

/-- What is hashed of an encoding. -/
def txt (e : ByteArray) : ByteArray := ⟨#[78]⟩ ++ e
end Go.Proofs.YtfmpjlpakldheaaGreatDoor
namespace Go.Proofs.YtfmpjlpakldheaaGreatDoor
open Go.RowKit Go.Proofs.Sha

def SvR.isGo : SvR → Bool
  | .go _ => true
  | _ => false
theorem svStep_some {wd : Nat} {ss ad : List ByteArray} {e u : ByteArray} (h : fst2 wd ss ad (hashT wd e) = some u) : svStep wd ss (.go ad) e = if u = e then .go ad else .clash u e := by
  unfold fst2 at h
  unfold svStep
  cases hf : firstI (hitB wd (ss ++ ad) (hashT wd e)) (ss.length + ad.length) with
  | none => rw [hf] at h; cases h
  | some i =>
    rw [hf] at h
    simp only [Option.map_some, Option.some.injEq] at h
    simp only [hf, h]
theorem svStep_none {wd : Nat} {ss ad : List ByteArray} {e : ByteArray} (h : fst2 wd ss ad (hashT wd e) = none) : svStep wd ss (.go ad) e = if 20000 ≤ ss.length + ad.length then .full else .go (ad ++ [e]) := by
  unfold fst2 at h
  unfold svStep
  cases hf : firstI (hitB wd (ss ++ ad) (hashT wd e)) (ss.length + ad.length) with
  | none => simp only [hf]
  | some i => rw [hf] at h; cases h
end Go.Proofs.YtfmpjlpakldheaaGreatDoor
namespace Go.Proofs.YtfmpjlpakldheaaGreatDoor
open Go.RowKit Go.Proofs.Sha

theorem sv_stuck (wd : Nat) (ss : List ByteArray) : ∀ (es : List ByteArray) (r : SvR), r.isGo = false → es.foldl (svStep wd ss) r = r
  | [], _, _ => rfl
  | e :: es, r, h => by
    rw [List.foldl_cons]
    have : svStep wd ss r e = r := by
      cases r with
      | go ad => cases h
      | full => rfl
      | clash u x => rfl
    rw [this]
    exact sv_stuck wd ss es r h
end Go.Proofs.YtfmpjlpakldheaaGreatDoor
namespace Go.Proofs.YtfmpjlpakldheaaGreatDoor
open Go.RowKit Go.Proofs.Sha

theorem OwnT.set {w W : World} {xs : List ByteArray} {a : Option Addr} {m c g o : Nat} {cs : Array Value} (h : OwnT w xs a m c W) (hg : W.heap[g]? = some (.cells cs 37)) (hge : w.heap.size ≤ g) (u : Value) : OwnT w xs a m c (W.setCell ⟨g, o, none⟩ u) :=
  ⟨ownG_kept h.own (fun q hv _ => Below.heap_setCell _ _ _ _ (by show q ≠ g; intro e; subst e; obtain ⟨_, _, cur, h9⟩ := ownG_cells h.own hv; rw [hg] at h9; simp at h9)), h.bel.setCell (p := ⟨g, o, none⟩) hge _, h.len⟩
end Go.Proofs.YtfmpjlpakldheaaGreatDoor
namespace Go.Proofs.YtfmpjlpakldheaaGreatDoor
open Go.RowKit Go.Proofs.Sha

end Go.Proofs.YtfmpjlpakldheaaGreatDoor
namespace Go.Proofs.YtfmpjlpakldheaaGreatDoor
open Go.RowKit Go.Proofs.Sha

/-- What Save, Put and Del answer. -/
structure SvO where
  cd : Int
  n : Int
  xs : List ByteArray
  root : ByteArray
  x : ByteArray
  y : ByteArray
/-- A code alone. -/
def codeO (c : Int) : SvO := ⟨c, 0, [], ⟨#[]⟩, ⟨#[]⟩, ⟨#[]⟩⟩
def svOut (wd : Nat) (ss : List ByteArray) (root : ByteArray) : SvR → SvO
  | .go ad => ⟨0, (wd : Int), ss ++ ad, root, ⟨#[]⟩, ⟨#[]⟩⟩
  | .full => codeO 1
  | .clash u e => ⟨4, (wd : Int), ss, ⟨#[]⟩, txt u, txt e⟩
def SavedIs (o : SvO) (we : World) (e : Ending) (w' : World) : Prop := ∃ a c, e = .returned (svV o.cd o.n a o.xs.length c o.root o.x o.y) ∧ OwnT we o.xs a o.xs.length c w'
theorem OwnT.nil {w W : World} (h : Below w.heap.size w W) : OwnT w [] none 0 0 W := ⟨World.ownsRow_nil _ _ _ _, h, rfl⟩
set_option maxRecDepth 100000 in
theorem retS {fn : Func} {R : Ending → World → Prop} {A : Act} {p : Tmp} {gb : Nat} {cd n : Int} {a : Option Addr} {m c : Nat} {root x y : ByteArray} {W : World} (hres : fn.results = #[.cell p 40]) (hp : A.tmps.getD p undef = .pointer (some ⟨gb, 0, none⟩)) (hd : A.defers = []) (hn : W.heap[gb]? = some (.cells #[.int .i64 cd, .int .i64 n, .slice a m c, .string root, .string x, .string y] 40))
    (h : R (.returned (svV cd n a m c root x y)) W) : bodyPost Tryz.prog fn R Exit.ret A W := by
  have c0 := Lib.cell_of_heap hn 0
  have c1 := Lib.cell_of_heap hn 1
  have c2 := Lib.cell_of_heap hn 2
  have c3 := Lib.cell_of_heap hn 3
  have c4 := Lib.cell_of_heap hn 4
  have c5 := Lib.cell_of_heap hn 5
  have hp' : A.tmps[p]?.getD undef = .pointer (some ⟨gb, 0, none⟩) := by simpa using hp
  refine bodyPost_ret (v := svV cd n a m c root x y) ?_ hd h
  simp [results, hres, go_sem, asAddr, hp', c0, c1, c2, c3, c4, c5]
/-- The block of a Saved. -/
def SB (g : Nat) (cd n : Int) (a : Option Addr) (m c : Nat) (root x y : ByteArray) (W : World) : Prop := W.heap[g]? = some (.cells #[.int .i64 cd, .int .i64 n, .slice a m c, .string root, .string x, .string y] 40)
/-- Six stores into it. -/
def set6 (W : World) (g : Nat) (cd n : Int) (a : Option Addr) (m c : Nat) (root x y : ByteArray) : World := (((((W.setCell ⟨g, 0, none⟩ (.int .i64 cd)).setCell ⟨g, 1, none⟩ (.int .i64 n)).setCell ⟨g, 2, none⟩ (.slice a m c)).setCell ⟨g, 3, none⟩ (.string root)).setCell ⟨g, 4, none⟩ (.string x)).setCell ⟨g, 5, none⟩ (.string y)
theorem SB.all {g : Nat} {cd n : Int} {a : Option Addr} {m c : Nat} {root x y : ByteArray} {W : World} (h : SB g cd n a m c root x y W) (cd' n' : Int) (a' : Option Addr) (m' c' : Nat) (root' x' y' : ByteArray) : SB g cd' n' a' m' c' root' x' y' (set6 W g cd' n' a' m' c' root' x' y') :=
  heap_setCell_same _ g 5 _ 40 (.string y') (heap_setCell_same _ g 4 _ 40 (.string x') (heap_setCell_same _ g 3 _ 40 (.string root') (heap_setCell_same _ g 2 _ 40 (.slice a' m' c') (heap_setCell_same _ g 1 _ 40 (.int .i64 n') (heap_setCell_same _ g 0 _ 40 (.int .i64 cd') h)))))
theorem SB.at {g : Nat} {cd n : Int} {a : Option Addr} {m c : Nat} {root x y : ByteArray} {W : World} (h : SB g cd n a m c root x y W) : W.cell? ⟨g, 0, none⟩ = some (.int .i64 cd) ∧ W.cell? ⟨g, 1, none⟩ = some (.int .i64 n) ∧ W.cell? ⟨g, 2, none⟩ = some (.slice a m c) ∧ W.cell? ⟨g, 3, none⟩ = some (.string root) ∧ W.cell? ⟨g, 4, none⟩ = some (.string x) ∧ W.cell? ⟨g, 5, none⟩ = some (.string y) ∧ ∀ j, W.frozen? ⟨g, j, none⟩ = false :=
  ⟨Lib.cell_of_heap h 0, Lib.cell_of_heap h 1, Lib.cell_of_heap h 2, Lib.cell_of_heap h 3, Lib.cell_of_heap h 4, Lib.cell_of_heap h 5, fun j => by rw [World.frozen?, show W.heap[g]? = _ from h]; rfl⟩
theorem OwnT.set6 {w W : World} {xs : List ByteArray} {a0 : Option Addr} {m0 c0 : Nat} {g : Nat} {cs : Array Value} (h : OwnT w xs a0 m0 c0 W) (hg : W.heap[g]? = some (.cells cs 40)) (hge : w.heap.size ≤ g) (cd n : Int) (a : Option Addr) (m c : Nat) (root x y : ByteArray) : OwnT w xs a0 m0 c0 (set6 W g cd n a m c root x y) := by
  refine ⟨ownG_kept h.own (fun q hv hq => ?_), (((((h.bel.setCell (p := ⟨g, 0, none⟩) hge _).setCell (p := ⟨g, 1, none⟩) hge _).setCell (p := ⟨g, 2, none⟩) hge _).setCell (p := ⟨g, 3, none⟩) hge _).setCell (p := ⟨g, 4, none⟩) hge _).setCell (p := ⟨g, 5, none⟩) hge _, h.len⟩
  have hne : q ≠ g := by
    intro e; subst e; obtain ⟨_, _, cur, h9⟩ := ownG_cells h.own hv; rw [hg] at h9; simp at h9
  unfold Proofs.YtfmpjlpakldheaaGreatDoor.set6
  rw [Below.heap_setCell _ _ _ _ (by show q ≠ g; exact hne), Below.heap_setCell _ _ _ _ (by show q ≠ g; exact hne), Below.heap_setCell _ _ _ _ (by show q ≠ g; exact hne), Below.heap_setCell _ _ _ _ (by show q ≠ g; exact hne), Below.heap_setCell _ _ _ _ (by show q ≠ g; exact hne), Below.heap_setCell _ _ _ _ (by show q ≠ g; exact hne)]
end Go.Proofs.YtfmpjlpakldheaaGreatDoor
namespace Go.Proofs.YtfmpjlpakldheaaGreatDoor
open Go.RowKit Go.Proofs.Sha

/-- What Save of a map into a pool that is one answers. -/
def savO (wd : Nat) (ss : List ByteArray) (t : Tr PairT) : SvO := svOut wd ss (rootT wd t) (svAll wd ss (encsT wd t))
def saveO (n : Int) (ss : List ByteArray) (ps : List PairT) : SvO := if (poolOk n ss.length && isMapT ps) = true then savO n.toNat ss (cutTree ps) else codeO 1
theorem SavedIs.code {c : Int} {w : World} {g : Nat} {W : World} (hb : Below w.heap.size w W) (hg : SB g 0 0 none 0 0 ⟨#[]⟩ ⟨#[]⟩ ⟨#[]⟩ W) (hge : w.heap.size ≤ g) : SavedIs (codeO c) w (.returned (svV c 0 none 0 0 ⟨#[]⟩ ⟨#[]⟩ ⟨#[]⟩)) (set6 W g c 0 none 0 0 ⟨#[]⟩ ⟨#[]⟩ ⟨#[]⟩) :=
  ⟨none, 0, rfl, (OwnT.nil hb).set6 hg hge c 0 none 0 0 ⟨#[]⟩ ⟨#[]⟩ ⟨#[]⟩⟩
end Go.Proofs.YtfmpjlpakldheaaGreatDoor
namespace Go.Proofs.YtfmpjlpakldheaaGreatDoor
open Go.RowKit Go.Proofs.Sha

theorem encsT_size (wd : Nat) : ∀ (t : Tr PairT), ∀ e ∈ encsT wd t, e.size ≤ 10000
  | .nil, e, h => by cases h
  | .node l x r, e, h => by
    rw [encsT, List.mem_append, List.mem_append] at h
    rcases h with (h | h) | h
    · exact encsT_size wd l e h
    · exact encsT_size wd r e h
    · rw [List.mem_singleton] at h
      rw [h]
      exact (encS_size x.1 x.2 (rootT wd l) (rootT wd r) wd).1
theorem row_sarg {W : World} {base g n c : Nat} {xs : List ByteArray} (h : Row W base g n c (xs.map Value.string)) (hl : xs.length ≤ 1048576) (hs : ∀ j, (xs.getD j ⟨#[]⟩).size ≤ 1048576) : SArg (some ⟨g, 0, none⟩) xs W := by
  have hn : n = xs.length := by have := h.len; rw [List.length_map] at this; exact this.symm
  subst hn
  refine ⟨hl, hs, fun _ => ⟨g, 0, rfl, h.lt, fun j hj => ?_⟩⟩
  rw [Nat.zero_add, h.cell j hj, List.getElem?_map, List.getElem?_eq_getElem hj, List.getD_eq_getElem?_getD, List.getElem?_eq_getElem hj]
  rfl
theorem same_hit (wd : Nat) (X : List ByteArray) (H : ByteArray) : firstI (sameB (X.map (hashT wd)) H) X.length = firstI (hitB wd X H) X.length :=
  firstI_congr fun j hj => by
    unfold sameB hitB
    rw [← hashT_hit]
    congr 2
    rw [List.getD_eq_getElem?_getD, List.getD_eq_getElem?_getD, List.getElem?_map, List.getElem?_eq_getElem hj]
    rfl
/-- What the model's Save holds, between two encodings. -/
structure MS (w : World) (gp go ge wd : Nat) (a : Option Addr) (N c K ce : Nat) (es xs ys : List ByteArray) (gh ch : Nat) (ao : Option Addr) (co : Nat) (W : World) : Prop where
  par : W.heap[gp]? = some (.cells #[.int .i64 (wd : Int), .slice a N c] 37)
  res : SB (gp + 1) 0 0 none 0 0 ⟨#[]⟩ ⟨#[]⟩ ⟨#[]⟩ W
  out : W.heap[go]? = some (.cells #[.int .i64 (wd : Int), .slice ao xs.length co] 37)
  own : OwnT w xs ao xs.length co W
  hs : Row W w.heap.size gh ys.length ch ((ys.map (hashT wd)).map Value.string)
  enc : Row W w.heap.size ge K ce (es.map Value.string)
  n1 : gh ≠ gp ∧ gh ≠ gp + 1 ∧ gh ≠ go ∧ gh ≠ ge
  n2 : ge ≠ gp ∧ ge ≠ gp + 1 ∧ ge ≠ go
  n3 : ∀ g, (Value.slice ao xs.length co).ownBlock = some g → g ≠ gh ∧ g ≠ ge
  n4 : go ≠ gp ∧ w.heap.size ≤ go
section
variable {w : World} {gp go ge wd : Nat} {a : Option Addr} {N c K ce : Nat} {es xs ys : List ByteArray} {gh ch : Nat} {ao : Option Addr} {co : Nat} {W : World}
theorem MS.below (h : MS w gp go ge wd a N c K ce es xs ys gh ch ao co W) {W' : World} (hb : Below W.heap.size W W') : MS w gp go ge wd a N c K ce es xs ys gh ch ao co W' :=
  ⟨pblk_below hb h.par, pblk_below hb h.res, pblk_below hb h.out, h.own.below hb, h.hs.below hb, h.enc.below hb, h.n1, h.n2, h.n3, h.n4⟩
theorem MS.notOwn (h : MS w gp go ge wd a N c K ce es xs ys gh ch ao co W) {q : Nat} {cs : Array Value} {t : TypeId} (hq : W.heap[q]? = some (.cells cs t)) (ht : t ≠ 9) : some q ≠ (Value.slice ao xs.length co).ownBlock := fun e => by
  obtain ⟨_, _, cur, h9⟩ := ownG_cells h.own.own e.symm
  rw [hq] at h9
  simp at h9
  exact ht h9.2
theorem MS.addOut (h : MS w gp go ge wd a N c K ce es xs ys gh ch ao co W) {w4 : World} {o : Obj} {g4 c4 : Nat} {y : ByteArray} (hown : w4.ownsRow w.heap.size 9 1 (.slice (some ⟨g4, 0, none⟩) (xs.length + 1) c4) (xs.length + 1) (xs.map Value.string ++ [.string y])) (hgrow : (W.alloc o).grownBy w4 (Value.slice ao xs.length co).ownBlock) (hat : (Value.slice ao xs.length co).ownBlock = some g4 ∨ g4 = W.heap.size + 1) :
    MS w gp go ge wd a N c K ce es (xs ++ [y]) ys gh ch (some ⟨g4, 0, none⟩) c4 (w4.setCell ⟨go, 1, none⟩ (.slice (some ⟨g4, 0, none⟩) (xs.length + 1) c4)) := by
  have hlen : (xs ++ [y]).length = xs.length + 1 := by rw [List.length_append]; rfl
  have hblk : ∀ {q : Nat} {cs : Array Value} {t : TypeId}, W.heap[q]? = some (.cells cs t) → t ≠ 9 → w4.heap[q]? = some (.cells cs t) := fun {q cs t} hq ht => by
    have hl := (Array.getElem?_eq_some_iff.1 hq).1
    exact (hgrow.block q (by simp; omega) (h.notOwn hq ht)).trans ((Below.heap_alloc W o q hl).trans hq)
  have hrow : ∀ {g n' c' : Nat} {vs : List Value}, Row W w.heap.size g n' c' vs → some g ≠ (Value.slice ao xs.length co).ownBlock → g ≠ go → Row (w4.setCell ⟨go, 1, none⟩ (.slice (some ⟨g4, 0, none⟩) (xs.length + 1) c4)) w.heap.size g n' c' vs := fun {g n' c' vs} hr hn hg => ((hr.alloc o).kept hgrow hn).kept (grownBy_setCell w4 go 1 _) (fun e => hg (Option.some.inj e))
  have hT4 : OwnT w (xs ++ [y]) (some ⟨g4, 0, none⟩) (xs.length + 1) c4 w4 := h.own.more hown hgrow rfl
  have ho4 := hblk h.out (by decide)
  refine ⟨(Below.heap_setCell _ _ _ _ (by show gp ≠ go; exact fun e => h.n4.1 e.symm)).trans (hblk h.par (by decide)), ?_, by rw [hlen]; exact heap_setCell_same w4 go 1 _ 37 _ ho4, by rw [hlen]; exact hT4.set ho4 h.n4.2 _, hrow h.hs (fun e => (h.n3 _ e.symm).1 rfl) h.n1.2.2.1, hrow h.enc (fun e => (h.n3 _ e.symm).2 rfl) h.n2.2.2, h.n1, h.n2, ?_, h.n4⟩
  · have hne : gp + 1 ≠ go := fun e => by
      have h1 : W.heap[gp + 1]? = _ := h.res
      rw [e, h.out] at h1
      simp at h1
    exact (Below.heap_setCell _ _ _ _ (by show gp + 1 ≠ go; exact hne)).trans (hblk h.res (by decide))
  · intro g hg
    have hg' : g4 = g := Option.some.inj hg
    subst hg'
    rcases hat with q | q
    · exact h.n3 _ q
    · have l1 := h.hs.lt
      have l2 := h.enc.lt
      omega
theorem MS.addHash (h : MS w gp go ge wd a N c K ce es xs ys gh ch ao co W) {w6 : World} {o : Obj} {g6 c6 : Nat} {y : ByteArray} (hr : Row w6 w.heap.size g6 (ys.length + 1) c6 ((ys.map (hashT wd)).map Value.string ++ [.string (hashT wd y)])) (hgrow : (W.alloc o).grownBy w6 (some gh)) (hat : g6 = gh ∨ g6 = W.heap.size + 1) :
    MS w gp go ge wd a N c K ce es xs (ys ++ [y]) g6 c6 ao co w6 := by
  have hlen : (ys ++ [y]).length = ys.length + 1 := by rw [List.length_append]; rfl
  have hblk : ∀ {q : Nat} {cs : Array Value} {t : TypeId}, W.heap[q]? = some (.cells cs t) → q ≠ gh → w6.heap[q]? = some (.cells cs t) := fun {q cs t} hq hn => by
    have hl := (Array.getElem?_eq_some_iff.1 hq).1
    exact (hgrow.block q (by simp; omega) (fun e => hn (Option.some.inj e))).trans ((Below.heap_alloc W o q hl).trans hq)
  have hz := h.hs.ge
  have l2 := h.enc.lt
  have l3 := (Array.getElem?_eq_some_iff.1 h.par).1
  have l4 := (Array.getElem?_eq_some_iff.1 (show W.heap[gp + 1]? = _ from h.res)).1
  have l5 := (Array.getElem?_eq_some_iff.1 h.out).1
  have n1 := h.n1
  have n2 := h.n2
  refine ⟨hblk h.par (fun e => n1.1 e.symm), hblk h.res (fun e => n1.2.1 e.symm), hblk h.out (fun e => n1.2.2.1 e.symm), ⟨ownG_kept h.own.own (fun q hv hq => ?_), ?_, h.own.len⟩, by rw [hlen, List.map_append, List.map_append]; exact hr, (h.enc.alloc o).kept hgrow (fun e => n1.2.2.2 (Option.some.inj e).symm), ?_, n2, fun g hg => ⟨?_, (h.n3 g hg).2⟩, h.n4⟩
  · exact (hgrow.block q (by simp; omega) (fun e => (h.n3 q hv).1 (Option.some.inj e))).trans (Below.heap_alloc W o q hq)
  · have hbA : Below w.heap.size w (W.alloc o) := h.own.bel.alloc h.own.bel.size o
    exact hbA.trans (below_of_grown hgrow hz hbA.size)
  · rcases hat with q | q <;> omega
  · have l6 := (ownG_cells h.own.own hg).2.1
    have := (h.n3 g hg).1
    rcases hat with q | q <;> omega
end
end Go.Proofs.YtfmpjlpakldheaaGreatDoor
