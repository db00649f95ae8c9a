import Derived.Test.YtfmpjlpakldheaaGreatDoorZpbf
import Derived.Test.YtfmpjlpakldheaaGreatDoorZpae
import Derived.Test.YtfmpjlpakldheaaGreatDoorZpax
import Derived.Test.YtfmpjlpakldheaaGreatDoorZpav
import Derived.Test.YtfmpjlpakldheaaGreatDoorZpbe
set_option maxRecDepth 100000
set_option maxHeartbeats 1000000
namespace Go.Proofs.YtfmpjlpakldheaaGreatDoor
open Tryz
open Go.RowKit Go.Proofs.Sha
structure OwnT (w : World) (xs : List ByteArray) (a : Option Addr) (m c : Nat) (W : World) : Prop where
 own : W.ownsRow w.heap.size 9 1 (.slice a m c) m (xs.map Value.string)
 bel : Below w.heap.size w W
 len : xs.length = m
theorem OwnT.below {w W W' : World} {xs : List ByteArray} {a : Option Addr} {m c : Nat} (h : OwnT w xs a m c W) (hb : Below W.heap.size W W') : OwnT w xs a m c W' :=
 ⟨ownG_kept h.own (fun q _ hq => hb.block q hq), h.bel.trans (hb.mono h.bel.size), h.len⟩
theorem OwnT.more {w W W' : World} {xs : List ByteArray} {a : Option Addr} {m c m' g cap : Nat} {y : ByteArray} {o : Obj} (h : OwnT w xs a m c W) (hown : W'.ownsRow w.heap.size 9 1 (.slice (some ⟨g, 0, none⟩) m' cap) m' (xs.map Value.string ++ [.string y])) (hgrow : (W.alloc o).grownBy W' (Value.slice a m c).ownBlock) (hm : m' = m + 1) : OwnT w (xs ++ [y]) (some ⟨g, 0, none⟩) m' cap W' := by
 have ha := h.below ((Below.refl W.heap.size W).alloc (Nat.le_refl _) o)
 refine ⟨by rw [List.map_append]; exact hown, ha.bel.grown hgrow ha.bel.size (fun q hq => (ownG_cells ha.own hq).1), by rw [List.length_append, h.len, hm]; rfl⟩
theorem OwnT.up {w w1 W : World} {xs : List ByteArray} {a : Option Addr} {m c : Nat} (h : OwnT w1 xs a m c W) (hb : Below w.heap.size w w1) : OwnT w xs a m c W :=
 ⟨ownG_mono h.own hb.size, hb.trans (h.bel.mono hb.size), h.len⟩
theorem takeT (xs : List ByteArray) (i : Nat) (h : i < xs.length) : xs.take (i + 1) = xs.take i ++ [xs.getD i ⟨#[]⟩] := by
 rw [List.take_add_one, List.getElem?_eq_getElem h]
 simp [List.getD_eq_getElem?_getD, List.getElem?_eq_getElem h]
theorem copyPool_any (n : Int) (a : Option Addr) (xs : List ByteArray) (c : Nat) (w : World) (h : SArg a xs w) :
 Calls prog 79 #[.agg #[.int .i64 n, .slice a xs.length c]] w fun e w' => ∃ a' c', e = .returned (.agg #[.int .i64 n, .slice a' xs.length c']) /\ OwnT w xs a' xs.length c' w' := by
 obtain ⟨i0, hi0, hz0, hz1, hz2⟩ := info_parts2 info9
 have hn := h.le
 obtain ⟨N, hN⟩ : ∃ N, xs.length = N := ⟨_, rfl⟩
 rw [hN] at hn ⊢
 have hNl : Hid (xs.length = N) := hN
 clear hN
 have hW : Below w.heap.size w (((w.alloc (.cells #[.int .i64 n, .slice a N c] 37)).alloc (.cells #[.int .i64 0, .slice none 0 0] 37)).alloc (.cells #[] 9)) := (((Below.refl _ _).alloc (Nat.le_refl _) _).alloc (by simp) _).alloc (by simp; omega) _
 have n2 := heap_alloc_new ((w.alloc (.cells #[.int .i64 n, .slice a N c] 37)).alloc (.cells #[.int .i64 0, .slice none 0 0] 37)) (.cells #[] 9)
 rw [World.size_alloc, World.size_alloc] at n2
 have n1 : ((w.alloc (.cells #[.int .i64 n, .slice a N c] 37)).alloc (.cells #[.int .i64 0, .slice none 0 0] 37)).heap[w.heap.size + 1]? = some (.cells #[.int .i64 0, .slice none 0 0] 37) := by
  have := heap_alloc_new (w.alloc (.cells #[.int .i64 n, .slice a N c] 37)) (.cells #[.int .i64 0, .slice none 0 0] 37)
  rw [World.size_alloc] at this
  exact this
 have n0 : ((w.alloc (.cells #[.int .i64 n, .slice a N c] 37)).alloc (.cells #[.int .i64 0, .slice none 0 0] 37)).heap[w.heap.size]? = some (.cells #[.int .i64 n, .slice a N c] 37) := (Below.heap_alloc (w.alloc (.cells #[.int .i64 n, .slice a N c] 37)) (.cells #[.int .i64 0, .slice none 0 0] 37) w.heap.size (by simp)).trans (heap_alloc_new w _)
 have n1' := (Below.heap_alloc ((w.alloc (.cells #[.int .i64 n, .slice a N c] 37)).alloc (.cells #[.int .i64 0, .slice none 0 0] 37)) (.cells #[] 9) (w.heap.size + 1) (by simp)).trans n1
 have n0' := (Below.heap_alloc ((w.alloc (.cells #[.int .i64 n, .slice a N c] 37)).alloc (.cells #[.int .i64 0, .slice none 0 0] 37)) (.cells #[] 9) w.heap.size (by simp; omega)).trans n0
 have hzz : (((w.alloc (.cells #[.int .i64 n, .slice a N c] 37)).alloc (.cells #[.int .i64 0, .slice none 0 0] 37)).alloc (.cells #[] 9)).heap.size = w.heap.size + 3 := by simp
 have hO : OwnT w [] (some ⟨w.heap.size + 1 + 1, 0, none⟩) 0 0 (((w.alloc (.cells #[.int .i64 n, .slice a N c] 37)).alloc (.cells #[.int .i64 0, .slice none 0 0] 37)).alloc (.cells #[] 9)) := ⟨⟨rfl, .inr ⟨_, 0, #[], rfl, by omega, n2, by simp⟩⟩, hW, rfl⟩
 clear n0 n1 n2
 go_enter func79, ntmps79
 go_wp2_with fail
 generalize ((w.alloc (.cells #[.int .i64 n, .slice a N c] 37)).alloc (.cells #[.int .i64 0, .slice none 0 0] 37)).alloc (.cells #[] 9) = W0 at hW n1' n0' hzz hO ⊢
 obtain ⟨gp, hgp⟩ : ∃ g, w.heap.size = g := ⟨_, rfl⟩
 rw [hgp] at n1' n0' hzz hO
 try rw [hgp]
 have hgl : w.heap.size <= gp := Nat.le_of_eq hgp
 clear hgp hzz
 go_loopw [3, 4] (fun t3 t4 wr => ∃ k : Nat, k <= N /\ t4 = .int .i64 (k : Int) /\ ∃ (a' : Option Addr) (m c' : Nat), t3 = .slice a' m c' /\ OwnT w (xs.take k) a' m c' wr /\ wr.heap[gp]? = some (.cells #[.int .i64 n, .slice a N c] 37) /\ wr.heap[gp + 1]? = some (.cells #[.int .i64 0, .slice none 0 0] 37)) (fun _ t4 _ => N - (intOf t4).toNat)
 case atStart => exact ⟨0, Nat.zero_le _, rfl, _, _, _, rfl, hO, n0', n1'⟩
 case round =>
  obtain ⟨k, hk, rfl, a', m, c', rfl, hT, m0, m1⟩ := hrel
  have p0 := ZC m0 0
  have p1 := ZC m0 1
  have own := hT.own
  have hbs := hT.bel.size
  by_cases hlt : k < N
  · have z1 : decide ((k : Int) < (N : Int)) = true := by simp; omega
    have hx0 : (0 : Int) <= (k : Int) := Int.natCast_nonneg _
    have hx1 : (k : Int) < (N : Int) := by omega
    obtain ⟨b1, off1, rfl, hbl1, hc⟩ := (h.below hT.bel).at_ (by rw [hNl.out]; omega)
    have hc1 := hc k (by rw [hNl.out]; exact hlt)
    have htk : Hid (xs.take (k + 1) = xs.take k ++ [xs.getD k ⟨#[]⟩]) := takeT xs k (by rw [hNl.out]; exact hlt)
    have hml : m <= 1048576 := by have := hT.len; rw [List.length_take] at this; omega
    generalize xs.getD k ⟨#[]⟩ = y at hc1 htk
    clear hc
    go_wp2_with (at_builtin; refine wpList_append_lies _ rfl (.tmp 13) (.tmp 19) 35 rfl w.heap.size 9 i0 (.string ⟨#[]⟩) 1 16 Tryz.underlying35 hi0 hz0 hz1 hz2 rfl (by decide) (.slice a' m c') m ((xs.take k).map Value.string) rfl (own.alloc _) ⟨wr.heap.size, 0, none⟩ 1 1 [.string y] rfl rfl (World.news_of_block (heap_alloc_new wr _)) (by simp [Value.oneCell']) (by decide) (by unfold maxLen; omega) (by omega) (by simp; omega) (wr.heap.size + 1) (by simp) ?_; intro g5 c5 w5 hown5 hgrow5 hat5 hlt5)
    go_roundw
    case rel =>
     have hk29 : ∀ (q : Nat) (cs : Array Value), wr.heap[q]? = some (.cells cs 37) -> w5.heap[q]? = some (.cells cs 37) := fun q cs hq => by
      have hql := (Array.getElem?_eq_some_iff.1 hq).1
      have hqa := (Below.heap_alloc wr (.cells #[.string y] 9) q hql).trans hq
      refine (hgrow5.block q (by simp; omega) (fun e => ?_)).trans hqa
      obtain ⟨_, _, cur, h4⟩ := ownG_cells (own.alloc (.cells #[.string y] 9)) e.symm
      exact ne_of_type hqa h4 (by decide) rfl
     exact ⟨k + 1, hlt, by go_num, _, _, _, rfl, by rw [htk.out]; exact hT.more hown5 hgrow5 rfl, hk29 _ _ m0, hk29 _ _ m1⟩
    case measure => simp [intOf]; omega
  · obtain rfl : k = N := by omega
    have z1 : decide ((k : Int) < (k : Int)) = false := by simp
    rw [List.take_of_length_le (by rw [hNl.out]; exact Nat.le_refl _)] at hT
    have hl := hT.len
    rw [hNl.out] at hl
    subst hl
    have q0 := ZC m1 0
    have q1 := ZC m1 1
    have fz : ∀ j, wr.frozen? ⟨gp + 1, j, none⟩ = false := fun j => by rw [World.frozen?, m1]; rfl
    have m2 := heap_setCell_same _ (gp + 1) 1 _ 37 (.slice a' k c') (heap_setCell_same _ (gp + 1) 0 _ 37 (.int .i64 n) m1)
    have hT2 : OwnT w xs a' k c' ((wr.setCell ⟨gp + 1, 0, none⟩ (.int .i64 n)).setCell ⟨gp + 1, 1, none⟩ (.slice a' k c')) := by
     have hb2 := (hT.bel.setCell (p := ⟨gp + 1, 0, none⟩) (by show w.heap.size <= gp + 1; omega) (.int .i64 n)).setCell (p := ⟨gp + 1, 1, none⟩) (by show w.heap.size <= gp + 1; omega) (.slice a' k c')
     refine ⟨ownG_kept hT.own (fun q hv hq => ?_), hb2, hT.len⟩
     obtain ⟨_, _, cur, h4⟩ := ownG_cells hT.own hv
     have hne : q ≠ gp + 1 := ne_of_type h4 m1 (by decide)
     rw [Below.heap_setCell _ _ _ _ (by show q ≠ gp + 1; exact hne), Below.heap_setCell _ _ _ _ (by show q ≠ gp + 1; exact hne)]
    clear hT own
    go_wp2_with fail
    exact retP Tryz.results79 rfl rfl m2 ⟨a', c', rfl, hT2⟩
abbrev svV (cd n : Int) (a : Option Addr) (m c : Nat) (root x y : ByteArray) : Value := .agg #[.int .i64 cd, .int .i64 n, .slice a m c, .string root, .string x, .string y]
def SVb (gs so sa : Nat) (cd : Int) (x y : ByteArray) (w : World) : Prop := w.heap[gs]? = some (.cells #[.pointer (some ⟨so, 0, none⟩), .pointer (some ⟨sa, 0, none⟩), .int .i64 cd, .string x, .string y] 172)
theorem SVb.below {gs so sa : Nat} {cd : Int} {x y : ByteArray} {w w' : World} (h : SVb gs so sa cd x y w) (hb : Below w.heap.size w w') : SVb gs so sa cd x y w' := (hb.block gs (Array.getElem?_eq_some_iff.1 h).1).trans h
def fst2 (wd : Nat) (ss ad : List ByteArray) (hash : ByteArray) : Option ByteArray := (firstI (hitB wd (ss ++ ad) hash) (ss.length + ad.length)).map fun i => (ss ++ ad).getD i ⟨#[]⟩
theorem fst2_old {wd : Nat} {ss ad : List ByteArray} {hash : ByteArray} {i : Nat} (h : firstI (hitB wd ss hash) ss.length = some i) : fst2 wd ss ad hash = some (ss.getD i ⟨#[]⟩) := by
 unfold fst2
 rw [firstI_two, h]
 simp only [Option.map_some, List.getD_eq_getElem?_getD, List.getElem?_append_left (firstI_lt h)]
theorem fst2_new {wd : Nat} {ss ad : List ByteArray} {hash : ByteArray} (h : firstI (hitB wd ss hash) ss.length = none) : fst2 wd ss ad hash = (firstI (hitB wd ad hash) ad.length).map fun i => ad.getD i ⟨#[]⟩ := by
 unfold fst2
 rw [firstI_two, h]
 cases firstI (hitB wd ad hash) ad.length with
 | none => rfl
 | some i => simp only [Option.map_some, List.getD_eq_getElem?_getD, List.getElem?_append_right (Nat.le_add_right ..), Nat.add_sub_cancel_left]
def encO : Option ByteArray -> ByteArray
 | some e => e
 | none => ⟨#[]⟩
theorem savFirst_any (gs so sa : Nat) (cd : Int) (x y : ByteArray) (wd : Nat) (ss ad : List ByteArray) (hash : ByteArray) (w : World) (hg : SVb gs so sa cd x y w)
 (H1 : Hid (∀ w', Below w.heap.size w w' -> ∀ fx, firstI (hitB wd ss hash) ss.length = fx -> Calls prog 178 #[.pointer (some ⟨so, 0, none⟩), .string hash] w' fun e w'' => e = .returned (.tuple #[.string (encAt ss fx), .bool fx.isSome]) /\ Below w'.heap.size w' w''))
 (H2 : Hid (∀ w', Below w.heap.size w w' -> ∀ fx, firstI (hitB wd ad hash) ad.length = fx -> Calls prog 178 #[.pointer (some ⟨sa, 0, none⟩), .string hash] w' fun e w'' => e = .returned (.tuple #[.string (encAt ad fx), .bool fx.isSome]) /\ Below w'.heap.size w' w'')) :
 Calls prog 170 #[.pointer (some ⟨gs, 0, none⟩), .string hash] w fun e w' => e = .returned (.tuple #[.string (encO (fst2 wd ss ad hash)), .bool (fst2 wd ss ad hash).isSome]) /\ Below w.heap.size w w' := by
 have c0 := ZC hg 0
 cases hf : firstI (hitB wd ss hash) ss.length with
 | some i =>
  rw [fst2_old hf]
  have HA := H1.out w (Below.refl _ _) _ hf
  have e1 : encAt ss (some i) = ss.getD i ⟨#[]⟩ := rfl
  have e2 : encO (some (ss.getD i ⟨#[]⟩)) = ss.getD i ⟨#[]⟩ := rfl
  rw [e1] at HA
  rw [e2]
  have hs1 : (some i).isSome = true := rfl
  have hs2 : (some (ss.getD i ⟨#[]⟩)).isSome = true := rfl
  rw [hs1] at HA
  rw [hs2]
  generalize ss.getD i ⟨#[]⟩ = u at HA ⊢
  clear H1 H2 hf e1 e2 hs1 hs2
  go_enter func170, ntmps170
  go_wp2_with fail
  refine HA.mono ?_
  rintro e w1 ⟨rfl, hb1⟩
  go_wp2_with fail
  go_ret2
  exact ⟨rfl, hb1⟩
 | none =>
  rw [fst2_new hf]
  have HA := H1.out w (Below.refl _ _) _ hf
  obtain ⟨fx, hfx⟩ : ∃ fx, firstI (hitB wd ad hash) ad.length = fx := ⟨_, rfl⟩
  rw [hfx]
  have HB : Hid (∀ w', Below w.heap.size w w' -> Calls prog 178 #[.pointer (some ⟨sa, 0, none⟩), .string hash] w' fun e w'' => e = .returned (.tuple #[.string (encAt ad fx), .bool fx.isSome]) /\ Below w'.heap.size w' w'') := fun w' hb => H2.out w' hb fx hfx
  have he : Hid (encO (fx.map fun i => ad.getD i ⟨#[]⟩) = encAt ad fx /\ (fx.map fun i => ad.getD i ⟨#[]⟩).isSome = fx.isSome) := by cases fx <;> exact ⟨rfl, rfl⟩
  rw [he.out.1, he.out.2]
  have e0 : encAt ss none = ⟨#[]⟩ := rfl
  have e1 : (none : Option Nat).isSome = false := rfl
  rw [e0, e1] at HA
  generalize encAt ad fx = u at HB ⊢
  generalize fx.isSome = v at HB ⊢
  clear H1 H2 hf he hfx e0 e1
  go_enter func170, ntmps170
  go_wp2_with fail
  refine HA.mono ?_
  rintro e w1 ⟨rfl, hb1⟩
  have c1 := ZC (hg.below hb1) 1
  go_wp2_with fail
  refine (HB.out _ hb1).mono ?_
  rintro e w2 ⟨rfl, hb2⟩
  go_wp2_with fail
  go_ret2
  exact ⟨rfl, hb1.trans (hb2.mono hb1.size)⟩
theorem savTake_same (gs tb : Nat) (enc hash : ByteArray) (w : World) (ht : tb < w.heap.size) (c37 : w.cell? ⟨tb, 37, none⟩ = some (.string enc)) (c38 : w.cell? ⟨tb, 38, none⟩ = some (.string hash))
 (HF : Hid (∀ w', Below w.heap.size w w' -> Calls prog 170 #[.pointer (some ⟨gs, 0, none⟩), .string hash] w' fun e w'' => e = .returned (.tuple #[.string enc, .bool true]) /\ Below w'.heap.size w' w'')) :
 Calls prog 156 #[.pointer (some ⟨gs, 0, none⟩), .pointer (some ⟨tb, 0, none⟩)] w fun e w' => e = .returned (.bool true) /\ Below w.heap.size w w' := by
 have z1 : (enc.toList == enc.toList) = true := by simp
 go_enter func156, ntmps156
 go_wp2_with fail
 refine (HF.out _ (Below.refl _ _)).mono ?_
 rintro e w1 ⟨rfl, hb1⟩
 have d37 := (hb1.cell (p := ⟨tb, 37, none⟩) ht).trans c37
 go_wp2_with fail
 go_ret
 exact ⟨rfl, hb1⟩
theorem savTake_clash (gs so sa tb : Nat) (x y enc hash u : ByteArray) (w : World) (hg : SVb gs so sa 0 x y w) (ht : tb < w.heap.size) (c37 : w.cell? ⟨tb, 37, none⟩ = some (.string enc)) (c38 : w.cell? ⟨tb, 38, none⟩ = some (.string hash)) (hne : u ≠ enc) (hts : tb ≠ gs) (T1 T2 : ByteArray)
 (HT1 : Hid (∀ w', Calls prog 102 #[.string u] w' fun e w'' => e = .returned (.string T1) /\ Below w'.heap.size w' w''))
 (HT2 : Hid (∀ w', Calls prog 102 #[.string enc] w' fun e w'' => e = .returned (.string T2) /\ Below w'.heap.size w' w''))
 (HF : Hid (∀ w', Below w.heap.size w w' -> Calls prog 170 #[.pointer (some ⟨gs, 0, none⟩), .string hash] w' fun e w'' => e = .returned (.tuple #[.string u, .bool true]) /\ Below w'.heap.size w' w'')) :
 Calls prog 156 #[.pointer (some ⟨gs, 0, none⟩), .pointer (some ⟨tb, 0, none⟩)] w fun e w' => e = .returned (.bool false) /\ SVb gs so sa 4 T1 T2 w' /\ Fr w.heap.size (fun q => q = gs) w w' := by
 have z1 : (u.toList == enc.toList) = false := by rw [ba_eq, decide_eq_false hne]
 go_enter func156, ntmps156
 go_wp2_with fail
 refine (HF.out _ (Below.refl _ _)).mono ?_
 rintro e w1 ⟨rfl, hb1⟩
 have d37 := (hb1.cell (p := ⟨tb, 37, none⟩) ht).trans c37
 have g1 := hg.below hb1
 have HS : Hid (∀ W', Below w1.heap.size w1 W' -> W'.cell? ⟨tb, 37, none⟩ = some (.string enc)) := fun W' hW' => (hW'.cell (p := ⟨tb, 37, none⟩) (Nat.lt_of_lt_of_le ht hb1.size)).trans d37
 have HK : Hid (∀ (W' : World) (o : Nat) (v : Value), tb < W'.heap.size -> W'.cell? ⟨tb, 37, none⟩ = some (.string enc) -> (W'.setCell ⟨gs, o, none⟩ v).cell? ⟨tb, 37, none⟩ = some (.string enc)) := fun W' o v hl hc => ((grownBy_setCell W' gs o v).cell_far ⟨tb, 37, none⟩ hl (by intro e; exact hts (Option.some.inj e))).trans hc
 have HG : Hid (∀ W', Below w1.heap.size w1 W' -> tb < W'.heap.size /\ W'.cell? ⟨gs, 2, none⟩ = some (.int .i64 0) /\ W'.cell? ⟨gs, 3, none⟩ = some (.string x) /\ W'.cell? ⟨gs, 4, none⟩ = some (.string y) /\ (∀ j, W'.frozen? ⟨gs, j, none⟩ = false) /\ SVb gs so sa 0 x y W') := fun W' hW' => by
  have g2 := g1.below hW'
  exact ⟨Nat.lt_of_lt_of_le ht (Nat.le_trans hb1.size hW'.size), ZC g2 2, ZC g2 3, ZC g2 4, fun j => by rw [World.frozen?, show W'.heap[gs]? = _ from g2]; rfl, g2⟩
 have hd1 : Below w1.heap.size w1 w1.drew := (Below.refl _ _).drew
 go_upto_region 6 with fail
 go_region_held3 (fun W => W.cell? ⟨tb, 37, none⟩ = some (.string enc)) (first | exact d37 | exact HS.out _ hb2' | exact HS.out _ hb3' | exact HK.out _ _ _ hl3 (HS.out _ hb3') | exact HK.out _ _ _ (by simpa using hl3) (HK.out _ _ _ hl3 (HS.out _ hb3')) | exact HK.out _ _ _ (by simpa using hl3) (HK.out _ _ _ (by simpa using hl3) (HK.out _ _ _ hl3 (HS.out _ hb3')))) (first | (go_at_call_of 102 (Value.string u); refine (HT1.out _).mono ?_; rintro e w2 ⟨rfl, hb2⟩; have hb2' := hd1.trans hb2) | (go_at_call_of 102 (Value.string enc); refine (HT2.out _).mono ?_; rintro e w3 ⟨rfl, hb3⟩; have hb3' := hb2'.trans (hb3.mono hb2'.size); obtain ⟨hl3, k2, k3, k4, kf, g3⟩ := HG.out _ hb3'))
 have g4 : SVb gs so sa 4 T1 T2 (((w3.setCell ⟨gs, 2, none⟩ (.int .i64 4)).setCell ⟨gs, 3, none⟩ (.string T1)).setCell ⟨gs, 4, none⟩ (.string T2)) := heap_setCell_same _ gs 4 _ 172 (.string T2) (heap_setCell_same _ gs 3 _ 172 (.string T1) (heap_setCell_same _ gs 2 _ 172 (.int .i64 4) g3))
 have f4 : Fr w.heap.size (fun q => q = gs) w (((w3.setCell ⟨gs, 2, none⟩ (.int .i64 4)).setCell ⟨gs, 3, none⟩ (.string T1)).setCell ⟨gs, 4, none⟩ (.string T2)) := (((Fr.of_below (hb1.trans (hb3'.mono hb1.size))).step (Fr.set1 _ 2 _)).step (Fr.set1 _ 3 _)).step (Fr.set1 _ 4 _)
 generalize ((w3.setCell ⟨gs, 2, none⟩ (.int .i64 4)).setCell ⟨gs, 3, none⟩ (.string T1)).setCell ⟨gs, 4, none⟩ (.string T2) = W4 at g4 f4 ⊢
 have r2 := ZC g4 2
 go_wp2_with fail
 go_ret
 exact ⟨rfl, g4, f4⟩
theorem savTake_full (gs so sa tb : Nat) (x y enc hash : ByteArray) (a1 a2 : Option Addr) (n1 n2 c1 c2 : Nat) (v1 v2 v3 v4 : Value) (w : World) (hg : SVb gs so sa 0 x y w) (ht : tb < w.heap.size) (c37 : w.cell? ⟨tb, 37, none⟩ = some (.string enc)) (c38 : w.cell? ⟨tb, 38, none⟩ = some (.string hash))
 (ho : w.heap[so]? = some (.cells #[.slice a1 n1 c1, v1, v2] 178)) (ha : w.heap[sa]? = some (.cells #[.slice a2 n2 c2, v3, v4] 178)) (hn1 : n1 <= 1048576) (hn2 : n2 <= 1048576) (hfull : 20000 <= n1 + n2)
 (HF : Hid (∀ w', Below w.heap.size w w' -> Calls prog 170 #[.pointer (some ⟨gs, 0, none⟩), .string hash] w' fun e w'' => e = .returned (.tuple #[.string ⟨#[]⟩, .bool false]) /\ Below w'.heap.size w' w'')) :
 Calls prog 156 #[.pointer (some ⟨gs, 0, none⟩), .pointer (some ⟨tb, 0, none⟩)] w fun e w' => e = .returned (.bool false) /\ SVb gs so sa 1 x y w' /\ Fr w.heap.size (fun q => q = gs) w w' := by
 have z1 : decide ((20000 : Int) <= (n1 : Int) + (n2 : Int)) = true := by rw [decide_eq_true_eq]; omega
 have z2 : ((n1 : Int) + (n2 : Int) ≥ 20000) := by omega
 go_enter func156, ntmps156
 go_wp2_with fail
 refine (HF.out _ (Below.refl _ _)).mono ?_
 rintro e w1 ⟨rfl, hb1⟩
 have d37 := (hb1.cell (p := ⟨tb, 37, none⟩) ht).trans c37
 have g1 := hg.below hb1
 have o1 := (hb1.block so (Array.getElem?_eq_some_iff.1 ho).1).trans ho
 have a1' := (hb1.block sa (Array.getElem?_eq_some_iff.1 ha).1).trans ha
 have q0 := ZC g1 0
 have q1 := ZC g1 1
 have q2 := ZC g1 2
 have qo := ZC o1 0
 have qa := ZC a1' 0
 have fz : ∀ j, w1.frozen? ⟨gs, j, none⟩ = false := fun j => by rw [World.frozen?, show w1.heap[gs]? = _ from g1]; rfl
 have hwr : IntKind.i64.wrap ((n1 : Int) + (n2 : Int)) = (n1 : Int) + (n2 : Int) := wrapI_in _ (by omega)
 go_upto_region 7 with fail
 go_region_held3 (fun W => W.cell? ⟨gs, 0, none⟩ = some (.pointer (some ⟨so, 0, none⟩)) /\ W.cell? ⟨gs, 1, none⟩ = some (.pointer (some ⟨sa, 0, none⟩)) /\ W.cell? ⟨so, 0, none⟩ = some (.slice a1 n1 c1) /\ W.cell? ⟨sa, 0, none⟩ = some (.slice a2 n2 c2)) (exact ⟨q0, q1, qo, qa⟩) (fail)
 go_wp2_with fail
 go_ret
 exact ⟨rfl, heap_setCell_same _ gs 2 _ 172 (.int .i64 1) g1, (Fr.of_below hb1.drew).step (Fr.set1 _ 2 _)⟩
theorem savTake_add (gs so sa tb : Nat) (x y enc hash : ByteArray) (a1 a2 : Option Addr) (n1 n2 c1 c2 : Nat) (v1 v2 v3 v4 : Value) (w : World) (hg : SVb gs so sa 0 x y w) (ht : tb < w.heap.size) (c37 : w.cell? ⟨tb, 37, none⟩ = some (.string enc)) (c38 : w.cell? ⟨tb, 38, none⟩ = some (.string hash))
 (ho : w.heap[so]? = some (.cells #[.slice a1 n1 c1, v1, v2] 178)) (ha : w.heap[sa]? = some (.cells #[.slice a2 n2 c2, v3, v4] 178)) (hn1 : n1 <= 1048576) (hn2 : n2 <= 1048576) (hroom : n1 + n2 < 20000) (R : World -> Prop)
 (HF : Hid (∀ w', Below w.heap.size w w' -> Calls prog 170 #[.pointer (some ⟨gs, 0, none⟩), .string hash] w' fun e w'' => e = .returned (.tuple #[.string ⟨#[]⟩, .bool false]) /\ Below w'.heap.size w' w''))
 (HA : Hid (∀ w', Below w.heap.size w w' -> Calls prog 112 #[.pointer (some ⟨sa, 0, none⟩), .string enc] w' fun e w'' => e = .returned (.tuple #[]) /\ SVb gs so sa 0 x y w'' /\ w''.cell? ⟨tb, 37, none⟩ = some (.string enc) /\ R w'')) :
 Calls prog 156 #[.pointer (some ⟨gs, 0, none⟩), .pointer (some ⟨tb, 0, none⟩)] w fun e w' => e = .returned (.bool true) /\ SVb gs so sa 0 x y w' /\ R w' := by
 have z1 : decide ((20000 : Int) <= (n1 : Int) + (n2 : Int)) = false := by rw [decide_eq_false_iff_not]; omega
 have z2 : ¬ ((n1 : Int) + (n2 : Int) ≥ 20000) := by omega
 go_enter func156, ntmps156
 go_wp2_with fail
 refine (HF.out _ (Below.refl _ _)).mono ?_
 rintro e w1 ⟨rfl, hb1⟩
 have d37 := (hb1.cell (p := ⟨tb, 37, none⟩) ht).trans c37
 have g1 := hg.below hb1
 have o1 := (hb1.block so (Array.getElem?_eq_some_iff.1 ho).1).trans ho
 have a1' := (hb1.block sa (Array.getElem?_eq_some_iff.1 ha).1).trans ha
 have q0 := ZC g1 0
 have q1 := ZC g1 1
 have q2 := ZC g1 2
 have qo := ZC o1 0
 have qa := ZC a1' 0
 have fz : ∀ j, w1.frozen? ⟨gs, j, none⟩ = false := fun j => by rw [World.frozen?, show w1.heap[gs]? = _ from g1]; rfl
 have hwr : IntKind.i64.wrap ((n1 : Int) + (n2 : Int)) = (n1 : Int) + (n2 : Int) := wrapI_in _ (by omega)
 go_upto_region 7 with fail
 go_region_held3 (fun W => W.cell? ⟨gs, 0, none⟩ = some (.pointer (some ⟨so, 0, none⟩)) /\ W.cell? ⟨gs, 1, none⟩ = some (.pointer (some ⟨sa, 0, none⟩)) /\ W.cell? ⟨so, 0, none⟩ = some (.slice a1 n1 c1) /\ W.cell? ⟨sa, 0, none⟩ = some (.slice a2 n2 c2)) (exact ⟨q0, q1, qo, qa⟩) (fail)
 have hb1d : Below w.heap.size w w1.drew := hb1.drew
 have hb1dd : Below w.heap.size w w1.drew.drew := hb1.drew.drew
 go_upto_region 2 with fail
 go_region_held3 (fun W => W.cell? ⟨gs, 1, none⟩ = some (.pointer (some ⟨sa, 0, none⟩)) /\ W.cell? ⟨tb, 37, none⟩ = some (.string enc)) (first | exact ⟨q1, d37⟩ | exact ⟨ZC g2 1, hc2⟩) (first | (go_at_call 112; refine (HA.out _ hb1dd).mono ?_; rintro e w2 ⟨rfl, g2, hc2, hR2⟩))
 have r2 := ZC g2 2
 clear q0 q1 q2 qo qa fz
 go_wp2_with fail
 go_ret
 exact ⟨rfl, g2, hR2⟩
def txt (e : ByteArray) : ByteArray := ⟨#[78]⟩ ++ e
theorem textOf_any (e : ByteArray) (w : World) (he : e.size <= 1048576) : Calls prog 102 #[.string e] w fun y w' => y = .returned (.string (txt e)) /\ w' = w := by
 have z : ¬ (9223372036854775807 < (⟨#[78]⟩ : ByteArray).size + e.size) := by show ¬ _ < 1 + e.size; omega
 have z' : ¬ (9223372036854775807 < 1 + e.size) := by omega
 unfold txt
 go_enter func102, ntmps102
 go_wp2_with fail
 go_ret
 exact ⟨rfl, rfl⟩
def SvM (gs sa ra : Nat) (q : Nat) : Prop := q = gs \/ q = sa \/ q = ra
def SmallE (ad : List ByteArray) : Prop := ad.length <= 20000 /\ ∀ j, (ad.getD j ⟨#[]⟩).size <= 1048576
def SvAt (gs so sa ra base wd : Nat) : SvR -> World -> Prop
 | .go ad, w => SVb gs so sa 0 ⟨#[]⟩ ⟨#[]⟩ w /\ (∃ a c, StockAt sa ra base wd ad a c w) /\ SmallE ad
 | .full, w => SVb gs so sa 1 ⟨#[]⟩ ⟨#[]⟩ w
 | .clash u e, w => SVb gs so sa 4 (txt u) (txt e) w
def SvR.isGo : SvR -> Bool
 | .go _ => true
 | _ => false
theorem svStep_some {wd : Nat} {ss ad : List ByteArray} {e u : ByteArray} (h : fst2 wd ss ad (hashT wd e) = some u) : svStep wd ss (.go ad) e = if u = e then .go ad else .clash u e := by
 unfold fst2 at h
 unfold svStep
 cases hf : firstI (hitB wd (ss ++ ad) (hashT wd e)) (ss.length + ad.length) with
 | none => rw [hf] at h; cases h
 | some i =>
  rw [hf] at h
  simp only [Option.map_some, Option.some.injEq] at h
  simp only [hf, h]
theorem svStep_none {wd : Nat} {ss ad : List ByteArray} {e : ByteArray} (h : fst2 wd ss ad (hashT wd e) = none) : svStep wd ss (.go ad) e = if 20000 <= ss.length + ad.length then .full else .go (ad ++ [e]) := by
 unfold fst2 at h
 unfold svStep
 cases hf : firstI (hitB wd (ss ++ ad) (hashT wd e)) (ss.length + ad.length) with
 | none => simp only [hf]
 | some i => rw [hf] at h; cases h
theorem fst2_small {wd : Nat} {ss ad : List ByteArray} {hash u : ByteArray} (h : fst2 wd ss ad hash = some u) (h1 : ∀ j, (ss.getD j ⟨#[]⟩).size <= 1048576) (h2 : ∀ j, (ad.getD j ⟨#[]⟩).size <= 1048576) : u.size <= 1048576 := by
 cases hf : firstI (hitB wd ss hash) ss.length with
 | some i => rw [fst2_old hf] at h; rw [<- Option.some.inj h]; exact h1 i
 | none =>
  rw [fst2_new hf] at h
  cases hg : firstI (hitB wd ad hash) ad.length with
  | none => rw [hg] at h; cases h
  | some i => rw [hg] at h; rw [<- Option.some.inj h]; exact h2 i
theorem SmallE.snoc {ad : List ByteArray} {e : ByteArray} (h : SmallE ad) (h1 : ad.length < 20000) (he : e.size <= 1048576) : SmallE (ad ++ [e]) := by
 refine ⟨by rw [List.length_append]; show ad.length + 1 <= _; omega, fun j => ?_⟩
 rw [List.getD_eq_getElem?_getD, List.getElem?_append]
 split
 · have := h.2 j
   rw [List.getD_eq_getElem?_getD] at this
   exact this
 · cases hx : ([e] : List ByteArray)[j - ad.length]? with
   | none => exact Nat.zero_le _
   | some y =>
    have : y ∈ [e] := List.mem_of_getElem? hx
    rw [List.mem_singleton] at this
    subst this
    exact he
theorem Fr.upd {N : Nat -> Prop} {w w' : World} (h : Fr w.heap.size N w w') : Upd N w w' :=
 ⟨h.os, h.tape, h.output, h.size, fun q hq hn => h.block q hq hn (fun x => by have := x.1; omega)⟩
theorem svTake_any (HH : Hid (HashSaid KTab)) (gs so sa ra base wd : Nat) (ss : List ByteArray) (ro bo : Nat) (ao : Option Addr) (co : Nat) (w4 : World) (hb4 : base = w4.heap.size)
 (hOld : Hid (∀ W, Upd (SvM gs sa ra) w4 W -> StockAt so ro bo wd ss ao co W)) (hKT : Hid (∀ W, Upd (SvM gs sa ra) w4 W -> KTab W)) (hs1 : ss.length <= 20000) (hs2 : ∀ j, (ss.getD j ⟨#[]⟩).size <= 1048576) (_hw1 : 1 <= wd) (hw2 : wd <= 32)
 (hn1 : gs < base) (hn2 : gs ≠ sa) (hn3 : gs ≠ ra) (tb : Nat) (x : PairT) (pl pr : Option Addr) (enc : ByteArray) (he : enc.size <= 10000) (hT : TB tb x pl pr (enc, hashT wd enc) w4) (hnt : ¬ SvM gs sa ra tb)
 (ad : List ByteArray) (W : World) (hU : Upd (SvM gs sa ra) w4 W) (hA : SvAt gs so sa ra base wd (.go ad) W) :
 Calls prog 156 #[.pointer (some ⟨gs, 0, none⟩), .pointer (some ⟨tb, 0, none⟩)] W fun e W' => e = .returned (.bool (svStep wd ss (.go ad) enc).isGo) /\ SvAt gs so sa ra base wd (svStep wd ss (.go ad) enc) W' /\ Upd (SvM gs sa ra) w4 W' := by
 obtain ⟨hg, ⟨a, c, hS⟩, hsm⟩ := hA
 have hTW : TB tb x pl pr (enc, hashT wd enc) W := hT.upd hU hnt
 have c37 := hTW.c37
 have c38 := hTW.c38
 have hO := hOld.out W hU
 have htb : tb < W.heap.size := hTW.lt
 have hhs : (hashT wd enc).size = wd := by
  show ((sha (78 :: enc.data.toList)).take wd).toArray.size = wd
  rw [List.size_toArray, List.length_take, sha_len32]; omega
 have H1 : Hid (∀ w', Below W.heap.size W w' -> ∀ fx, firstI (hitB wd ss (hashT wd enc)) ss.length = fx -> Calls prog 178 #[.pointer (some ⟨so, 0, none⟩), .string (hashT wd enc)] w' fun e w'' => e = .returned (.tuple #[.string (encAt ss fx), .bool fx.isSome]) /\ Below w'.heap.size w' w'') := fun w' hb fx hfx => stockFirst_any so ro bo wd ss ao co (hashT wd enc) w' (hO.below hb) hs2 (by omega) hw2 hhs fx hfx
 have H2 : Hid (∀ w', Below W.heap.size W w' -> ∀ fx, firstI (hitB wd ad (hashT wd enc)) ad.length = fx -> Calls prog 178 #[.pointer (some ⟨sa, 0, none⟩), .string (hashT wd enc)] w' fun e w'' => e = .returned (.tuple #[.string (encAt ad fx), .bool fx.isSome]) /\ Below w'.heap.size w' w'') := fun w' hb fx hfx => stockFirst_any sa ra base wd ad a c (hashT wd enc) w' (hS.below hb) hsm.2 (by have := hsm.1; omega) hw2 hhs fx hfx
 have HF : Hid (∀ w', Below W.heap.size W w' -> Calls prog 170 #[.pointer (some ⟨gs, 0, none⟩), .string (hashT wd enc)] w' fun e w'' => e = .returned (.tuple #[.string (encO (fst2 wd ss ad (hashT wd enc))), .bool (fst2 wd ss ad (hashT wd enc)).isSome]) /\ Below w'.heap.size w' w'') := fun w' hb => savFirst_any gs so sa 0 ⟨#[]⟩ ⟨#[]⟩ wd ss ad (hashT wd enc) w' (hg.below hb) (fun w2 hb2 => H1.out w2 (hb.trans (hb2.mono hb.size))) (fun w2 hb2 => H2.out w2 (hb.trans (hb2.mono hb.size)))
 cases hf : fst2 wd ss ad (hashT wd enc) with
 | some u =>
  rw [hf] at HF
  rw [svStep_some hf]
  have hu := fst2_small hf hs2 hsm.2
  by_cases e : u = enc
  · subst e
    rw [if_pos rfl]
    refine (savTake_same gs tb u (hashT wd u) W htb c37 c38 HF).mono ?_
    rintro e w' ⟨he, hb⟩
    exact ⟨he, ⟨hg.below hb, ⟨a, c, hS.below hb⟩, hsm⟩, hU.trans (Upd.of_below hb)⟩
  · rw [if_neg e]
    have HT1 : Hid (∀ w', Calls prog 102 #[.string u] w' fun e w'' => e = .returned (.string (txt u)) /\ Below w'.heap.size w' w'') := fun w' => (textOf_any u w' hu).mono (by rintro e w'' ⟨h1, rfl⟩; exact ⟨h1, Below.refl _ _⟩)
    have HT2 : Hid (∀ w', Calls prog 102 #[.string enc] w' fun e w'' => e = .returned (.string (txt enc)) /\ Below w'.heap.size w' w'') := fun w' => (textOf_any enc w' (by omega)).mono (by rintro e w'' ⟨h1, rfl⟩; exact ⟨h1, Below.refl _ _⟩)
    refine (savTake_clash gs so sa tb _ _ enc (hashT wd enc) u W hg htb c37 c38 e (fun q => hnt (.inl q)) _ _ HT1 HT2 HF).mono ?_
    rintro e w' ⟨he, hb, hfr⟩
    exact ⟨he, hb, hU.trans (hfr.upd.mono fun k hk => .inl hk)⟩
 | none =>
  rw [hf] at HF
  rw [svStep_none hf]
  by_cases hr : 20000 <= ss.length + ad.length
  · rw [if_pos hr]
    refine (savTake_full gs so sa tb _ _ enc (hashT wd enc) ao a _ _ co c _ _ _ _ W hg htb c37 c38 hO.blk hS.blk (by omega) (by have := hsm.1; omega) hr HF).mono ?_
    rintro e w' ⟨he, hb, hfr⟩
    exact ⟨he, hb, hU.trans (hfr.upd.mono fun k hk => .inl hk)⟩
  · rw [if_neg hr]
    have HA : Hid (∀ w', Below W.heap.size W w' -> Calls prog 112 #[.pointer (some ⟨sa, 0, none⟩), .string enc] w' fun e w'' => e = .returned (.tuple #[]) /\ SVb gs so sa 0 ⟨#[]⟩ ⟨#[]⟩ w'' /\ w''.cell? ⟨tb, 37, none⟩ = some (.string enc) /\ ((∃ a c, StockAt sa ra base wd (ad ++ [enc]) a c w'') /\ Upd (SvM gs sa ra) w4 w'')) := fun w' hb => by
     have hU' : Upd (SvM gs sa ra) w4 w' := hU.trans (Upd.of_below hb)
     refine (stockAdd_all HH (fun w1 w2 h1 h2 => KTab.below h1 h2) sa ra base wd ad a c enc w' (hS.below hb) (hKT.out _ hU') (by omega) hw2 (by have := hsm.1; omega)).mono ?_
     rintro e w'' ⟨a', c', he', hS', hbn, hbk⟩
     have hB0 := hbn 0 (Nat.zero_le _) (Nat.zero_le _)
     have hU2 : Upd (SvM gs sa ra) w4 w'' := ⟨hB0.os.trans hU'.os, hB0.tape.trans hU'.tape, hB0.output.trans hU'.output, Nat.le_trans hU'.size hB0.size, fun q hq hn => (hbk q (by omega) (fun e => hn (.inr (.inl e))) (fun e => hn (.inr (.inr e)))).trans (hU'.block q hq hn)⟩
     exact ⟨he', (hbk gs hn1 hn2 hn3).trans (hg.below hb), (hT.upd hU2 hnt).c37, ⟨a', c', hS'⟩, hU2⟩
    refine (savTake_add gs so sa tb _ _ enc (hashT wd enc) ao a _ _ co c _ _ _ _ W hg htb c37 c38 hO.blk hS.blk (by omega) (by have := hsm.1; omega) (by omega) (fun w'' => (∃ a c, StockAt sa ra base wd (ad ++ [enc]) a c w'') /\ Upd (SvM gs sa ra) w4 w'') HF HA).mono ?_
    rintro e w' ⟨he2, hb, hR, hU3⟩
    exact ⟨he2, ⟨hb, hR, hsm.snoc (by omega) (by omega)⟩, hU3⟩
end Go.Proofs.YtfmpjlpakldheaaGreatDoor
