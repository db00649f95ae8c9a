import Derived.Test.YtmfhfehemoeeeaaGreatDoorZsbd
import Derived.Test.YtmfhfehemoeeeaaGreatDoorZsbj
import Derived.Test.YtmfhfehemoeeeaaGreatDoorZsbc
import Derived.Test.YtmfhfehemoeeeaaGreatDoorZsbf
set_option maxRecDepth 100000
set_option maxHeartbeats 1000000
namespace Go.Proofs.YtmfhfehemoeeeaaGreatDoor
open Go.RowKit Go.Proofs.Sha

theorem ownG_cells {w : World} {base g n t z : Nat} {v : Value} {xs : List Value} (h : w.ownsRow base t z v n xs) (hv : v.ownBlock = some g) : base ≤ g ∧ g < w.heap.size ∧ ∃ cur, w.heap[g]? = some (.cells cur t (0, 0)) := by
  rcases h.2 with ⟨rfl, _⟩ | ⟨g', cap, cur, rfl, hb, hg, _⟩
  · cases hv
  · obtain rfl : g' = g := Option.some.inj hv
    exact ⟨hb, (Array.getElem?_eq_some_iff.1 hg).1, cur, hg⟩
theorem ownG_kept {w w' : World} {base n t z : Nat} {v : Value} {xs : List Value} (h : w.ownsRow base t z v n xs) (hk : ∀ g, v.ownBlock = some g → g < w.heap.size → w'.heap[g]? = w.heap[g]?) : w'.ownsRow base t z v n xs := by
  refine ⟨h.1, ?_⟩
  rcases h.2 with ⟨h1, h2⟩ | ⟨g, cap, cur, hv, hb, hg, rest⟩
  · exact .inl ⟨h1, h2⟩
  · exact .inr ⟨g, cap, cur, hv, hb, (hk g (by rw [hv]; rfl) (Array.getElem?_eq_some_iff.1 hg).1).trans hg, rest⟩
theorem ownG_mono {w : World} {base base' n t z : Nat} {v : Value} {xs : List Value} (h : w.ownsRow base t z v n xs) (hb : base' ≤ base) : w.ownsRow base' t z v n xs := by
  refine ⟨h.1, ?_⟩
  rcases h.2 with ⟨h1, h2⟩ | ⟨g, cap, cur, hv, hg, rest⟩
  · exact .inl ⟨h1, h2⟩
  · exact .inr ⟨g, cap, cur, hv, Nat.le_trans hb hg, rest⟩
theorem mem_ins' {k v : ByteArray} {x : PairT} : ∀ {ps : List PairT}, x ∈ ins k v ps → x = (k, v) ∨ x ∈ ps
  | [], h => by simpa [ins] using h
  | p :: ps, h => by
    rw [ins] at h
    split at h
    · simpa using h
    · rcases List.mem_cons.1 h with h | h
      · exact .inr (by rw [h]; exact List.mem_cons_self)
      · rcases mem_ins' h with h | h
        · exact .inl h
        · exact .inr (List.mem_cons_of_mem _ h)
theorem wth_len (L : List PairT) (k v : ByteArray) : (wth L k v).length ≤ L.length + 1 := by
  have hi : ∀ l : List PairT, (ins k v l).length = l.length + 1 := fun l => by
    induction l with
    | nil => rfl
    | cons p l ih => rw [ins]; split <;> simp [ih]
  unfold Proofs.YtmfhfehemoeeeaaGreatDoor.wth
  rw [hi]
  have := wout_le L k
  omega
/-- Texts of the call's own, while they are put together. -/
structure OwnT (w : World) (xs : List ByteArray) (a : Option Addr) (m c : Nat) (W : World) : Prop where
  own : W.ownsRow w.heap.size 9 1 (.slice a m c) m (xs.map Value.string)
  bel : Below w.heap.size w W
  len : xs.length = m
theorem OwnT.below {w W W' : World} {xs : List ByteArray} {a : Option Addr} {m c : Nat} (h : OwnT w xs a m c W) (hb : Below W.heap.size W W') : OwnT w xs a m c W' :=
  ⟨ownG_kept h.own (fun q _ hq => hb.block q hq), h.bel.trans (hb.mono h.bel.size), h.len⟩
theorem OwnT.more {w W W' : World} {xs : List ByteArray} {a : Option Addr} {m c m' g cap : Nat} {y : ByteArray} {o : Obj} (h : OwnT w xs a m c W) (hown : W'.ownsRow w.heap.size 9 1 (.slice (some ⟨g, 0, none⟩) m' cap) m' (xs.map Value.string ++ [.string y])) (hgrow : (W.alloc o).grownBy W' (Value.slice a m c).ownBlock) (hm : m' = m + 1) : OwnT w (xs ++ [y]) (some ⟨g, 0, none⟩) m' cap W' := by
  have ha := h.below ((Below.refl W.heap.size W).alloc (Nat.le_refl _) o)
  refine ⟨by rw [List.map_append]; exact hown, ha.bel.grown hgrow ha.bel.size (fun q hq => (ownG_cells ha.own hq).1), by rw [List.length_append, h.len, hm]; rfl⟩
theorem OwnT.up {w w1 W : World} {xs : List ByteArray} {a : Option Addr} {m c : Nat} (h : OwnT w1 xs a m c W) (hb : Below w.heap.size w w1) : OwnT w xs a m c W :=
  ⟨ownG_mono h.own hb.size, hb.trans (h.bel.mono hb.size), h.len⟩
theorem takeT (xs : List ByteArray) (i : Nat) (h : i < xs.length) : xs.take (i + 1) = xs.take i ++ [xs.getD i ⟨#[]⟩] := by
  rw [List.take_add_one, List.getElem?_eq_getElem h]
  simp [List.getD_eq_getElem?_getD, List.getElem?_eq_getElem h]
/-- What Save answers, as a value. -/
abbrev svV (cd n : Int) (a : Option Addr) (m c : Nat) (root x y : ByteArray) : Value := .agg #[.int .i64 cd, .int .i64 n, .slice a m c, .string root, .string x, .string y]
/-- A saving's block. -/
def SVb (gs so sa : Nat) (cd : Int) (x y : ByteArray) (w : World) : Prop := w.heap[gs]? = some (.cells #[.pointer (some ⟨so, 0, none⟩), .pointer (some ⟨sa, 0, none⟩), .int .i64 cd, .string x, .string y] 94)
theorem SVb.below {gs so sa : Nat} {cd : Int} {x y : ByteArray} {w w' : World} (h : SVb gs so sa cd x y w) (hb : Below w.heap.size w w') : SVb gs so sa cd x y w' := (hb.block gs (Array.getElem?_eq_some_iff.1 h).1).trans h
/-- The first encoding of a hash, in the old stock or in what is added. -/
def fst2 (wd : Nat) (ss ad : List ByteArray) (hash : ByteArray) : Option ByteArray := (firstI (hitB wd (ss ++ ad) hash) (ss.length + ad.length)).map fun i => (ss ++ ad).getD i ⟨#[]⟩
theorem fst2_old {wd : Nat} {ss ad : List ByteArray} {hash : ByteArray} {i : Nat} (h : firstI (hitB wd ss hash) ss.length = some i) : fst2 wd ss ad hash = some (ss.getD i ⟨#[]⟩) := by
  unfold fst2
  rw [firstI_two, h]
  simp only [Option.map_some, List.getD_eq_getElem?_getD, List.getElem?_append_left (firstI_lt h)]
theorem fst2_new {wd : Nat} {ss ad : List ByteArray} {hash : ByteArray} (h : firstI (hitB wd ss hash) ss.length = none) : fst2 wd ss ad hash = (firstI (hitB wd ad hash) ad.length).map fun i => ad.getD i ⟨#[]⟩ := by
  unfold fst2
  rw [firstI_two, h]
  cases firstI (hitB wd ad hash) ad.length with
  | none => rfl
  | some i => simp only [Option.map_some, List.getD_eq_getElem?_getD, List.getElem?_append_right (Nat.le_add_right ..), Nat.add_sub_cancel_left]
def encO : Option ByteArray → ByteArray
  | some e => e
  | none => ⟨#[]⟩
theorem savFirst_any (gs so sa : Nat) (cd : Int) (x y : ByteArray) (wd : Nat) (ss ad : List ByteArray) (hash : ByteArray) (w : World) (hg : SVb gs so sa cd x y w)
    (H1 : Hid (∀ w', Below w.heap.size w w' → ∀ fx, firstI (hitB wd ss hash) ss.length = fx → Calls Tryz.prog 105 #[.pointer (some ⟨so, 0, none⟩), .string hash] w' fun e w'' => e = .returned (.tuple #[.string (encAt ss fx), .bool fx.isSome]) ∧ Below w'.heap.size w' w''))
    (H2 : Hid (∀ w', Below w.heap.size w w' → ∀ fx, firstI (hitB wd ad hash) ad.length = fx → Calls Tryz.prog 105 #[.pointer (some ⟨sa, 0, none⟩), .string hash] w' fun e w'' => e = .returned (.tuple #[.string (encAt ad fx), .bool fx.isSome]) ∧ Below w'.heap.size w' w'')) :
    Calls Tryz.prog 89 #[.pointer (some ⟨gs, 0, none⟩), .string hash] w fun e w' => e = .returned (.tuple #[.string (encO (fst2 wd ss ad hash)), .bool (fst2 wd ss ad hash).isSome]) ∧ Below w.heap.size w w' := by
  have c0 := Lib.cell_of_heap hg 0
  cases hf : firstI (hitB wd ss hash) ss.length with
  | some i =>
    rw [fst2_old hf]
    have HA := H1.out w (Below.refl _ _) _ hf
    have e1 : encAt ss (some i) = ss.getD i ⟨#[]⟩ := rfl
    have e2 : encO (some (ss.getD i ⟨#[]⟩)) = ss.getD i ⟨#[]⟩ := rfl
    rw [e1] at HA
    rw [e2]
    have hs1 : (some i).isSome = true := rfl
    have hs2 : (some (ss.getD i ⟨#[]⟩)).isSome = true := rfl
    rw [hs1] at HA
    rw [hs2]
    generalize ss.getD i ⟨#[]⟩ = u at HA ⊢
    clear H1 H2 hf e1 e2 hs1 hs2
    go_enter Tryz.func89, Tryz.ntmps89
    go_wp2_with fail
    refine HA.mono ?_
    rintro e w1 ⟨rfl, hb1⟩
    go_wp2_with fail
    go_ret2
    exact ⟨rfl, hb1⟩
  | none =>
    rw [fst2_new hf]
    have HA := H1.out w (Below.refl _ _) _ hf
    obtain ⟨fx, hfx⟩ : ∃ fx, firstI (hitB wd ad hash) ad.length = fx := ⟨_, rfl⟩
    rw [hfx]
    have HB : Hid (∀ w', Below w.heap.size w w' → Calls Tryz.prog 105 #[.pointer (some ⟨sa, 0, none⟩), .string hash] w' fun e w'' => e = .returned (.tuple #[.string (encAt ad fx), .bool fx.isSome]) ∧ Below w'.heap.size w' w'') := fun w' hb => H2.out w' hb fx hfx
    have he : Hid (encO (fx.map fun i => ad.getD i ⟨#[]⟩) = encAt ad fx ∧ (fx.map fun i => ad.getD i ⟨#[]⟩).isSome = fx.isSome) := by cases fx <;> exact ⟨rfl, rfl⟩
    rw [he.out.1, he.out.2]
    have e0 : encAt ss none = ⟨#[]⟩ := rfl
    have e1 : (none : Option Nat).isSome = false := rfl
    rw [e0, e1] at HA
    generalize encAt ad fx = u at HB ⊢
    generalize fx.isSome = v at HB ⊢
    clear H1 H2 hf he hfx e0 e1
    go_enter Tryz.func89, Tryz.ntmps89
    go_wp2_with fail
    refine HA.mono ?_
    rintro e w1 ⟨rfl, hb1⟩
    have c1 := Lib.cell_of_heap (hg.below hb1) 1
    go_wp2_with fail
    refine (HB.out _ hb1).mono ?_
    rintro e w2 ⟨rfl, hb2⟩
    go_wp2_with fail
    go_ret2
    exact ⟨rfl, hb1.trans (hb2.mono hb1.size)⟩
theorem savTake_same (gs tb : Nat) (enc hash : ByteArray) (w : World) (ht : tb < w.heap.size) (c37 : w.cell? ⟨tb, 37, none⟩ = some (.string enc)) (c38 : w.cell? ⟨tb, 38, none⟩ = some (.string hash))
    (HF : Hid (∀ w', Below w.heap.size w w' → Calls Tryz.prog 89 #[.pointer (some ⟨gs, 0, none⟩), .string hash] w' fun e w'' => e = .returned (.tuple #[.string enc, .bool true]) ∧ Below w'.heap.size w' w'')) :
    Calls Tryz.prog 73 #[.pointer (some ⟨gs, 0, none⟩), .pointer (some ⟨tb, 0, none⟩)] w fun e w' => e = .returned (.bool true) ∧ Below w.heap.size w w' := by
  have z1 : (enc.toList == enc.toList) = true := by simp
  go_enter Tryz.func73, Tryz.ntmps73
  go_wp2_with fail
  refine (HF.out _ (Below.refl _ _)).mono ?_
  rintro e w1 ⟨rfl, hb1⟩
  have d37 := (hb1.cell (p := ⟨tb, 37, none⟩) ht).trans c37
  go_wp2_with fail
  go_ret
  exact ⟨rfl, hb1⟩
theorem savTake_clash (gs so sa tb : Nat) (x y enc hash u : ByteArray) (w : World) (hg : SVb gs so sa 0 x y w) (ht : tb < w.heap.size) (c37 : w.cell? ⟨tb, 37, none⟩ = some (.string enc)) (c38 : w.cell? ⟨tb, 38, none⟩ = some (.string hash)) (hne : u ≠ enc) (hts : tb ≠ gs) (T1 T2 : ByteArray)
    (HT1 : Hid (∀ w', Calls Tryz.prog 90 #[.string u] w' fun e w'' => e = .returned (.string T1) ∧ Below w'.heap.size w' w''))
    (HT2 : Hid (∀ w', Calls Tryz.prog 90 #[.string enc] w' fun e w'' => e = .returned (.string T2) ∧ Below w'.heap.size w' w''))
    (HF : Hid (∀ w', Below w.heap.size w w' → Calls Tryz.prog 89 #[.pointer (some ⟨gs, 0, none⟩), .string hash] w' fun e w'' => e = .returned (.tuple #[.string u, .bool true]) ∧ Below w'.heap.size w' w'')) :
    Calls Tryz.prog 73 #[.pointer (some ⟨gs, 0, none⟩), .pointer (some ⟨tb, 0, none⟩)] w fun e w' => e = .returned (.bool false) ∧ SVb gs so sa 4 T1 T2 w' ∧ Fr w.heap.size (fun q => q = gs) w w' := by
  have z1 : (u.toList == enc.toList) = false := by rw [ba_eq, decide_eq_false hne]
  go_enter Tryz.func73, Tryz.ntmps73
  go_wp2_with fail
  refine (HF.out _ (Below.refl _ _)).mono ?_
  rintro e w1 ⟨rfl, hb1⟩
  have d37 := (hb1.cell (p := ⟨tb, 37, none⟩) ht).trans c37
  have g1 := hg.below hb1
  have HS : Hid (∀ W', Below w1.heap.size w1 W' → W'.cell? ⟨tb, 37, none⟩ = some (.string enc)) := fun W' hW' => (hW'.cell (p := ⟨tb, 37, none⟩) (Nat.lt_of_lt_of_le ht hb1.size)).trans d37
  have HK : Hid (∀ (W' : World) (o : Nat) (v : Value), tb < W'.heap.size → W'.cell? ⟨tb, 37, none⟩ = some (.string enc) → (W'.setCell ⟨gs, o, none⟩ v).cell? ⟨tb, 37, none⟩ = some (.string enc)) := fun W' o v hl hc => ((grownBy_setCell W' gs o v).cell_far ⟨tb, 37, none⟩ hl (by intro e; exact hts (Option.some.inj e))).trans hc
  have HG : Hid (∀ W', Below w1.heap.size w1 W' → tb < W'.heap.size ∧ W'.cell? ⟨gs, 2, none⟩ = some (.int .i64 0) ∧ W'.cell? ⟨gs, 3, none⟩ = some (.string x) ∧ W'.cell? ⟨gs, 4, none⟩ = some (.string y) ∧ (∀ j, W'.frozen? ⟨gs, j, none⟩ = false) ∧ SVb gs so sa 0 x y W') := fun W' hW' => by
    have g2 := g1.below hW'
    exact ⟨Nat.lt_of_lt_of_le ht (Nat.le_trans hb1.size hW'.size), Lib.cell_of_heap g2 2, Lib.cell_of_heap g2 3, Lib.cell_of_heap g2 4, fun j => by rw [World.frozen?, show W'.heap[gs]? = _ from g2]; rfl, g2⟩
  have hd1 : Below w1.heap.size w1 w1.drew := (Below.refl _ _).drew
  go_upto_region 6 with fail
  go_region_held3 (fun W => W.cell? ⟨tb, 37, none⟩ = some (.string enc)) (first | exact d37 | exact HS.out _ hb2' | exact HS.out _ hb3' | exact HK.out _ _ _ hl3 (HS.out _ hb3') | exact HK.out _ _ _ (by simpa using hl3) (HK.out _ _ _ hl3 (HS.out _ hb3')) | exact HK.out _ _ _ (by simpa using hl3) (HK.out _ _ _ (by simpa using hl3) (HK.out _ _ _ hl3 (HS.out _ hb3')))) (first | (go_at_call_of 90 (Value.string u); refine (HT1.out _).mono ?_; rintro e w2 ⟨rfl, hb2⟩; have hb2' := hd1.trans hb2) | (go_at_call_of 90 (Value.string enc); refine (HT2.out _).mono ?_; rintro e w3 ⟨rfl, hb3⟩; have hb3' := hb2'.trans (hb3.mono hb2'.size); obtain ⟨hl3, k2, k3, k4, kf, g3⟩ := HG.out _ hb3'))
  have g4 : SVb gs so sa 4 T1 T2 (((w3.setCell ⟨gs, 2, none⟩ (.int .i64 4)).setCell ⟨gs, 3, none⟩ (.string T1)).setCell ⟨gs, 4, none⟩ (.string T2)) := heap_setCell_same _ gs 4 _ 94 (.string T2) (heap_setCell_same _ gs 3 _ 94 (.string T1) (heap_setCell_same _ gs 2 _ 94 (.int .i64 4) g3))
  have f4 : Fr w.heap.size (fun q => q = gs) w (((w3.setCell ⟨gs, 2, none⟩ (.int .i64 4)).setCell ⟨gs, 3, none⟩ (.string T1)).setCell ⟨gs, 4, none⟩ (.string T2)) := (((Fr.of_below (hb1.trans (hb3'.mono hb1.size))).step (Fr.set1 _ 2 _)).step (Fr.set1 _ 3 _)).step (Fr.set1 _ 4 _)
  generalize ((w3.setCell ⟨gs, 2, none⟩ (.int .i64 4)).setCell ⟨gs, 3, none⟩ (.string T1)).setCell ⟨gs, 4, none⟩ (.string T2) = W4 at g4 f4 ⊢
  have r2 := Lib.cell_of_heap g4 2
  go_wp2_with fail
  go_ret
  exact ⟨rfl, g4, f4⟩
theorem savTake_full (gs so sa tb : Nat) (x y enc hash : ByteArray) (a1 a2 : Option Addr) (n1 n2 c1 c2 : Nat) (v1 v2 v3 v4 : Value) (w : World) (hg : SVb gs so sa 0 x y w) (ht : tb < w.heap.size) (c37 : w.cell? ⟨tb, 37, none⟩ = some (.string enc)) (c38 : w.cell? ⟨tb, 38, none⟩ = some (.string hash))
    (ho : w.heap[so]? = some (.cells #[.slice a1 n1 c1, v1, v2] 97)) (ha : w.heap[sa]? = some (.cells #[.slice a2 n2 c2, v3, v4] 97)) (hn1 : n1 ≤ 1048576) (hn2 : n2 ≤ 1048576) (hfull : 20000 ≤ n1 + n2)
    (HF : Hid (∀ w', Below w.heap.size w w' → Calls Tryz.prog 89 #[.pointer (some ⟨gs, 0, none⟩), .string hash] w' fun e w'' => e = .returned (.tuple #[.string ⟨#[]⟩, .bool false]) ∧ Below w'.heap.size w' w'')) :
    Calls Tryz.prog 73 #[.pointer (some ⟨gs, 0, none⟩), .pointer (some ⟨tb, 0, none⟩)] w fun e w' => e = .returned (.bool false) ∧ SVb gs so sa 1 x y w' ∧ Fr w.heap.size (fun q => q = gs) w w' := by
  have z1 : decide ((20000 : Int) ≤ (n1 : Int) + (n2 : Int)) = true := by rw [decide_eq_true_eq]; omega
  have z2 : ((n1 : Int) + (n2 : Int) ≥ 20000) := by omega
  go_enter Tryz.func73, Tryz.ntmps73
  go_wp2_with fail
  refine (HF.out _ (Below.refl _ _)).mono ?_
  rintro e w1 ⟨rfl, hb1⟩
  have d37 := (hb1.cell (p := ⟨tb, 37, none⟩) ht).trans c37
  have g1 := hg.below hb1
  have o1 := (hb1.block so (Array.getElem?_eq_some_iff.1 ho).1).trans ho
  have a1' := (hb1.block sa (Array.getElem?_eq_some_iff.1 ha).1).trans ha
  have q0 := Lib.cell_of_heap g1 0
  have q1 := Lib.cell_of_heap g1 1
  have q2 := Lib.cell_of_heap g1 2
  have qo := Lib.cell_of_heap o1 0
  have qa := Lib.cell_of_heap a1' 0
  have fz : ∀ j, w1.frozen? ⟨gs, j, none⟩ = false := fun j => by rw [World.frozen?, show w1.heap[gs]? = _ from g1]; rfl
  have hwr : IntKind.i64.wrap ((n1 : Int) + (n2 : Int)) = (n1 : Int) + (n2 : Int) := wrapI_in _ (by omega)
  go_upto_region 7 with fail
  go_region_held3 (fun W => W.cell? ⟨gs, 0, none⟩ = some (.pointer (some ⟨so, 0, none⟩)) ∧ W.cell? ⟨gs, 1, none⟩ = some (.pointer (some ⟨sa, 0, none⟩)) ∧ W.cell? ⟨so, 0, none⟩ = some (.slice a1 n1 c1) ∧ W.cell? ⟨sa, 0, none⟩ = some (.slice a2 n2 c2)) (exact ⟨q0, q1, qo, qa⟩) (fail)
  go_wp2_with fail
  go_ret
  exact ⟨rfl, heap_setCell_same _ gs 2 _ 94 (.int .i64 1) g1, (Fr.of_below hb1.drew).step (Fr.set1 _ 2 _)⟩
theorem savTake_add (gs so sa tb : Nat) (x y enc hash : ByteArray) (a1 a2 : Option Addr) (n1 n2 c1 c2 : Nat) (v1 v2 v3 v4 : Value) (w : World) (hg : SVb gs so sa 0 x y w) (ht : tb < w.heap.size) (c37 : w.cell? ⟨tb, 37, none⟩ = some (.string enc)) (c38 : w.cell? ⟨tb, 38, none⟩ = some (.string hash))
    (ho : w.heap[so]? = some (.cells #[.slice a1 n1 c1, v1, v2] 97)) (ha : w.heap[sa]? = some (.cells #[.slice a2 n2 c2, v3, v4] 97)) (hn1 : n1 ≤ 1048576) (hn2 : n2 ≤ 1048576) (hroom : n1 + n2 < 20000) (R : World → Prop)
    (HF : Hid (∀ w', Below w.heap.size w w' → Calls Tryz.prog 89 #[.pointer (some ⟨gs, 0, none⟩), .string hash] w' fun e w'' => e = .returned (.tuple #[.string ⟨#[]⟩, .bool false]) ∧ Below w'.heap.size w' w''))
    (HA : Hid (∀ w', Below w.heap.size w w' → Calls Tryz.prog 53 #[.pointer (some ⟨sa, 0, none⟩), .string enc] w' fun e w'' => e = .returned (.tuple #[]) ∧ SVb gs so sa 0 x y w'' ∧ w''.cell? ⟨tb, 37, none⟩ = some (.string enc) ∧ R w'')) :
    Calls Tryz.prog 73 #[.pointer (some ⟨gs, 0, none⟩), .pointer (some ⟨tb, 0, none⟩)] w fun e w' => e = .returned (.bool true) ∧ SVb gs so sa 0 x y w' ∧ R w' := by
  have z1 : decide ((20000 : Int) ≤ (n1 : Int) + (n2 : Int)) = false := by rw [decide_eq_false_iff_not]; omega
  have z2 : ¬ ((n1 : Int) + (n2 : Int) ≥ 20000) := by omega
  go_enter Tryz.func73, Tryz.ntmps73
  go_wp2_with fail
  refine (HF.out _ (Below.refl _ _)).mono ?_
  rintro e w1 ⟨rfl, hb1⟩
  have d37 := (hb1.cell (p := ⟨tb, 37, none⟩) ht).trans c37
  have g1 := hg.below hb1
  have o1 := (hb1.block so (Array.getElem?_eq_some_iff.1 ho).1).trans ho
  have a1' := (hb1.block sa (Array.getElem?_eq_some_iff.1 ha).1).trans ha
  have q0 := Lib.cell_of_heap g1 0
  have q1 := Lib.cell_of_heap g1 1
  have q2 := Lib.cell_of_heap g1 2
  have qo := Lib.cell_of_heap o1 0
  have qa := Lib.cell_of_heap a1' 0
  have fz : ∀ j, w1.frozen? ⟨gs, j, none⟩ = false := fun j => by rw [World.frozen?, show w1.heap[gs]? = _ from g1]; rfl
  have hwr : IntKind.i64.wrap ((n1 : Int) + (n2 : Int)) = (n1 : Int) + (n2 : Int) := wrapI_in _ (by omega)
  go_upto_region 7 with fail
  go_region_held3 (fun W => W.cell? ⟨gs, 0, none⟩ = some (.pointer (some ⟨so, 0, none⟩)) ∧ W.cell? ⟨gs, 1, none⟩ = some (.pointer (some ⟨sa, 0, none⟩)) ∧ W.cell? ⟨so, 0, none⟩ = some (.slice a1 n1 c1) ∧ W.cell? ⟨sa, 0, none⟩ = some (.slice a2 n2 c2)) (exact ⟨q0, q1, qo, qa⟩) (fail)
  have hb1d : Below w.heap.size w w1.drew := hb1.drew
  have hb1dd : Below w.heap.size w w1.drew.drew := hb1.drew.drew
  go_upto_region 2 with fail
  go_region_held3 (fun W => W.cell? ⟨gs, 1, none⟩ = some (.pointer (some ⟨sa, 0, none⟩)) ∧ W.cell? ⟨tb, 37, none⟩ = some (.string enc)) (first | exact ⟨q1, d37⟩ | exact ⟨Lib.cell_of_heap g2 1, hc2⟩) (first | (go_at_call 53; refine (HA.out _ hb1dd).mono ?_; rintro e w2 ⟨rfl, g2, hc2, hR2⟩))
  have r2 := Lib.cell_of_heap g2 2
  clear q0 q1 q2 qo qa fz
  go_wp2_with fail
  go_ret
  exact ⟨rfl, g2, hR2⟩
/-- What is hashed of an encoding. -/
def txt (e : ByteArray) : ByteArray := ⟨#[78]⟩ ++ e
theorem textOf_any (e : ByteArray) (w : World) (he : e.size ≤ 1048576) : Calls Tryz.prog 90 #[.string e] w fun y w' => y = .returned (.string (txt e)) ∧ w' = w := by
  have z : ¬ (9223372036854775807 < (⟨#[78]⟩ : ByteArray).size + e.size) := by show ¬ _ < 1 + e.size; omega
  have z' : ¬ (9223372036854775807 < 1 + e.size) := by omega
  unfold txt
  go_enter Tryz.func90, Tryz.ntmps90
  go_wp2_with fail
  go_ret
  exact ⟨rfl, rfl⟩
end Go.Proofs.YtmfhfehemoeeeaaGreatDoor
