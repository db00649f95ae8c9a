import Derived.Test.YtibjhkpgaaapaaaGreatDoorZkaw
import Derived.Test.YtibjhkpgaaapaaaGreatDoorZkah
import Derived.Lib.BufferWrite
namespace Go.Proofs.YtibjhkpgaaapaaaGreatDoor
open Go.RowKit Go.Proofs.Sha

/-- Pairs as cells. -/
def flatP : List PairT → List Value
  | [] => []
  | p :: l => .string p.1 :: .string p.2 :: flatP l
theorem flatP_len : ∀ l : List PairT, (flatP l).length = l.length * 2
  | [] => rfl
  | p :: l => by simp only [flatP, List.length_cons, flatP_len l]; omega
theorem flatP_app : ∀ l m : List PairT, flatP (l ++ m) = flatP l ++ flatP m
  | [], m => rfl
  | p :: l, m => by simp only [List.cons_append, flatP, flatP_app l m]
theorem flatP_get : ∀ (l : List PairT) (j : Nat), j < l.length → (flatP l)[j * 2]? = some (.string (l.getD j noPair).1) ∧ (flatP l)[j * 2 + 1]? = some (.string (l.getD j noPair).2)
  | [], j, h => absurd h (Nat.not_lt_zero _)
  | p :: l, 0, _ => ⟨rfl, rfl⟩
  | p :: l, j + 1, h => by
    have := flatP_get l j (by simpa using h)
    rw [show (j + 1) * 2 = j * 2 + 2 by omega]
    simpa [flatP] using this
theorem flatP_set : ∀ (l : List PairT) (k : Nat) (x y : ByteArray), k < l.length → ((flatP l).set (k * 2) (.string x)).set (k * 2 + 1) (.string y) = flatP (l.set k (x, y))
  | [], k, _, _, h => absurd h (Nat.not_lt_zero _)
  | p :: l, 0, _, _, _ => rfl
  | p :: l, k + 1, x, y, h => by
    have := flatP_set l k x y (by simpa using h)
    rw [show (k + 1) * 2 = k * 2 + 2 by omega]
    simpa [flatP] using this
theorem flatP_rep (n : Nat) : flatP (List.replicate n noPair) = List.replicate (n * 2) (.string ⟨#[]⟩) := by
  induction n with
  | zero => rfl
  | succ n ih =>
    rw [List.replicate_succ, flatP, ih, show (n + 1) * 2 = n * 2 + 1 + 1 by omega, List.replicate_succ, List.replicate_succ]
    rfl
theorem made2 (n : Nat) : (madeCells #[.string ⟨#[]⟩, .string ⟨#[]⟩] n).toList = List.replicate n (Value.string ⟨#[]⟩) := by
  unfold madeCells
  refine List.ext_getElem (by simp) fun i h1 h2 => ?_
  rw [List.getElem_replicate]
  simp only [Array.getElem_toList, Array.getElem_map]
  have : ∀ j, j < 2 → (#[Value.string ⟨#[]⟩, .string ⟨#[]⟩])[j]! = .string ⟨#[]⟩ := fun j hj => by
    match j, hj with
    | 0, _ => rfl
    | 1, _ => rfl
  exact this _ (Nat.mod_lt _ (by simp))
theorem Row.parg {w : World} {base g c n : Nat} {ps : List PairT} (h : Row w base g n c (flatP ps)) (hs : SmallP ps) : PArg (some ⟨g, 0, none⟩) ps w := by
  refine ⟨hs.1, hs.2, fun _ => ⟨g, 0, rfl, h.lt, fun j hj => ?_⟩⟩
  have hn := h.len
  rw [flatP_len] at hn
  obtain ⟨e0, e1⟩ := flatP_get ps j hj
  rw [Nat.zero_add]
  exact ⟨(h.cell _ (by omega)).trans e0, (h.cell _ (by omega)).trans e1⟩
/-- The first k, and zeros. -/
def partP (ps : List PairT) (k : Nat) : List PairT := ps.take k ++ List.replicate (ps.length - k) noPair
theorem partP_zero (ps : List PairT) : partP ps 0 = List.replicate ps.length noPair := by simp [partP]
theorem partP_all (ps : List PairT) : partP ps ps.length = ps := by simp [partP]
theorem partP_len (ps : List PairT) (k : Nat) (h : k ≤ ps.length) : (partP ps k).length = ps.length := by simp [partP]; omega
theorem partP_set (ps : List PairT) (k : Nat) (h : k < ps.length) : (partP ps k).set k (ps.getD k noPair) = partP ps (k + 1) := by
  have e : ps.take (k + 1) = ps.take k ++ [ps[k]] := by rw [List.take_add_one, List.getElem?_eq_getElem h]; rfl
  unfold partP
  rw [show ps.length - k = (ps.length - (k + 1)) + 1 by omega, List.replicate_succ, List.set_append_right _ _ (by rw [List.length_take]; omega), List.length_take, show k - min k ps.length = 0 by omega, List.set_cons_zero, e, List.getD_eq_getElem?_getD, List.getElem?_eq_getElem h, List.append_assoc]
  rfl
theorem info37 : (Tryz.prog.info? 81).map (fun i => (i.zero, i.size, i.bytes)) = some (some (.agg #[.string ⟨#[]⟩, .string ⟨#[]⟩]), 2, 32) := by kernel_rfl
theorem info_parts2 {i : Option TypeInfo} {a : Option Value} {b c : Nat} (h : i.map (fun i => (i.zero, i.size, i.bytes)) = some (a, b, c)) : ∃ j, i = some j ∧ j.zero = a ∧ j.size = b ∧ j.bytes = c := by
  cases i with
  | none => cases h
  | some j => simp only [Option.map_some, Option.some.injEq, Prod.mk.injEq] at h; exact ⟨j, rfl, h.1, h.2.1, h.2.2⟩
theorem make25 (n : Nat) (hn : n ≤ 1048576) (W : World) : (Instr.makeSlice 35 (.int .i64 (n : Int)) (.int .i64 (n : Int))).run Tryz.prog W = .ok (.slice (some ⟨W.heap.size, 0, none⟩) n n) (W.alloc (.cells (flatP (List.replicate n noPair)).toArray 81)) := by
  obtain ⟨i0, hi, hz0, hz1, hz2⟩ := info_parts2 info37
  have e : madeCells (Value.agg #[.string ⟨#[]⟩, .string ⟨#[]⟩]).cells (((n : Nat) : Int).toNat * i0.size) = (flatP (List.replicate n noPair)).toArray := by
    rw [hz1, Int.toNat_natCast, flatP_rep]
    show madeCells #[.string ⟨#[]⟩, .string ⟨#[]⟩] (n * 2) = _
    rw [← Array.toList_inj, made2]
  have h := run_make (P := Tryz.prog) W 35 81 i0 (.agg #[.string ⟨#[]⟩, .string ⟨#[]⟩]) Tryz.underlying35 hi hz0 .i64 .i64 (n : Int) (n : Int) (by omega) (by omega) (by rw [hz2]; omega) (by omega)
  rw [e] at h
  simpa using h
theorem eqPair_any (k v : ByteArray) (w : World) : Calls Tryz.prog 56 #[.agg #[.string k, .string v], .agg #[.string k, .string v]] w fun e w' => e = .returned (.bool true) ∧ Below w.heap.size w w' := by
  have hb : Below w.heap.size w ((w.alloc (.cells #[.string k, .string v] 81)).alloc (.cells #[.string k, .string v] 81)) := ((Below.refl _ _).alloc (Nat.le_refl _) _).alloc (by simp) _
  go_enter Tryz.func56, Tryz.ntmps56
  go_wp2_with fail
  go_ret
  exact ⟨rfl, hb⟩

set_option maxRecDepth 100000 in
set_option maxHeartbeats 1000000 in
theorem eqPairS_any (a b : Option Addr) (ps : List PairT) (c d : Nat) (w : World) (h : PArg a ps w) (h' : PArg b ps w) :
    Calls Tryz.prog 18 #[.slice a ps.length c, .slice b ps.length d] w fun e w' => e = .returned (.bool true) ∧ Below w.heap.size w w' := by
  have hn := h.le
  obtain ⟨N, hN⟩ : ∃ N, ps.length = N := ⟨_, rfl⟩
  rw [hN] at hn ⊢
  have hNl : Hid (ps.length = N) := hN
  clear hN
  go_enter Tryz.func18, Tryz.ntmps18
  go_wp2_with fail
  go_loopw [5] (fun t wr => ∃ k : Nat, k ≤ N ∧ t = .int .i64 (k : Int) ∧ Below w.heap.size w wr) (fun t _ => N - (intOf t).toNat)
  case atStart => exact ⟨0, Nat.zero_le _, rfl, Below.refl _ _⟩
  case round =>
    obtain ⟨k, hk, rfl, hbw⟩ := hrel
    by_cases hlt : k < N
    · have z1 : decide ((k : Int) < (N : Int)) = true := by simp; omega
      have hx0 : (0 : Int) ≤ (k : Int) := Int.natCast_nonneg _
      have hx1 : (k : Int) < (N : Int) := by omega
      obtain ⟨b1, off1, rfl, hbl1, hc⟩ := (h.below hbw).at_ (by rw [hNl.out]; omega)
      obtain ⟨b2, off2, rfl, hbl2, hd⟩ := (h'.below hbw).at_ (by rw [hNl.out]; omega)
      obtain ⟨hc1, hc2⟩ := hc k (by rw [hNl.out]; exact hlt)
      obtain ⟨hd1, hd2⟩ := hd k (by rw [hNl.out]; exact hlt)
      generalize (ps.getD k noPair).1 = pk at hc1 hd1
      generalize (ps.getD k noPair).2 = pv at hc2 hd2
      have HE := fun w' => eqPair_any pk pv w'
      have HC : Hid (∀ W, Below wr.heap.size wr W → W.cell? ⟨b1, off1 + k * 2, none⟩ = some (.string pk) ∧ W.cell? ⟨b1, off1 + k * 2 + 1, none⟩ = some (.string pv) ∧ W.cell? ⟨b2, off2 + k * 2, none⟩ = some (.string pk) ∧ W.cell? ⟨b2, off2 + k * 2 + 1, none⟩ = some (.string pv)) := fun W hW => ⟨(hW.cell (p := ⟨b1, _, none⟩) hbl1).trans hc1, (hW.cell (p := ⟨b1, _, none⟩) hbl1).trans hc2, (hW.cell (p := ⟨b2, _, none⟩) hbl2).trans hd1, (hW.cell (p := ⟨b2, _, none⟩) hbl2).trans hd2⟩
      clear hc hd hc1 hc2 hd1 hd2
      go_wp2_with fail
      go_region_held3 (fun W => W.cell? ⟨b1, off1 + k * 2, none⟩ = some (.string pk) ∧ W.cell? ⟨b1, off1 + k * 2 + 1, none⟩ = some (.string pv) ∧ W.cell? ⟨b2, off2 + k * 2, none⟩ = some (.string pk) ∧ W.cell? ⟨b2, off2 + k * 2 + 1, none⟩ = some (.string pv)) (first | exact HC.out _ (Below.refl _ _).drew | exact HC.out _ hb1) (first | (go_at_call 56; refine (HE _).mono ?_; rintro e w1 ⟨rfl, hb1'⟩; have hb1 : Below wr.heap.size wr w1 := (Below.refl wr.heap.size wr).drew.trans hb1'))
      go_wp2_with fail
      go_roundw
      case rel => exact ⟨k + 1, hlt, by go_num, hbw.trans (hb1.mono hbw.size)⟩
      case measure => simp [intOf]; omega
    · obtain rfl : k = N := by omega
      have z1 : decide ((k : Int) < (k : Int)) = false := by simp
      go_wp2_with fail
      go_ret
      exact ⟨rfl, hbw⟩
end Go.Proofs.YtibjhkpgaaapaaaGreatDoor
namespace Go.Proofs.YtibjhkpgaaapaaaGreatDoor
open Go.RowKit Go.Proofs.Sha

theorem Row.setHead {w : World} {base g n cap : Nat} {xs : List Value} (h : Row w base g n cap xs) (ys : List Value) (ho : ys.length ≤ n) : Row (w.setCells g 0 ys) base g n cap (ys ++ xs.drop ys.length) := by
  have hin : ∀ j (hj : j < ys.length), (w.setCells g 0 ys).cell? ⟨g, 0 + j, none⟩ = some ys[j] := World.cell?_setCells_in g ys 0 w (fun j hj => h.room (0 + j) (by have := h.le; omega))
  have hout : ∀ j, j < 0 ∨ 0 + ys.length ≤ j → (w.setCells g 0 ys).cell? ⟨g, j, none⟩ = w.cell? ⟨g, j, none⟩ := fun j hj => World.cell?_setCells_out g ys 0 w ⟨g, j, none⟩ (fun _ _ => hj)
  have hgr := grownBy_setCells g ys 0 w
  have hl := h.len
  refine ⟨h.ge, Nat.lt_of_lt_of_le h.lt hgr.size, by rw [List.length_append, List.length_drop]; omega, h.le, ?_, ?_, ?_⟩
  · intro j hj
    rcases Nat.lt_or_ge j ys.length with h1 | h1
    · have := hin j h1
      rw [Nat.zero_add] at this
      rw [this, List.getElem?_append_left h1, List.getElem?_eq_getElem h1]
    · rw [hout j (.inr (by omega)), h.cell j hj, List.getElem?_append_right h1, List.getElem?_drop, show ys.length + (j - ys.length) = j by omega]
  · intro j hj
    rcases Nat.lt_or_ge j ys.length with h1 | h1
    · have := hin j h1
      rw [Nat.zero_add] at this
      rw [this]; rfl
    · rw [hout j (.inr (by omega))]; exact h.room j hj
  · intro j hj
    rw [World.frozen?_setCells]; exact h.free j hj
theorem info5m : (Tryz.prog.info? 5).map (·.size) = some 1 := by kernel_rfl
theorem run_copy_text {w : World} {base g n cap : Nat} {xs : List Value} (h : Row w base g n cap xs) (s : ByteArray) (hs : s.size ≤ n) :
    (Builtin.copy_ #[41, 9] 3 #[.slice (some ⟨g, 0, none⟩) n n, .string s]).run Tryz.prog w = .ok (goInt s.size) (w.setCells g 0 (s.data.toList.map B)) := by
  have hlen : (s.data.toList.map B).length = s.size := by rw [List.length_map]; rfl
  have hst := run_storeCells_cells (P := Tryz.prog) g 0 (s.data.toList.map B) 0 w (fun j hj => by have := h.room j (by have := h.le; omega); simpa using this) (fun j hj => by have := h.free j (by have := h.le; omega); simpa using this) (fun v hv => by obtain ⟨x, _, rfl⟩ := List.mem_map.1 hv; rfl)
  simp only [Nat.add_zero] at hst
  have hmin : Nat.min s.size n = s.size := Nat.min_eq_left hs
  have htk : List.take s.size (List.map (fun b : UInt8 => Value.int IntKind.u8 (b.toNat : Int)) s.data.toList) = s.data.toList.map B := by
    rw [List.take_of_length_le (by rw [List.length_map]; exact Nat.le_refl _)]; rfl
  obtain ⟨i, hi, hsz⟩ : ∃ i, Tryz.prog.info? 5 = some i ∧ i.size = 1 := by
    have := info5m
    cases hh : Tryz.prog.info? 5 with
    | none => rw [hh] at this; cases this
    | some i => rw [hh] at this; exact ⟨i, rfl, Option.some.inj this⟩
  simp [Builtin.copy_, run_underlying Tryz.underlying41, sizeOf, typeInfo, hi, Builtin.lenOf, hmin, Builtin.firstCells, htk, hst]

set_option maxRecDepth 100000 in
set_option maxHeartbeats 1000000 in
theorem find_any (wd : Nat) (r : Nat) (F : List UInt8 → Option Int) (hash : ByteArray) (w : World) (h : MapF F r w) (h1 : wd ≤ 32) (h2 : hash.size = wd) :
    Calls Tryz.prog 199 #[.agg #[.int .i64 (wd : Int), .map (some r)], .string hash] w fun e w' => e = .returned (.tuple #[.int .i64 ((F (cutW wd hash.data.toList)).getD 0), .bool (F (cutW wd hash.data.toList)).isSome]) ∧ Below w.heap.size w w' := by
  have z1 : ((hash.size : Int) != (wd : Int)) = false := by rw [h2]; simp
  have hsz : hash.size ≤ 32 := by omega
  have hhl : hash.data.toList.length = hash.size := rfl
  have hcut : hash.data.toList.map B ++ (zeros32b.map B).drop (hash.data.toList.map B).length = (cutW wd hash.data.toList).map B := by
    unfold cutW zeros32b
    rw [List.map_append, List.take_of_length_le (by omega), List.length_map, hhl, h2, List.map_replicate, List.map_replicate, List.drop_replicate]
  have hX : (cutW wd hash.data.toList).length = 32 := by unfold cutW; rw [List.length_append, List.length_take, List.length_replicate]; omega
  obtain ⟨X, hXX⟩ : ∃ X, cutW wd hash.data.toList = X := ⟨_, rfl⟩
  rw [hXX] at hcut hX ⊢
  clear h2 hXX
  have hrl : r < w.heap.size := by
    obtain ⟨es, cl, hg, _, _⟩ := h.is
    exact (Array.getElem?_eq_some_iff.1 hg).1
  go_enter Tryz.func199, Tryz.ntmps199
  obtain ⟨ga, hga⟩ : ∃ ga, w.heap.size = ga := ⟨_, rfl⟩
  go_wp2_with (first | (refine wpList_alloc_row _ rfl (some 6) rfl 247 247 rfl (zeros32b.map B) alloc43 ?_; intro g2 w2 hr2 hb2))
  have hr2' : Row w2 (ga + 1) g2 32 32 (zeros32b.map B) := by
    have := hr2
    rw [World.size_alloc, hga] at this
    exact this
  have hcp := run_copy_text hr2' hash hsz
  have hR3 := Row.setHead hr2' (hash.data.toList.map B) (by rw [List.length_map]; omega)
  rw [hcut] at hR3
  have hg3 := grownBy_setCells g2 (hash.data.toList.map B) 0 w2
  obtain ⟨w3, hw3⟩ : ∃ w3, w2.setCells g2 0 (hash.data.toList.map B) = w3 := ⟨_, rfl⟩
  rw [hw3] at hcp hR3 hg3
  clear hw3
  have hge := hr2'.ge
  have hb2' : Below (ga + 1) (w.alloc (.cells #[.int .i64 (wd : Int), .map (some r)] 192)) w2 := by
    have := hb2
    rw [World.size_alloc, hga] at this
    exact this
  have hn2 : w2.heap[ga]? = some (.cells #[.int .i64 (wd : Int), .map (some r)] 192) := (hb2'.block ga (by omega)).trans (by rw [← hga]; exact heap_alloc_new w _)
  have hne : ga ≠ g2 := by omega
  have hn3 : w3.heap[ga]? = some (.cells #[.int .i64 (wd : Int), .map (some r)] 192) := (hg3.block ga (Array.getElem?_eq_some_iff.1 hn2).1 (fun e => hne (Option.some.inj e))).trans hn2
  have hB2 : Below w.heap.size w w2 := ((Below.refl _ w).alloc (Nat.le_refl _) _).trans (hb2'.mono (by omega))
  have hM3 : MapF F r w3 := (h.below hB2).kept hg3 (by omega)
  have hB3 : Below w.heap.size w w3 := hB2.trans (below_of_grown hg3 (by omega) hB2.size)
  have hlk := run_look key43 Tryz.underlying190 zeroV3 hM3 X hX
  unfold K32 at hlk
  have d0 := Lib.cell_of_heap hn3 0
  have d1 := Lib.cell_of_heap hn3 1
  clear hb2 hb2' hr2 hr2' hB2 hn2 hM3 h
  obtain ⟨fx, hfx⟩ : ∃ fx, F X = fx := ⟨_, rfl⟩
  rw [hfx] at hlk
  have HF : Hid (F X = fx) := hfx
  clear hfx
  rw [hcp]
  clear hcp
  go_wp2_with (first | (refine wpList_load_whole _ rfl 247 (.tmp 6) rfl (ga + 1) g2 32 32 (X.map B) 5 rfl hR3 Tryz.underlying247 size43 ?_))
  go_ret2
  rw [HF.out]
  exact ⟨rfl, hB3⟩
end Go.Proofs.YtibjhkpgaaapaaaGreatDoor
namespace Go.Proofs.YtibjhkpgaaapaaaGreatDoor
open Go.RowKit Go.Proofs.Sha

/-- A slice of texts. -/
structure SArg (a : Option Addr) (ss : List ByteArray) (w : World) : Prop where
  le : ss.length ≤ 1048576
  sz : ∀ j, (ss.getD j ⟨#[]⟩).size ≤ 1048576
  at_ : 0 < ss.length → ∃ b off : Nat, a = some ⟨b, off, none⟩ ∧ b < w.heap.size ∧ ∀ j, j < ss.length → w.cell? ⟨b, off + j, none⟩ = some (.string (ss.getD j ⟨#[]⟩))
theorem SArg.below {a : Option Addr} {ss : List ByteArray} {w w' : World} (h : SArg a ss w) (hb : Below w.heap.size w w') : SArg a ss w' := by
  refine ⟨h.le, h.sz, fun hn => ?_⟩
  obtain ⟨b, off, ha, hlt, hc⟩ := h.at_ hn
  exact ⟨b, off, ha, Nat.lt_of_lt_of_le hlt hb.size, fun j hj => (hb.cell hlt).trans (hc j hj)⟩
/-- The hash of an encoding, cut to a width. -/
def keyW (wd : Nat) (s : ByteArray) : List UInt8 := cutW wd (sha (78 :: s.data.toList))
/-- The places of the first k encodings. -/
def placesF (wd : Nat) (ss : List ByteArray) : Nat → List UInt8 → Option Int
  | 0 => fun _ => none
  | k + 1 => addF (placesF wd ss k) (keyW wd (ss.getD k ⟨#[]⟩)) (k : Int)

end Go.Proofs.YtibjhkpgaaapaaaGreatDoor
