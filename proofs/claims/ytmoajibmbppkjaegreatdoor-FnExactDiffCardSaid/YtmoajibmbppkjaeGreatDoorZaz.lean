import Derived.Test.YtmoajibmbppkjaeGreatDoorZak
import Derived.Laws.MakeOwn
import Derived.Laws.OwnMore
import Derived.Test.YtmoajibmbppkjaeGreatDoorZaw
import Derived.Test.YtmoajibmbppkjaeGreatDoorZay
import Derived.Test.YtmoajibmbppkjaeGreatDoorZag
import Derived.Deep.AppendLies
namespace Go.Proofs.YtmoajibmbppkjaeGreatDoor
open Go.RowKit Go.Proofs.Sha

theorem wr_in64 (n : Int) (h : -9223372036854775808 ≤ n ∧ n ≤ 9223372036854775807) : wrap64 n = n := by unfold wrap64; omega
/-- A slice of pairs that was handed in, whatever its size. -/
structure QArg (a : Option Addr) (ps : List PairT) (w : World) : Prop where
  at_ : 0 < ps.length → ∃ b off : Nat, a = some ⟨b, off, none⟩ ∧ b < w.heap.size ∧ ∀ j, j < ps.length → w.cell? ⟨b, off + j * 2, none⟩ = some (.string (ps.getD j noPair).1) ∧ w.cell? ⟨b, off + j * 2 + 1, none⟩ = some (.string (ps.getD j noPair).2)
theorem QArg.below {a : Option Addr} {ps : List PairT} {w w' : World} (h : QArg a ps w) (hb : Below w.heap.size w w') : QArg a ps w' := by
  refine ⟨fun hn => ?_⟩
  obtain ⟨b, off, ha, hlt, hc⟩ := h.at_ hn
  exact ⟨b, off, ha, Nat.lt_of_lt_of_le hlt hb.size, fun j hj => ⟨(hb.cell (p := ⟨b, off + j * 2, none⟩) hlt).trans (hc j hj).1, (hb.cell (p := ⟨b, off + j * 2 + 1, none⟩) hlt).trans (hc j hj).2⟩⟩
/-- Within the law's bound. -/
def SmallP (ps : List PairT) : Prop := ps.length ≤ 1048576 ∧ ∀ j, (ps.getD j noPair).1.size ≤ 1048576 ∧ (ps.getD j noPair).2.size ≤ 1048576
theorem QArg.parg {a : Option Addr} {ps : List PairT} {w : World} (h : QArg a ps w) (hs : SmallP ps) : PArg a ps w := ⟨hs.1, hs.2, h.at_⟩
theorem PArg.qarg {a : Option Addr} {ps : List PairT} {w : World} (h : PArg a ps w) : QArg a ps w := ⟨h.at_⟩
theorem pget_out (ps : List PairT) (j : Nat) (h : ps.length ≤ j) : ps.getD j noPair = noPair := by
  rw [List.getD_eq_getElem?_getD, List.getElem?_eq_none h]; rfl
end Go.Proofs.YtmoajibmbppkjaeGreatDoor
namespace Go.Proofs.YtmoajibmbppkjaeGreatDoor
open Go.RowKit Go.Proofs.Sha

/-- Pairs as cells. -/
def flatP : List PairT → List Value
  | [] => []
  | p :: l => .string p.1 :: .string p.2 :: flatP l
theorem flatP_len : ∀ l : List PairT, (flatP l).length = l.length * 2
  | [] => rfl
  | p :: l => by simp only [flatP, List.length_cons, flatP_len l]; omega
theorem flatP_app : ∀ l m : List PairT, flatP (l ++ m) = flatP l ++ flatP m
  | [], m => rfl
  | p :: l, m => by simp only [List.cons_append, flatP, flatP_app l m]
theorem flatP_get : ∀ (l : List PairT) (j : Nat), j < l.length → (flatP l)[j * 2]? = some (.string (l.getD j noPair).1) ∧ (flatP l)[j * 2 + 1]? = some (.string (l.getD j noPair).2)
  | [], j, h => absurd h (Nat.not_lt_zero _)
  | p :: l, 0, _ => ⟨rfl, rfl⟩
  | p :: l, j + 1, h => by
    have := flatP_get l j (by simpa using h)
    rw [show (j + 1) * 2 = j * 2 + 2 by omega]
    simpa [flatP] using this
theorem flatP_set : ∀ (l : List PairT) (k : Nat) (x y : ByteArray), k < l.length → ((flatP l).set (k * 2) (.string x)).set (k * 2 + 1) (.string y) = flatP (l.set k (x, y))
  | [], k, _, _, h => absurd h (Nat.not_lt_zero _)
  | p :: l, 0, _, _, _ => rfl
  | p :: l, k + 1, x, y, h => by
    have := flatP_set l k x y (by simpa using h)
    rw [show (k + 1) * 2 = k * 2 + 2 by omega]
    simpa [flatP] using this
theorem flatP_rep (n : Nat) : flatP (List.replicate n noPair) = List.replicate (n * 2) (.string ⟨#[]⟩) := by
  induction n with
  | zero => rfl
  | succ n ih =>
    rw [List.replicate_succ, flatP, ih, show (n + 1) * 2 = n * 2 + 1 + 1 by omega, List.replicate_succ, List.replicate_succ]
    rfl
theorem made2 (n : Nat) : (madeCells #[.string ⟨#[]⟩, .string ⟨#[]⟩] n).toList = List.replicate n (Value.string ⟨#[]⟩) := by
  unfold madeCells
  refine List.ext_getElem (by simp) fun i h1 h2 => ?_
  rw [List.getElem_replicate]
  simp only [Array.getElem_toList, Array.getElem_map]
  have : ∀ j, j < 2 → (#[Value.string ⟨#[]⟩, .string ⟨#[]⟩])[j]! = .string ⟨#[]⟩ := fun j hj => by
    match j, hj with
    | 0, _ => rfl
    | 1, _ => rfl
  exact this _ (Nat.mod_lt _ (by simp))
theorem Row.parg {w : World} {base g c n : Nat} {ps : List PairT} (h : Row w base g n c (flatP ps)) (hs : SmallP ps) : PArg (some ⟨g, 0, none⟩) ps w := by
  refine ⟨hs.1, hs.2, fun _ => ⟨g, 0, rfl, h.lt, fun j hj => ?_⟩⟩
  have hn := h.len
  rw [flatP_len] at hn
  obtain ⟨e0, e1⟩ := flatP_get ps j hj
  rw [Nat.zero_add]
  exact ⟨(h.cell _ (by omega)).trans e0, (h.cell _ (by omega)).trans e1⟩
/-- The first k, and zeros. -/
def partP (ps : List PairT) (k : Nat) : List PairT := ps.take k ++ List.replicate (ps.length - k) noPair
theorem partP_zero (ps : List PairT) : partP ps 0 = List.replicate ps.length noPair := by simp [partP]
theorem partP_all (ps : List PairT) : partP ps ps.length = ps := by simp [partP]
theorem partP_len (ps : List PairT) (k : Nat) (h : k ≤ ps.length) : (partP ps k).length = ps.length := by simp [partP]; omega
theorem partP_set (ps : List PairT) (k : Nat) (h : k < ps.length) : (partP ps k).set k (ps.getD k noPair) = partP ps (k + 1) := by
  have e : ps.take (k + 1) = ps.take k ++ [ps[k]] := by rw [List.take_add_one, List.getElem?_eq_getElem h]; rfl
  unfold partP
  rw [show ps.length - k = (ps.length - (k + 1)) + 1 by omega, List.replicate_succ, List.set_append_right _ _ (by rw [List.length_take]; omega), List.length_take, show k - min k ps.length = 0 by omega, List.set_cons_zero, e, List.getD_eq_getElem?_getD, List.getElem?_eq_getElem h, List.append_assoc]
  rfl
theorem info37 : (Tryz.prog.info? 46).map (fun i => (i.zero, i.size, i.bytes)) = some (some (.agg #[.string ⟨#[]⟩, .string ⟨#[]⟩]), 2, 32) := by kernel_rfl
theorem info_parts2 {i : Option TypeInfo} {a : Option Value} {b c : Nat} (h : i.map (fun i => (i.zero, i.size, i.bytes)) = some (a, b, c)) : ∃ j, i = some j ∧ j.zero = a ∧ j.size = b ∧ j.bytes = c := by
  cases i with
  | none => cases h
  | some j => simp only [Option.map_some, Option.some.injEq, Prod.mk.injEq] at h; exact ⟨j, rfl, h.1, h.2.1, h.2.2⟩
theorem make25 (n : Nat) (hn : n ≤ 1048576) (W : World) : (Instr.makeSlice 26 (.int .i64 (n : Int)) (.int .i64 (n : Int))).run Tryz.prog W = .ok (.slice (some ⟨W.heap.size, 0, none⟩) n n) (W.alloc (.cells (flatP (List.replicate n noPair)).toArray 46)) := by
  obtain ⟨i0, hi, hz0, hz1, hz2⟩ := info_parts2 info37
  have e : madeCells (Value.agg #[.string ⟨#[]⟩, .string ⟨#[]⟩]).cells (((n : Nat) : Int).toNat * i0.size) = (flatP (List.replicate n noPair)).toArray := by
    rw [hz1, Int.toNat_natCast, flatP_rep]
    show madeCells #[.string ⟨#[]⟩, .string ⟨#[]⟩] (n * 2) = _
    rw [← Array.toList_inj, made2]
  have h := run_make (P := Tryz.prog) W 26 46 i0 (.agg #[.string ⟨#[]⟩, .string ⟨#[]⟩]) Tryz.underlying26 hi hz0 .i64 .i64 (n : Int) (n : Int) (by omega) (by omega) (by rw [hz2]; omega) (by omega)
  rw [e] at h
  simpa using h
theorem eqPair_any (k v : ByteArray) (w : World) : Calls Tryz.prog 54 #[.agg #[.string k, .string v], .agg #[.string k, .string v]] w fun e w' => e = .returned (.bool true) ∧ Below w.heap.size w w' := by
  have hb : Below w.heap.size w ((w.alloc (.cells #[.string k, .string v] 46)).alloc (.cells #[.string k, .string v] 46)) := ((Below.refl _ _).alloc (Nat.le_refl _) _).alloc (by simp) _
  go_enter Tryz.func54, Tryz.ntmps54
  go_wp2_with fail
  go_ret
  exact ⟨rfl, hb⟩

set_option maxRecDepth 100000 in
set_option maxHeartbeats 1000000 in
theorem eqPairS_any (a b : Option Addr) (ps : List PairT) (c d : Nat) (w : World) (h : PArg a ps w) (h' : PArg b ps w) :
    Calls Tryz.prog 13 #[.slice a ps.length c, .slice b ps.length d] w fun e w' => e = .returned (.bool true) ∧ Below w.heap.size w w' := by
  have hn := h.le
  obtain ⟨N, hN⟩ : ∃ N, ps.length = N := ⟨_, rfl⟩
  rw [hN] at hn ⊢
  have hNl : Hid (ps.length = N) := hN
  clear hN
  go_enter Tryz.func13, Tryz.ntmps13
  go_wp2_with fail
  go_loopw [5] (fun t wr => ∃ k : Nat, k ≤ N ∧ t = .int .i64 (k : Int) ∧ Below w.heap.size w wr) (fun t _ => N - (intOf t).toNat)
  case atStart => exact ⟨0, Nat.zero_le _, rfl, Below.refl _ _⟩
  case round =>
    obtain ⟨k, hk, rfl, hbw⟩ := hrel
    by_cases hlt : k < N
    · have z1 : decide ((k : Int) < (N : Int)) = true := by simp; omega
      have hx0 : (0 : Int) ≤ (k : Int) := Int.natCast_nonneg _
      have hx1 : (k : Int) < (N : Int) := by omega
      obtain ⟨b1, off1, rfl, hbl1, hc⟩ := (h.below hbw).at_ (by rw [hNl.out]; omega)
      obtain ⟨b2, off2, rfl, hbl2, hd⟩ := (h'.below hbw).at_ (by rw [hNl.out]; omega)
      obtain ⟨hc1, hc2⟩ := hc k (by rw [hNl.out]; exact hlt)
      obtain ⟨hd1, hd2⟩ := hd k (by rw [hNl.out]; exact hlt)
      generalize (ps.getD k noPair).1 = pk at hc1 hd1
      generalize (ps.getD k noPair).2 = pv at hc2 hd2
      have HE := fun w' => eqPair_any pk pv w'
      have HC : Hid (∀ W, Below wr.heap.size wr W → W.cell? ⟨b1, off1 + k * 2, none⟩ = some (.string pk) ∧ W.cell? ⟨b1, off1 + k * 2 + 1, none⟩ = some (.string pv) ∧ W.cell? ⟨b2, off2 + k * 2, none⟩ = some (.string pk) ∧ W.cell? ⟨b2, off2 + k * 2 + 1, none⟩ = some (.string pv)) := fun W hW => ⟨(hW.cell (p := ⟨b1, _, none⟩) hbl1).trans hc1, (hW.cell (p := ⟨b1, _, none⟩) hbl1).trans hc2, (hW.cell (p := ⟨b2, _, none⟩) hbl2).trans hd1, (hW.cell (p := ⟨b2, _, none⟩) hbl2).trans hd2⟩
      clear hc hd hc1 hc2 hd1 hd2
      go_wp2_with fail
      go_region_held3 (fun W => W.cell? ⟨b1, off1 + k * 2, none⟩ = some (.string pk) ∧ W.cell? ⟨b1, off1 + k * 2 + 1, none⟩ = some (.string pv) ∧ W.cell? ⟨b2, off2 + k * 2, none⟩ = some (.string pk) ∧ W.cell? ⟨b2, off2 + k * 2 + 1, none⟩ = some (.string pv)) (first | exact HC.out _ (Below.refl _ _).drew | exact HC.out _ hb1) (first | (go_at_call 54; refine (HE _).mono ?_; rintro e w1 ⟨rfl, hb1'⟩; have hb1 : Below wr.heap.size wr w1 := (Below.refl wr.heap.size wr).drew.trans hb1'))
      go_wp2_with fail
      go_roundw
      case rel => exact ⟨k + 1, hlt, by go_num, hbw.trans (hb1.mono hbw.size)⟩
      case measure => simp [intOf]; omega
    · obtain rfl : k = N := by omega
      have z1 : decide ((k : Int) < (k : Int)) = false := by simp
      go_wp2_with fail
      go_ret
      exact ⟨rfl, hbw⟩
end Go.Proofs.YtmoajibmbppkjaeGreatDoor
namespace Go.Proofs.YtmoajibmbppkjaeGreatDoor
open Go.RowKit Go.Proofs.Sha

theorem own2_cells {w : World} {base g n : Nat} {v : Value} {xs : List Value} (h : w.ownsRow base 46 2 v n xs) (hv : v.ownBlock = some g) : base ≤ g ∧ g < w.heap.size ∧ ∃ cur, w.heap[g]? = some (.cells cur 46 (0, 0)) := by
  rcases h.2 with ⟨rfl, _⟩ | ⟨g', cap, cur, rfl, hb, hg, _⟩
  · cases hv
  · obtain rfl : g' = g := Option.some.inj hv
    exact ⟨hb, (Array.getElem?_eq_some_iff.1 hg).1, cur, hg⟩
theorem own2_kept {w w' : World} {base n : Nat} {v : Value} {xs : List Value} (h : w.ownsRow base 46 2 v n xs) (hk : ∀ g, v.ownBlock = some g → g < w.heap.size → w'.heap[g]? = w.heap[g]?) : w'.ownsRow base 46 2 v n xs := by
  refine ⟨h.1, ?_⟩
  rcases h.2 with ⟨h1, h2⟩ | ⟨g, cap, cur, hv, hb, hg, rest⟩
  · exact .inl ⟨h1, h2⟩
  · exact .inr ⟨g, cap, cur, hv, hb, (hk g (by rw [hv]; rfl) (Array.getElem?_eq_some_iff.1 hg).1).trans hg, rest⟩
theorem own2_mono {w : World} {base base' n : Nat} {v : Value} {xs : List Value} (h : w.ownsRow base 46 2 v n xs) (hb : base' ≤ base) : w.ownsRow base' 46 2 v n xs := by
  refine ⟨h.1, ?_⟩
  rcases h.2 with ⟨h1, h2⟩ | ⟨g, cap, cur, hv, hg, rest⟩
  · exact .inl ⟨h1, h2⟩
  · exact .inr ⟨g, cap, cur, hv, Nat.le_trans hb hg, rest⟩
/-- What a walk of the model answers. -/
def GoPost (R : Int × Nat × List PairT) (w : World) (e : Ending) (w' : World) : Prop :=
  (R.1 = 0 → ∃ a c, e = .returned (.agg #[.slice a R.2.2.length c, .int .i64 (R.2.1 : Int), .int .i64 0]) ∧ w'.ownsRow w.heap.size 46 2 (.slice a R.2.2.length c) R.2.2.length (flatP R.2.2)) ∧
  (R.1 ≠ 0 → e = .returned (.agg #[.slice none 0 0, .int .i64 0, .int .i64 R.1])) ∧ Below w.heap.size w w'
/-- The blocks that a call has of its own. -/
structure GS (w : World) (g8 g12 g16 gz g17 : Nat) (wd : Nat) (a : Option Addr) (n c : Nat) (over under : ByteArray) (cnt : Nat) (W : World) : Prop where
  sz : w.heap.size = g8
  o1 : g8 < g12
  o2 : g12 < g16
  o3 : g16 < gz
  o4 : gz < g17
  bl : Below w.heap.size w W
  n8 : W.heap[g8]? = some (.cells #[.int .i64 (wd : Int), .slice a n c] 29)
  n12 : W.heap[g12]? = some (.cells #[.string over, .string under] 149)
  n16 : W.heap[g16]? = some (.cells #[.slice none 0 0, .int .i64 0, .int .i64 0] 146)
  nz : W.heap[gz]? = some (.cells #[] 46)
  n17 : W.heap[g17]? = some (.cells #[.slice (some ⟨gz, 0, none⟩) 0 0, .int .i64 (cnt : Int), .int .i64 0] 146)
section
variable {w : World} {g8 g12 g16 gz g17 : Nat} {wd : Nat} {a : Option Addr} {n c : Nat} {over under : ByteArray} {cnt : Nat} {W W' : World}
theorem GS.lt (h : GS w g8 g12 g16 gz g17 wd a n c over under cnt W) : g17 < W.heap.size := (Array.getElem?_eq_some_iff.1 h.n17).1
theorem GS.below (h : GS w g8 g12 g16 gz g17 wd a n c over under cnt W) (hb : Below W.heap.size W W') : GS w g8 g12 g16 gz g17 wd a n c over under cnt W' := by
  have l := h.lt
  have h1 := h.o1
  have h2 := h.o2
  have h3 := h.o3
  have h4 := h.o4
  exact ⟨h.sz, h1, h2, h3, h4, h.bl.trans (hb.mono h.bl.size), (hb.block _ (by omega)).trans h.n8, (hb.block _ (by omega)).trans h.n12, (hb.block _ (by omega)).trans h.n16, (hb.block _ (by omega)).trans h.nz, (hb.block _ (by omega)).trans h.n17⟩
theorem GS.mk0 (w : World) (wd : Nat) (a : Option Addr) (n c : Nat) (over under : ByteArray) (cnt : Nat) : GS w w.heap.size (w.heap.size + 1) (w.heap.size + 1 + 1) (w.heap.size + 1 + 1 + 1) (w.heap.size + 1 + 1 + 1 + 1) wd a n c over under cnt
    (((((w.alloc (.cells #[.int .i64 (wd : Int), .slice a n c] 29)).alloc (.cells #[.string over, .string under] 149)).alloc (.cells #[.slice none 0 0, .int .i64 0, .int .i64 0] 146)).alloc (.cells #[] 46)).alloc (.cells #[.slice (some ⟨w.heap.size + 1 + 1 + 1, 0, none⟩) 0 0, .int .i64 (cnt : Int), .int .i64 0] 146)) := by
  have e1 := heap_alloc_new w (.cells #[.int .i64 (wd : Int), .slice a n c] 29)
  have e2 := heap_alloc_new (w.alloc (.cells #[.int .i64 (wd : Int), .slice a n c] 29)) (.cells #[.string over, .string under] 149)
  have e3 := heap_alloc_new ((w.alloc (.cells #[.int .i64 (wd : Int), .slice a n c] 29)).alloc (.cells #[.string over, .string under] 149)) (.cells #[.slice none 0 0, .int .i64 0, .int .i64 0] 146)
  have e4 := heap_alloc_new (((w.alloc (.cells #[.int .i64 (wd : Int), .slice a n c] 29)).alloc (.cells #[.string over, .string under] 149)).alloc (.cells #[.slice none 0 0, .int .i64 0, .int .i64 0] 146)) (.cells #[] 46)
  have e5 := heap_alloc_new ((((w.alloc (.cells #[.int .i64 (wd : Int), .slice a n c] 29)).alloc (.cells #[.string over, .string under] 149)).alloc (.cells #[.slice none 0 0, .int .i64 0, .int .i64 0] 146)).alloc (.cells #[] 46)) (.cells #[.slice (some ⟨w.heap.size + 1 + 1 + 1, 0, none⟩) 0 0, .int .i64 (cnt : Int), .int .i64 0] 146)
  simp only [World.size_alloc] at e1 e2 e3 e4 e5
  refine ⟨rfl, by omega, by omega, by omega, by omega, ?_, ?_, ?_, ?_, ?_, e5⟩
  · exact (((((Below.refl _ _).alloc (Nat.le_refl _) _).alloc (by simp) _).alloc (by simp; omega) _).alloc (by simp; omega) _).alloc (by simp; omega) _
  · rw [Below.heap_alloc _ _ _ (by simp <;> omega), Below.heap_alloc _ _ _ (by simp <;> omega), Below.heap_alloc _ _ _ (by simp <;> omega), Below.heap_alloc _ _ _ (by simp)]; exact e1
  · rw [Below.heap_alloc _ _ _ (by simp <;> omega), Below.heap_alloc _ _ _ (by simp <;> omega), Below.heap_alloc _ _ _ (by simp)]; exact e2
  · rw [Below.heap_alloc _ _ _ (by simp <;> omega), Below.heap_alloc _ _ _ (by simp)]; exact e3
  · rw [Below.heap_alloc _ _ _ (by simp)]; exact e4
/-- The answer, written. -/
theorem GS.fin (h : GS w g8 g12 g16 gz g17 wd a n c over under cnt W) (v0 v1 v2 : Value) :
    (((W.setCell ⟨g16, 0, none⟩ v0).setCell ⟨g16, 1, none⟩ v1).setCell ⟨g16, 2, none⟩ v2).heap[g16]? = some (.cells #[v0, v1, v2] 146) ∧ Below w.heap.size w (((W.setCell ⟨g16, 0, none⟩ v0).setCell ⟨g16, 1, none⟩ v1).setCell ⟨g16, 2, none⟩ v2) ∧ (∀ k, k ≠ g16 → (((W.setCell ⟨g16, 0, none⟩ v0).setCell ⟨g16, 1, none⟩ v1).setCell ⟨g16, 2, none⟩ v2).heap[k]? = W.heap[k]?) := by
  have hg : w.heap.size ≤ g16 := by have := h.sz; have := h.o1; have := h.o2; omega
  refine ⟨heap_setCell_same _ g16 2 _ 146 _ (heap_setCell_same _ g16 1 _ 146 _ (heap_setCell_same _ g16 0 _ 146 _ h.n16)), ((h.bl.setCell hg _).setCell hg _).setCell hg _, fun k hk => ?_⟩
  rw [Below.heap_setCell _ _ _ _ (by exact hk), Below.heap_setCell _ _ _ _ (by exact hk), Below.heap_setCell _ _ _ _ (by exact hk)]
end
theorem retG {W : World} {A : Act} {g16 : Nat} {v0 v1 v2 : Value} {R : Ending → World → Prop} (hp : A.tmps.getD 16 undef = .pointer (some ⟨g16, 0, none⟩)) (hd : A.defers = []) (h : W.heap[g16]? = some (.cells #[v0, v1, v2] 146)) (hR : R (.returned (.agg #[v0, v1, v2])) W) : bodyPost Tryz.prog Tryz.f107 R .ret A W := by
  have q0 := Lib.cell_of_heap h 0
  have q1 := Lib.cell_of_heap h 1
  have q2 := Lib.cell_of_heap h 2
  refine bodyPost_ret (v := .agg #[v0, v1, v2]) ?_ hd hR
  rw [results_cell W (fn := Tryz.f107) (p := 16) (ty := 146) rfl A.tmps _ hp]
  exact run_loadVar_mid W g16 0 146 [v0, v1, v2] _ (fun j u hj => by
    match j, hj with
    | 0, hj => simpa using q0.trans (by simpa using hj)
    | 1, hj => simpa using q1.trans (by simpa using hj)
    | 2, hj => simpa using q2.trans (by simpa using hj)) Tryz.underlying146 rfl (by kernel_rfl)

/-- No pairs: the empty row that the call has laid. -/
theorem own2_nil {w : World} {base gz : Nat} (hb : base ≤ gz) (h : w.heap[gz]? = some (.cells #[] 46)) : w.ownsRow base 46 2 (.slice (some ⟨gz, 0, none⟩) 0 0) 0 [] :=
  ⟨rfl, .inr ⟨gz, 0, #[], rfl, hb, h, by simp⟩⟩
theorem GS.skip {w : World} {g8 g12 g16 gz g17 : Nat} {wd : Nat} {a : Option Addr} {n c : Nat} {over under : ByteArray} {cnt : Nat} {W : World} (h : GS w g8 g12 g16 gz g17 wd a n c over under cnt W) {A : Act} {R : Int × Nat × List PairT} (hR : R = (0, cnt, [])) (hp : A.tmps.getD 16 undef = .pointer (some ⟨g16, 0, none⟩)) (hd : A.defers = []) :
    bodyPost Tryz.prog Tryz.f107 (GoPost R w) .ret A (((W.setCell ⟨g16, 0, none⟩ (.slice (some ⟨gz, 0, none⟩) 0 0)).setCell ⟨g16, 1, none⟩ (.int .i64 (cnt : Int))).setCell ⟨g16, 2, none⟩ (.int .i64 0)) := by
  obtain ⟨h1, h2, h3⟩ := h.fin (.slice (some ⟨gz, 0, none⟩) 0 0) (.int .i64 (cnt : Int)) (.int .i64 0)
  subst hR
  have q1 := h.sz
  have q2 := h.o1
  have q3 := h.o2
  have q4 := h.o3
  refine retG hp hd h1 ⟨fun _ => ⟨some ⟨gz, 0, none⟩, 0, rfl, own2_nil (by omega) ((h3 gz (by omega)).trans h.nz)⟩, fun hne => absurd rfl hne, h2⟩
theorem GS.bad {w : World} {g8 g12 g16 gz g17 : Nat} {wd : Nat} {a : Option Addr} {n c : Nat} {over under : ByteArray} {cnt : Nat} {W : World} (h : GS w g8 g12 g16 gz g17 wd a n c over under cnt W) {A : Act} {R : Int × Nat × List PairT} (i : Int) (hR : R.1 = i) (hi : i ≠ 0) (hp : A.tmps.getD 16 undef = .pointer (some ⟨g16, 0, none⟩)) (hd : A.defers = []) :
    bodyPost Tryz.prog Tryz.f107 (GoPost R w) .ret A (((W.setCell ⟨g16, 0, none⟩ (.slice none 0 0)).setCell ⟨g16, 1, none⟩ (.int .i64 0)).setCell ⟨g16, 2, none⟩ (.int .i64 i)) := by
  obtain ⟨h1, h2, h3⟩ := h.fin (.slice none 0 0) (.int .i64 0) (.int .i64 i)
  exact retG hp hd h1 ⟨fun h0 => absurd (hR.symm.trans h0) hi, fun _ => by rw [hR], h2⟩
end Go.Proofs.YtmoajibmbppkjaeGreatDoor
