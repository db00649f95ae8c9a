import Derived.Test.YtfmpjlpakldheaaGreatDoorZyao
import Derived.Test.YtfmpjlpakldheaaGreatDoorZyan
import Derived.Test.YtfmpjlpakldheaaGreatDoorZyal
import Derived.Deep.AppendLies
import Derived.Deep.Cut
namespace Go.Proofs.YtfmpjlpakldheaaGreatDoor
open Go.RowKit Go.Proofs.Sha

/-- The first place at which p holds. -/
def firstI (p : Nat → Bool) : Nat → Option Nat
  | 0 => none
  | k + 1 => match firstI p k with
    | some i => some i
    | none => if p k then some k else none
theorem firstI_lt {p : Nat → Bool} {k i : Nat} (h : firstI p k = some i) : i < k := by
  induction k with
  | zero => cases h
  | succ k ih =>
    rw [firstI] at h
    cases hk : firstI p k with
    | some j => rw [hk] at h; simp only [Option.some.injEq] at h; subst h; have := ih hk; omega
    | none =>
      rw [hk] at h
      simp only at h
      split at h
      · simp only [Option.some.injEq] at h; omega
      · cases h
theorem placesF_first (wd : Nat) (ss : List ByteArray) (X : List UInt8) (k : Nat) : placesF wd ss k X = (firstI (fun i => decide (keyW wd (ss.getD i ⟨#[]⟩) = X)) k).map fun i => (i : Int) := by
  induction k with
  | zero => rfl
  | succ k ih =>
    rw [placesF, addF, firstI]
    obtain ⟨Y, hY⟩ : ∃ Y, keyW wd (ss.getD k ⟨#[]⟩) = Y := ⟨_, rfl⟩
    rw [hY]
    by_cases hn : placesF wd ss k Y = none
    · rw [if_pos hn]
      by_cases hXY : X = Y
      · subst hXY
        rw [if_pos rfl]
        rw [ih] at hn
        cases hf : firstI (fun i => decide (keyW wd (ss.getD i ⟨#[]⟩) = X)) k with
        | some j => rw [hf] at hn; cases hn
        | none => simp
      · rw [if_neg hXY, ih]
        cases hf : firstI (fun i => decide (keyW wd (ss.getD i ⟨#[]⟩) = X)) k with
        | some j => rfl
        | none => simp [Ne.symm hXY]
    · rw [if_neg hn, ih]
      cases hf : firstI (fun i => decide (keyW wd (ss.getD i ⟨#[]⟩) = X)) k with
      | some j => rfl
      | none =>
        simp only
        by_cases hXY : Y = X
        · subst hXY
          rw [ih, hf] at hn
          exact absurd rfl hn
        · simp [hXY]
def poolOk (n : Int) (m : Nat) : Bool := decide (1 ≤ n ∧ n ≤ 32 ∧ m ≤ 20000)
set_option maxRecDepth 100000 in
theorem validPool_any (n : Int) (a : Option Addr) (m c : Nat) (w : World) (_hm : m ≤ 1048576) :
    Calls Tryz.prog 68 #[.agg #[.int .i64 n, .slice a m c]] w fun e w' => e = .returned (.bool (poolOk n m)) ∧ Below w.heap.size w w' := by
  have hfin : Below w.heap.size w (w.alloc (.cells #[.int .i64 n, .slice a m c] 37)) := (Below.refl _ _).alloc (Nat.le_refl _) _
  by_cases c1 : 1 ≤ n
  · by_cases c2 : n ≤ 32
    · have hr : poolOk n m = decide ((m : Int) ≤ 20000) := by
        unfold poolOk
        by_cases c3 : m ≤ 20000
        · rw [decide_eq_true (by omega), decide_eq_true (by omega)]
        · rw [decide_eq_false (by omega), decide_eq_false (by omega)]
      rw [hr]
      clear hr
      go_enter Tryz.func68, Tryz.ntmps68
      go_wp2_with (first | go_in)
      go_ret
      exact ⟨rfl, hfin⟩
    · have hr : poolOk n m = false := by unfold poolOk; rw [decide_eq_false (by omega)]
      rw [hr]
      clear hr
      go_enter Tryz.func68, Tryz.ntmps68
      go_wp2_with (first | go_in)
      go_ret
      exact ⟨rfl, hfin⟩
  · have hr : poolOk n m = false := by unfold poolOk; rw [decide_eq_false (by omega)]
    rw [hr]
    clear hr
    go_enter Tryz.func68, Tryz.ntmps68
    go_wp2_with (first | go_in)
    go_ret
    exact ⟨rfl, hfin⟩
set_option maxRecDepth 100000 in
theorem poolOk_any (n : Int) (a : Option Addr) (m c : Nat) (w : World) (_hm : m ≤ 1048576) :
    Calls Tryz.prog 73 #[.agg #[.int .i64 n, .slice a m c]] w fun e w' => e = .returned (.bool (poolOk n m)) ∧ Below w.heap.size w w' := by
  have hfin : Below w.heap.size w (w.alloc (.cells #[.int .i64 n, .slice a m c] 37)) := (Below.refl _ _).alloc (Nat.le_refl _) _
  by_cases c1 : 1 ≤ n
  · by_cases c2 : n ≤ 32
    · have hr : poolOk n m = decide ((m : Int) ≤ 20000) := by
        unfold poolOk
        by_cases c3 : m ≤ 20000
        · rw [decide_eq_true (by omega), decide_eq_true (by omega)]
        · rw [decide_eq_false (by omega), decide_eq_false (by omega)]
      rw [hr]
      clear hr
      go_enter Tryz.func73, Tryz.ntmps73
      go_wp2_with (first | go_in)
      go_ret
      exact ⟨rfl, hfin⟩
    · have hr : poolOk n m = false := by unfold poolOk; rw [decide_eq_false (by omega)]
      rw [hr]
      clear hr
      go_enter Tryz.func73, Tryz.ntmps73
      go_wp2_with (first | go_in)
      go_ret
      exact ⟨rfl, hfin⟩
  · have hr : poolOk n m = false := by unfold poolOk; rw [decide_eq_false (by omega)]
    rw [hr]
    clear hr
    go_enter Tryz.func73, Tryz.ntmps73
    go_wp2_with (first | go_in)
    go_ret
    exact ⟨rfl, hfin⟩

/-- What DecodeNode answers, at one width. -/
structure Dec where
  k : ByteArray → ByteArray
  v : ByteArray → ByteArray
  l : ByteArray → ByteArray
  r : ByteArray → ByteArray
  ok : ByteArray → Bool
def DecSaid (f : FuncId) (wd : Nat) (D : Dec) : Prop := ∀ (s : ByteArray) (w : World), s.size ≤ 1048576 → Calls Tryz.prog f #[.string s, .int .i64 (wd : Int)] w fun e w' => e = .returned (.tuple #[.agg #[.string (D.k s), .string (D.v s), .string (D.l s), .string (D.r s)], .bool (D.ok s)]) ∧ Below w.heap.size w w'
/-- What PoolFind answers. -/
def foundR (D : Dec) (ss : List ByteArray) : Option Nat → (ByteArray × ByteArray × ByteArray × ByteArray) × Int
  | none => ((⟨#[]⟩, ⟨#[]⟩, ⟨#[]⟩, ⟨#[]⟩), 2)
  | some i => if D.ok (ss.getD i ⟨#[]⟩) then ((D.k (ss.getD i ⟨#[]⟩), D.v (ss.getD i ⟨#[]⟩), D.l (ss.getD i ⟨#[]⟩), D.r (ss.getD i ⟨#[]⟩)), 0) else ((⟨#[]⟩, ⟨#[]⟩, ⟨#[]⟩, ⟨#[]⟩), 3)
def nodeT (x : (ByteArray × ByteArray × ByteArray × ByteArray) × Int) : Value := .tuple #[.agg #[.string x.1.1, .string x.1.2.1, .string x.1.2.2.1, .string x.1.2.2.2], .int .i64 x.2]
/-- The hashes in the pool that are this one. -/
def hitB (wd : Nat) (ss : List ByteArray) (hash : ByteArray) (i : Nat) : Bool := decide ((sha (78 :: (ss.getD i ⟨#[]⟩).data.toList)).take wd = hash.data.toList)
theorem key_hit (wd : Nat) (ss : List ByteArray) (hash : ByteArray) (_h1 : wd ≤ 32) (h2 : hash.size = wd) (i : Nat) : decide (keyW wd (ss.getD i ⟨#[]⟩) = cutW wd hash.data.toList) = hitB wd ss hash i := by
  unfold keyW cutW hitB
  have hl : hash.data.toList.length = wd := h2
  rw [List.take_of_length_le (l := hash.data.toList) (by omega)]
  congr 1
  rw [List.append_cancel_right_eq]
end Go.Proofs.YtfmpjlpakldheaaGreatDoor
namespace Go.Proofs.YtfmpjlpakldheaaGreatDoor
open Go.RowKit Go.Proofs.Sha

theorem own2_cells {w : World} {base g n : Nat} {v : Value} {xs : List Value} (h : w.ownsRow base 34 2 v n xs) (hv : v.ownBlock = some g) : base ≤ g ∧ g < w.heap.size ∧ ∃ cur, w.heap[g]? = some (.cells cur 34 (0, 0)) := by
  rcases h.2 with ⟨rfl, _⟩ | ⟨g', cap, cur, rfl, hb, hg, _⟩
  · cases hv
  · obtain rfl : g' = g := Option.some.inj hv
    exact ⟨hb, (Array.getElem?_eq_some_iff.1 hg).1, cur, hg⟩
theorem own2_kept {w w' : World} {base n : Nat} {v : Value} {xs : List Value} (h : w.ownsRow base 34 2 v n xs) (hk : ∀ g, v.ownBlock = some g → g < w.heap.size → w'.heap[g]? = w.heap[g]?) : w'.ownsRow base 34 2 v n xs := by
  refine ⟨h.1, ?_⟩
  rcases h.2 with ⟨h1, h2⟩ | ⟨g, cap, cur, hv, hb, hg, rest⟩
  · exact .inl ⟨h1, h2⟩
  · exact .inr ⟨g, cap, cur, hv, hb, (hk g (by rw [hv]; rfl) (Array.getElem?_eq_some_iff.1 hg).1).trans hg, rest⟩
theorem own2_mono {w : World} {base base' n : Nat} {v : Value} {xs : List Value} (h : w.ownsRow base 34 2 v n xs) (hb : base' ≤ base) : w.ownsRow base' 34 2 v n xs := by
  refine ⟨h.1, ?_⟩
  rcases h.2 with ⟨h1, h2⟩ | ⟨g, cap, cur, hv, hg, rest⟩
  · exact .inl ⟨h1, h2⟩
  · exact .inr ⟨g, cap, cur, hv, Nat.le_trans hb hg, rest⟩
/-- What a walk of the model answers. -/
def GoPost (R : Int × Nat × List PairT) (w : World) (e : Ending) (w' : World) : Prop :=
  (R.1 = 0 → ∃ a c, e = .returned (.agg #[.slice a R.2.2.length c, .int .i64 (R.2.1 : Int), .int .i64 0]) ∧ w'.ownsRow w.heap.size 34 2 (.slice a R.2.2.length c) R.2.2.length (flatP R.2.2)) ∧
  (R.1 ≠ 0 → e = .returned (.agg #[.slice none 0 0, .int .i64 0, .int .i64 R.1])) ∧ Below w.heap.size w w'
/-- The blocks that a call has of its own. -/
structure GS (w : World) (g8 g12 g16 gz g17 : Nat) (wd : Nat) (a : Option Addr) (n c : Nat) (over under : ByteArray) (cnt : Nat) (W : World) : Prop where
  sz : w.heap.size = g8
  o1 : g8 < g12
  o2 : g12 < g16
  o3 : g16 < gz
  o4 : gz < g17
  bl : Below w.heap.size w W
  n8 : W.heap[g8]? = some (.cells #[.int .i64 (wd : Int), .slice a n c] 37)
  n12 : W.heap[g12]? = some (.cells #[.string over, .string under] 106)
  n16 : W.heap[g16]? = some (.cells #[.slice none 0 0, .int .i64 0, .int .i64 0] 102)
  nz : W.heap[gz]? = some (.cells #[] 34)
  n17 : W.heap[g17]? = some (.cells #[.slice (some ⟨gz, 0, none⟩) 0 0, .int .i64 (cnt : Int), .int .i64 0] 102)
section
variable {w : World} {g8 g12 g16 gz g17 : Nat} {wd : Nat} {a : Option Addr} {n c : Nat} {over under : ByteArray} {cnt : Nat} {W W' : World}
theorem GS.lt (h : GS w g8 g12 g16 gz g17 wd a n c over under cnt W) : g17 < W.heap.size := (Array.getElem?_eq_some_iff.1 h.n17).1
theorem GS.below (h : GS w g8 g12 g16 gz g17 wd a n c over under cnt W) (hb : Below W.heap.size W W') : GS w g8 g12 g16 gz g17 wd a n c over under cnt W' := by
  have l := h.lt
  have h1 := h.o1
  have h2 := h.o2
  have h3 := h.o3
  have h4 := h.o4
  exact ⟨h.sz, h1, h2, h3, h4, h.bl.trans (hb.mono h.bl.size), (hb.block _ (by omega)).trans h.n8, (hb.block _ (by omega)).trans h.n12, (hb.block _ (by omega)).trans h.n16, (hb.block _ (by omega)).trans h.nz, (hb.block _ (by omega)).trans h.n17⟩
theorem GS.mk0 (w : World) (wd : Nat) (a : Option Addr) (n c : Nat) (over under : ByteArray) (cnt : Nat) : GS w w.heap.size (w.heap.size + 1) (w.heap.size + 1 + 1) (w.heap.size + 1 + 1 + 1) (w.heap.size + 1 + 1 + 1 + 1) wd a n c over under cnt
    (((((w.alloc (.cells #[.int .i64 (wd : Int), .slice a n c] 37)).alloc (.cells #[.string over, .string under] 106)).alloc (.cells #[.slice none 0 0, .int .i64 0, .int .i64 0] 102)).alloc (.cells #[] 34)).alloc (.cells #[.slice (some ⟨w.heap.size + 1 + 1 + 1, 0, none⟩) 0 0, .int .i64 (cnt : Int), .int .i64 0] 102)) := by
  have e1 := heap_alloc_new w (.cells #[.int .i64 (wd : Int), .slice a n c] 37)
  have e2 := heap_alloc_new (w.alloc (.cells #[.int .i64 (wd : Int), .slice a n c] 37)) (.cells #[.string over, .string under] 106)
  have e3 := heap_alloc_new ((w.alloc (.cells #[.int .i64 (wd : Int), .slice a n c] 37)).alloc (.cells #[.string over, .string under] 106)) (.cells #[.slice none 0 0, .int .i64 0, .int .i64 0] 102)
  have e4 := heap_alloc_new (((w.alloc (.cells #[.int .i64 (wd : Int), .slice a n c] 37)).alloc (.cells #[.string over, .string under] 106)).alloc (.cells #[.slice none 0 0, .int .i64 0, .int .i64 0] 102)) (.cells #[] 34)
  have e5 := heap_alloc_new ((((w.alloc (.cells #[.int .i64 (wd : Int), .slice a n c] 37)).alloc (.cells #[.string over, .string under] 106)).alloc (.cells #[.slice none 0 0, .int .i64 0, .int .i64 0] 102)).alloc (.cells #[] 34)) (.cells #[.slice (some ⟨w.heap.size + 1 + 1 + 1, 0, none⟩) 0 0, .int .i64 (cnt : Int), .int .i64 0] 102)
  simp only [World.size_alloc] at e1 e2 e3 e4 e5
  refine ⟨rfl, by omega, by omega, by omega, by omega, ?_, ?_, ?_, ?_, ?_, e5⟩
  · exact (((((Below.refl _ _).alloc (Nat.le_refl _) _).alloc (by simp) _).alloc (by simp; omega) _).alloc (by simp; omega) _).alloc (by simp; omega) _
  · rw [Below.heap_alloc _ _ _ (by simp <;> omega), Below.heap_alloc _ _ _ (by simp <;> omega), Below.heap_alloc _ _ _ (by simp <;> omega), Below.heap_alloc _ _ _ (by simp)]; exact e1
  · rw [Below.heap_alloc _ _ _ (by simp <;> omega), Below.heap_alloc _ _ _ (by simp <;> omega), Below.heap_alloc _ _ _ (by simp)]; exact e2
  · rw [Below.heap_alloc _ _ _ (by simp <;> omega), Below.heap_alloc _ _ _ (by simp)]; exact e3
  · rw [Below.heap_alloc _ _ _ (by simp)]; exact e4
/-- The answer, written. -/
theorem GS.fin (h : GS w g8 g12 g16 gz g17 wd a n c over under cnt W) (v0 v1 v2 : Value) :
    (((W.setCell ⟨g16, 0, none⟩ v0).setCell ⟨g16, 1, none⟩ v1).setCell ⟨g16, 2, none⟩ v2).heap[g16]? = some (.cells #[v0, v1, v2] 102) ∧ Below w.heap.size w (((W.setCell ⟨g16, 0, none⟩ v0).setCell ⟨g16, 1, none⟩ v1).setCell ⟨g16, 2, none⟩ v2) ∧ (∀ k, k ≠ g16 → (((W.setCell ⟨g16, 0, none⟩ v0).setCell ⟨g16, 1, none⟩ v1).setCell ⟨g16, 2, none⟩ v2).heap[k]? = W.heap[k]?) := by
  have hg : w.heap.size ≤ g16 := by have := h.sz; have := h.o1; have := h.o2; omega
  refine ⟨heap_setCell_same _ g16 2 _ 102 _ (heap_setCell_same _ g16 1 _ 102 _ (heap_setCell_same _ g16 0 _ 102 _ h.n16)), ((h.bl.setCell hg _).setCell hg _).setCell hg _, fun k hk => ?_⟩
  rw [Below.heap_setCell _ _ _ _ (by exact hk), Below.heap_setCell _ _ _ _ (by exact hk), Below.heap_setCell _ _ _ _ (by exact hk)]
end
theorem retG {W : World} {A : Act} {g16 : Nat} {v0 v1 v2 : Value} {R : Ending → World → Prop} (hp : A.tmps.getD 16 undef = .pointer (some ⟨g16, 0, none⟩)) (hd : A.defers = []) (h : W.heap[g16]? = some (.cells #[v0, v1, v2] 102)) (hR : R (.returned (.agg #[v0, v1, v2])) W) : bodyPost Tryz.prog Tryz.f75 R .ret A W := by
  have q0 := Lib.cell_of_heap h 0
  have q1 := Lib.cell_of_heap h 1
  have q2 := Lib.cell_of_heap h 2
  refine bodyPost_ret (v := .agg #[v0, v1, v2]) ?_ hd hR
  rw [results_cell W (fn := Tryz.f75) (p := 16) (ty := 102) rfl A.tmps _ hp]
  exact run_loadVar_mid W g16 0 102 [v0, v1, v2] _ (fun j u hj => by
    match j, hj with
    | 0, hj => simpa using q0.trans (by simpa using hj)
    | 1, hj => simpa using q1.trans (by simpa using hj)
    | 2, hj => simpa using q2.trans (by simpa using hj)) Tryz.underlying102 rfl (by kernel_rfl)

/-- No pairs: the empty row that the call has laid. -/
theorem own2_nil {w : World} {base gz : Nat} (hb : base ≤ gz) (h : w.heap[gz]? = some (.cells #[] 34)) : w.ownsRow base 34 2 (.slice (some ⟨gz, 0, none⟩) 0 0) 0 [] :=
  ⟨rfl, .inr ⟨gz, 0, #[], rfl, hb, h, by simp⟩⟩
theorem GS.skip {w : World} {g8 g12 g16 gz g17 : Nat} {wd : Nat} {a : Option Addr} {n c : Nat} {over under : ByteArray} {cnt : Nat} {W : World} (h : GS w g8 g12 g16 gz g17 wd a n c over under cnt W) {A : Act} {R : Int × Nat × List PairT} (hR : R = (0, cnt, [])) (hp : A.tmps.getD 16 undef = .pointer (some ⟨g16, 0, none⟩)) (hd : A.defers = []) :
    bodyPost Tryz.prog Tryz.f75 (GoPost R w) .ret A (((W.setCell ⟨g16, 0, none⟩ (.slice (some ⟨gz, 0, none⟩) 0 0)).setCell ⟨g16, 1, none⟩ (.int .i64 (cnt : Int))).setCell ⟨g16, 2, none⟩ (.int .i64 0)) := by
  obtain ⟨h1, h2, h3⟩ := h.fin (.slice (some ⟨gz, 0, none⟩) 0 0) (.int .i64 (cnt : Int)) (.int .i64 0)
  subst hR
  have q1 := h.sz
  have q2 := h.o1
  have q3 := h.o2
  have q4 := h.o3
  refine retG hp hd h1 ⟨fun _ => ⟨some ⟨gz, 0, none⟩, 0, rfl, own2_nil (by omega) ((h3 gz (by omega)).trans h.nz)⟩, fun hne => absurd rfl hne, h2⟩
theorem GS.bad {w : World} {g8 g12 g16 gz g17 : Nat} {wd : Nat} {a : Option Addr} {n c : Nat} {over under : ByteArray} {cnt : Nat} {W : World} (h : GS w g8 g12 g16 gz g17 wd a n c over under cnt W) {A : Act} {R : Int × Nat × List PairT} (i : Int) (hR : R.1 = i) (hi : i ≠ 0) (hp : A.tmps.getD 16 undef = .pointer (some ⟨g16, 0, none⟩)) (hd : A.defers = []) :
    bodyPost Tryz.prog Tryz.f75 (GoPost R w) .ret A (((W.setCell ⟨g16, 0, none⟩ (.slice none 0 0)).setCell ⟨g16, 1, none⟩ (.int .i64 0)).setCell ⟨g16, 2, none⟩ (.int .i64 i)) := by
  obtain ⟨h1, h2, h3⟩ := h.fin (.slice none 0 0) (.int .i64 0) (.int .i64 i)
  exact retG hp hd h1 ⟨fun h0 => absurd (hR.symm.trans h0) hi, fun _ => by rw [hR], h2⟩
end Go.Proofs.YtfmpjlpakldheaaGreatDoor
namespace Go.Proofs.YtfmpjlpakldheaaGreatDoor
open Go.RowKit Go.Proofs.Sha

theorem drop_getD (ps : List PairT) (i : Nat) (h : i < ps.length) : ps.drop i = ps.getD i noPair :: ps.drop (i + 1) := by
  rw [List.drop_eq_getElem_cons h]
  congr 1
  simp [List.getD_eq_getElem?_getD, List.getElem?_eq_getElem h]
theorem ba_eq {a b : ByteArray} : (a.toList == b.toList) = decide (a = b) := by
  by_cases e : a = b
  · subst e; simp
  · rw [decide_eq_false e, beq_eq_false_iff_ne]
    intro h
    rw [ByteArray.toList_eq, ByteArray.toList_eq] at h
    exact e (ByteArray.ext (Array.toList_inj.1 h))
set_option maxRecDepth 100000 in
set_option maxHeartbeats 400000 in
theorem get_any (a : Option Addr) (ps : List PairT) (c : Nat) (key : ByteArray) (w : World) (h : PArg a ps w) :
    Calls Tryz.prog 129 #[.slice a ps.length c, .string key] w fun e w' => e = .returned (.tuple #[.string (getP ps key).1, .bool (getP ps key).2]) ∧ Below w.heap.size w w' := by
  have hn := h.le
  obtain ⟨N, hN⟩ : ∃ N, ps.length = N := ⟨_, rfl⟩
  rw [hN] at hn ⊢
  have hNl : Hid (ps.length = N) := hN
  clear hN
  obtain ⟨G, hG⟩ : ∃ G, getP ps key = G := ⟨_, rfl⟩
  rw [hG]
  have HG : Hid (getP ps key = G) := hG
  clear hG
  go_enter Tryz.func129, Tryz.ntmps129
  go_wp2_with fail
  go_loopw [6] (fun t wr => ∃ k : Nat, k ≤ N ∧ t = .int .i64 (k : Int) ∧ Hid (getP (ps.drop k) key = G) ∧ Below w.heap.size w wr) (fun t _ => N - (intOf t).toNat)
  case atStart => exact ⟨0, Nat.zero_le _, rfl, HG.out, Below.refl _ _⟩
  case round =>
    obtain ⟨k, hk, rfl, hgk, hbw⟩ := hrel
    by_cases hlt : k < N
    · have z1 : decide ((k : Int) < (N : Int)) = true := by simp; omega
      have hx0 : (0 : Int) ≤ (k : Int) := Int.natCast_nonneg _
      have hx1 : (k : Int) < (N : Int) := by omega
      obtain ⟨b1, off1, rfl, hbl1, hc⟩ := (h.below hbw).at_ (by rw [hNl.out]; omega)
      obtain ⟨hc1, hc2⟩ := hc k (by rw [hNl.out]; exact hlt)
      have hgk' := hgk.out
      rw [drop_getD ps k (by rw [hNl.out]; exact hlt)] at hgk'
      generalize ps.getD k noPair = p at hc1 hc2 hgk'
      obtain ⟨pk, pv⟩ := p
      simp only at hc1 hc2
      rw [getP] at hgk'
      simp only at hgk'
      by_cases e : pk = key
      · rw [if_pos e] at hgk'
        have z2 : (pk.toList == key.toList) = true := by rw [ba_eq]; exact decide_eq_true e
        have HF : Hid (G = (pv, true)) := hgk'.symm
        clear hgk' hgk HG e hc
        go_wp2_with fail
        go_ret2
        exact ⟨by rw [HF.out]; rfl, hbw⟩
      · rw [if_neg e] at hgk'
        have z2 : (pk.toList == key.toList) = false := by rw [ba_eq]; exact decide_eq_false e
        have HF : Hid (getP (ps.drop (k + 1)) key = G) := hgk'
        clear hgk' hgk HG e hc
        go_wp2_with fail
        go_roundw
        case rel => exact ⟨k + 1, hlt, by go_num, HF.out, hbw⟩
        case measure => simp [intOf]; omega
    · obtain rfl : k = N := by omega
      have z1 : decide ((k : Int) < (k : Int)) = false := by simp
      have HF : Hid (G = (⟨#[]⟩, false)) := by
        have := hgk.out
        rw [List.drop_of_length_le (by rw [hNl.out]; exact Nat.le_refl _), getP] at this
        exact this.symm
      clear hgk HG
      go_wp2_with fail
      go_ret2
      exact ⟨by rw [HF.out]; rfl, hbw⟩
/-- A row of pairs of the call's own, while it is put together. -/
structure OwnP (w : World) (xs : List PairT) (a : Option Addr) (m c : Nat) (W : World) : Prop where
  own : W.ownsRow w.heap.size 34 2 (.slice a m c) m (flatP xs)
  bel : Below w.heap.size w W
  len : xs.length = m
theorem OwnP.below {w W W' : World} {xs : List PairT} {a : Option Addr} {m c : Nat} (h : OwnP w xs a m c W) (hb : Below W.heap.size W W') : OwnP w xs a m c W' :=
  ⟨own2_kept h.own (fun q _ hq => hb.block q hq), h.bel.trans (hb.mono h.bel.size), h.len⟩
theorem OwnP.more {w W W' : World} {xs : List PairT} {a : Option Addr} {m c m' g cap : Nat} {y : PairT} {o : Obj} (h : OwnP w xs a m c W) (hown : W'.ownsRow w.heap.size 34 2 (.slice (some ⟨g, 0, none⟩) m' cap) m' (flatP xs ++ [.string y.1, .string y.2])) (hgrow : (W.alloc o).grownBy W' (Value.slice a m c).ownBlock) (hm : m' = m + 1) : OwnP w (xs ++ [y]) (some ⟨g, 0, none⟩) m' cap W' := by
  have ha := h.below ((Below.refl W.heap.size W).alloc (Nat.le_refl _) o)
  refine ⟨by rw [flatP_app]; exact hown, ha.bel.grown hgrow ha.bel.size (fun q hq => (own2_cells ha.own hq).1), by rw [List.length_append, h.len, hm]; rfl⟩
/-- What a function that makes pairs answers. -/
def PairsAt (xs : List PairT) (w : World) (e : Ending) (w' : World) : Prop := ∃ a c, e = .returned (.slice a xs.length c) ∧ OwnP w xs a xs.length c w'
end Go.Proofs.YtfmpjlpakldheaaGreatDoor
namespace Go.Proofs.YtfmpjlpakldheaaGreatDoor
open Go.RowKit Go.Proofs.Sha

theorem take_getD (ps : List PairT) (i : Nat) (h : i < ps.length) : ps.take (i + 1) = ps.take i ++ [ps.getD i noPair] := by
  rw [List.take_add_one, List.getElem?_eq_getElem h]
  simp [List.getD_eq_getElem?_getD, List.getElem?_eq_getElem h]
theorem wout_app (a b : List PairT) (k : ByteArray) : wout (a ++ b) k = wout a k ++ wout b k := List.filter_append ..
theorem wout_le (ps : List PairT) (k : ByteArray) : (wout ps k).length ≤ ps.length := List.length_filter_le ..
theorem OwnP.nil (w : World) : OwnP w [] (some ⟨w.heap.size, 0, none⟩) 0 0 (w.alloc (.cells #[] 34)) :=
  ⟨own2_nil (Nat.le_refl _) (heap_alloc_new w _), (Below.refl _ _).alloc (Nat.le_refl _) _, rfl⟩
set_option maxRecDepth 100000 in
set_option maxHeartbeats 1000000 in
theorem without_any (a : Option Addr) (ps : List PairT) (c : Nat) (key : ByteArray) (w : World) (h : PArg a ps w) : Calls Tryz.prog 94 #[.slice a ps.length c, .string key] w (PairsAt (wout ps key) w) := by
  obtain ⟨i0, hi0, hz0, hz1, hz2⟩ := info_parts2 info37
  have hn := h.le
  obtain ⟨N, hN⟩ : ∃ N, ps.length = N := ⟨_, rfl⟩
  rw [hN] at hn ⊢
  have hNl : Hid (ps.length = N) := hN
  clear hN
  have hO := OwnP.nil w
  go_enter Tryz.func94, Tryz.ntmps94
  go_wp2_with fail
  go_loopw [5, 6] (fun t5 t6 wr => ∃ k : Nat, k ≤ N ∧ t6 = .int .i64 (k : Int) ∧ ∃ (a' : Option Addr) (m d' : Nat), t5 = .slice a' m d' ∧ OwnP w (wout (ps.take k) key) a' m d' wr) (fun _ t6 _ => N - (intOf t6).toNat)
  case atStart => exact ⟨0, Nat.zero_le _, rfl, _, _, _, rfl, hO⟩
  case round =>
    obtain ⟨k, hk, rfl, a', m, d', rfl, hW⟩ := hrel
    by_cases hlt : k < N
    · have z1 : decide ((k : Int) < (N : Int)) = true := by simp; omega
      have hx0 : (0 : Int) ≤ (k : Int) := Int.natCast_nonneg _
      have hx1 : (k : Int) < (N : Int) := by omega
      obtain ⟨b1, off1, rfl, hbl1, hc⟩ := (h.below hW.bel).at_ (by rw [hNl.out]; omega)
      obtain ⟨hc1, hc2⟩ := hc k (by rw [hNl.out]; exact hlt)
      have hml : m ≤ 1048576 := by have := hW.len; have := wout_le (ps.take k) key; rw [List.length_take] at this; omega
      have htk : Hid (wout (ps.take (k + 1)) key = wout (ps.take k) key ++ wout [ps.getD k noPair] key) := by
        show _ = _
        rw [take_getD ps k (by rw [hNl.out]; exact hlt), wout_app]
      generalize ps.getD k noPair = p at hc1 hc2 htk
      obtain ⟨pk, pv⟩ := p
      simp only at hc1 hc2
      have hbs := hW.bel.size
      by_cases e : pk = key
      · have z2 : (pk.toList == key.toList) = true := by rw [ba_eq, decide_eq_true e]
        have hf : Hid (wout [(pk, pv)] key = []) := by show _ = _; simp [wout, e]
        clear e hc
        go_wp2_with fail
        go_roundw
        case rel => exact ⟨k + 1, hlt, by go_num, _, _, _, rfl, by rw [htk.out, hf.out, List.append_nil]; exact hW⟩
        case measure => simp [intOf]; omega
      · have z2 : (pk.toList == key.toList) = false := by rw [ba_eq, decide_eq_false e]
        have hf : Hid (wout [(pk, pv)] key = [(pk, pv)]) := by show _ = _; simp [wout, e]
        have own := hW.own
        clear e hc
        go_wp2_with (at_builtin; refine wpList_append_lies _ rfl (.tmp 21) (.tmp 26) 23 rfl w.heap.size 34 i0 (.agg #[.string ⟨#[]⟩, .string ⟨#[]⟩]) 2 32 Tryz.underlying23 hi0 hz0 hz1 hz2 rfl (by decide) (.slice a' m d') m (flatP (wout (ps.take k) key)) rfl (own.alloc _) ⟨wr.heap.size, 0, none⟩ 1 1 [.string pk, .string pv] rfl rfl (World.news_of_block (heap_alloc_new wr _)) (by simp [Value.oneCell']) (by decide) (by unfold maxLen; omega) (by omega) (by simp; omega) (wr.heap.size + 1) (by simp) ?_; intro g5 c5 w5 hown5 hgrow5 hat5 hlt5)
        go_roundw
        case rel => exact ⟨k + 1, hlt, by go_num, _, _, _, rfl, by rw [htk.out, hf.out]; exact hW.more hown5 hgrow5 rfl⟩
        case measure => simp [intOf]; omega
    · obtain rfl : k = N := by omega
      have z1 : decide ((k : Int) < (k : Int)) = false := by simp
      rw [List.take_of_length_le (by rw [hNl.out]; exact Nat.le_refl _)] at hW
      have hl := hW.len
      subst hl
      go_wp2_with fail
      go_ret
      exact ⟨_, _, rfl, hW⟩
end Go.Proofs.YtfmpjlpakldheaaGreatDoor
namespace Go.Proofs.YtfmpjlpakldheaaGreatDoor
open Go.RowKit Go.Proofs.Sha

/-- A node's block. -/
def NBk (g : Nat) (k v l r : ByteArray) (w : World) : Prop := w.heap[g]? = some (.cells #[.string k, .string v, .string l, .string r] 128)
theorem NBk.below {g : Nat} {k v l r : ByteArray} {w w' : World} (h : NBk g k v l r w) (hb : Below w.heap.size w w') : NBk g k v l r w' := (hb.block g (Array.getElem?_eq_some_iff.1 h).1).trans h
theorem NBk.all {g : Nat} {k v l r : ByteArray} {w : World} (h : NBk g k v l r w) (x y z u : ByteArray) : NBk g x y z u ((((w.setCell ⟨g, 0, none⟩ (.string x)).setCell ⟨g, 1, none⟩ (.string y)).setCell ⟨g, 2, none⟩ (.string z)).setCell ⟨g, 3, none⟩ (.string u)) :=
  heap_setCell_same _ g 3 _ 128 _ (heap_setCell_same _ g 2 _ 128 _ (heap_setCell_same _ g 1 _ 128 _ (heap_setCell_same _ g 0 _ 128 _ h)))
theorem NBk.fr {g j : Nat} {k v l r : ByteArray} {w : World} (h : NBk g k v l r w) : w.frozen? ⟨g, j, none⟩ = false := by rw [World.frozen?, show w.heap[g]? = _ from h]; rfl
structure NBc (g : Nat) (k v l r : ByteArray) (w : World) : Prop where
  c0 : w.cell? ⟨g, 0, none⟩ = some (.string k)
  c1 : w.cell? ⟨g, 1, none⟩ = some (.string v)
  c2 : w.cell? ⟨g, 2, none⟩ = some (.string l)
  c3 : w.cell? ⟨g, 3, none⟩ = some (.string r)
  f0 : w.frozen? ⟨g, 0, none⟩ = false
  f1 : w.frozen? ⟨g, 1, none⟩ = false
  f2 : w.frozen? ⟨g, 2, none⟩ = false
  f3 : w.frozen? ⟨g, 3, none⟩ = false
theorem NBk.at {g : Nat} {k v l r : ByteArray} {w : World} (h : NBk g k v l r w) : NBc g k v l r w :=
  ⟨Lib.cell_of_heap h 0, Lib.cell_of_heap h 1, Lib.cell_of_heap h 2, Lib.cell_of_heap h 3, h.fr, h.fr, h.fr, h.fr⟩
set_option maxRecDepth 100000 in
theorem retN {fn : Func} {R : Ending → World → Prop} {A : Act} {p q : Tmp} {gb : Nat} {k v l r : ByteArray} {c : Int} {W : World} (hres : fn.results = #[.cell p 128, .tmp q]) (hp : A.tmps.getD p undef = .pointer (some ⟨gb, 0, none⟩)) (hq : A.tmps.getD q undef = .int .i64 c) (hd : A.defers = []) (n : NBk gb k v l r W)
    (h : R (.returned (nodeT ((k, v, l, r), c))) W) : bodyPost Tryz.prog fn R Exit.ret A W := by
  obtain ⟨c0, c1, c2, c3, _, _, _, _⟩ := n.at
  have hp' : A.tmps[p]?.getD undef = .pointer (some ⟨gb, 0, none⟩) := by simpa using hp
  have hq' : A.tmps[q]?.getD undef = .int .i64 c := by simpa using hq
  refine bodyPost_ret (v := nodeT ((k, v, l, r), c)) ?_ hd h
  unfold nodeT
  simp [results, hres, go_sem, asAddr, hp', hq', c0, c1, c2, c3]
/-- A call whose argument is a pool and which answers a node. -/
structure P2 (w : World) (ga gb : Nat) (n : Int) (a : Option Addr) (m c : Nat) (W : World) : Prop where
  sz : w.heap.size = ga
  nx : gb = ga + 1
  bl : Below ga w W
  na : W.heap[ga]? = some (.cells #[.int .i64 n, .slice a m c] 37)
  nb : NBk gb ⟨#[]⟩ ⟨#[]⟩ ⟨#[]⟩ ⟨#[]⟩ W
section
variable {w : World} {ga gb : Nat} {n : Int} {a : Option Addr} {m c : Nat} {W W' : World}
theorem P2.mk0 (w : World) (n : Int) (a : Option Addr) (m c : Nat) : P2 w w.heap.size (w.heap.size + 1) n a m c ((w.alloc (.cells #[.int .i64 n, .slice a m c] 37)).alloc (.cells #[.string ⟨#[]⟩, .string ⟨#[]⟩, .string ⟨#[]⟩, .string ⟨#[]⟩] 128)) := by
  refine ⟨rfl, rfl, ((Below.refl _ w).alloc (Nat.le_refl _) _).alloc (by simp) _, ?_, ?_⟩
  · exact (((Below.refl _ (w.alloc (.cells #[.int .i64 n, .slice a m c] 37))).alloc (Nat.le_refl _) _).block _ (by simp)).trans (heap_alloc_new w _)
  · have := heap_alloc_new (w.alloc (.cells #[.int .i64 n, .slice a m c] 37)) (.cells #[.string ⟨#[]⟩, .string ⟨#[]⟩, .string ⟨#[]⟩, .string ⟨#[]⟩] 128)
    rw [World.size_alloc] at this
    exact this
theorem P2.below (h : P2 w ga gb n a m c W) (hb : Below W.heap.size W W') : P2 w ga gb n a m c W' :=
  ⟨h.sz, h.nx, h.bl.trans (hb.mono (by have := h.bl.size; have := h.sz; omega)), (hb.block ga (Array.getElem?_eq_some_iff.1 h.na).1).trans h.na, h.nb.below hb⟩
theorem P2.fin (h : P2 w ga gb n a m c W) (x y z u : ByteArray) : Below w.heap.size w ((((W.setCell ⟨gb, 0, none⟩ (.string x)).setCell ⟨gb, 1, none⟩ (.string y)).setCell ⟨gb, 2, none⟩ (.string z)).setCell ⟨gb, 3, none⟩ (.string u)) := by
  have hge : ga ≤ gb := by have := h.nx; omega
  rw [h.sz]
  exact (((h.bl.setCell hge _).setCell hge _).setCell hge _).setCell hge _
theorem P2.set4 (h : P2 w ga gb n a m c W) {g : Nat} (hg : gb < g) (x y z u : Value) : P2 w ga gb n a m c ((((W.setCell ⟨g, 0, none⟩ x).setCell ⟨g, 1, none⟩ y).setCell ⟨g, 2, none⟩ z).setCell ⟨g, 3, none⟩ u) := by
  have hge : gb + 1 ≤ g := hg
  have hb : Below (gb + 1) W ((((W.setCell ⟨g, 0, none⟩ x).setCell ⟨g, 1, none⟩ y).setCell ⟨g, 2, none⟩ z).setCell ⟨g, 3, none⟩ u) := ((((Below.refl _ W).setCell hge _).setCell hge _).setCell hge _).setCell hge _
  have hx := h.nx
  exact ⟨h.sz, h.nx, h.bl.trans (hb.mono (by omega)), (hb.block ga (by omega)).trans h.na, (hb.block gb (by omega)).trans h.nb⟩
theorem P2.bw (h : P2 w ga gb n a m c W) : Below w.heap.size w W := by rw [h.sz]; exact h.bl
end

end Go.Proofs.YtfmpjlpakldheaaGreatDoor
