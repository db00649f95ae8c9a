import Derived.Test.YtibjhkpgaaapaaaGreatDoorZgaq
import Derived.Test.YtibjhkpgaaapaaaGreatDoorZgap
import Derived.Test.YtibjhkpgaaapaaaGreatDoorZgas
import Derived.WalkLawsBesides
import Derived.Test.YtibjhkpgaaapaaaGreatDoorZgak
import Derived.Lib.BufferWrite
import Derived.Test.YtibjhkpgaaapaaaGreatDoorZgar
import Derived.Test.YtibjhkpgaaapaaaGreatDoorZgan
import Derived.Deep.AppendLies
import Derived.Deep.RegionLaw
set_option maxRecDepth 100000
namespace Go.Proofs.YtibjhkpgaaapaaaGreatDoor
open Go.RowKit Go.Proofs.Sha

/-- How a proof that is refused ends. -/
abbrev badP : Ending := .panicked [{ v := .iface 205 (.agg #[]), recovered := false }]
theorem req_yes (w : World) : Calls Tryz.prog 93 #[.bool true] w fun e w' => e = .returned (.tuple #[]) ∧ w = w' := by
  go_enter Tryz.func93, Tryz.ntmps93
  go_wp2
  go_end0
  exact ⟨rfl, rfl⟩
theorem req_no (w : World) : Calls Tryz.prog 93 #[.bool false] w fun e w' => e = badP ∧ w = w' := by
  go_enter Tryz.func93, Tryz.ntmps93
  go_wp2
  exact ⟨rfl, rfl, rfl⟩
/-- A byte of a text. -/
def bAt (s : ByteArray) (a : Nat) : Nat := (s.data.toList.getD a 0).toNat
/-- The reader of proofs. -/
def PR (q rb : Nat) (wd : Nat) (lo hi : ByteArray) (cnt : Nat) (w : World) : Prop := w.heap[q]? = some (.cells #[.pointer (some ⟨rb, 0, none⟩), .int .i64 (wd : Int), .string lo, .string hi, .int .i64 (cnt : Int)] 140)
theorem PR.ne {q rb r wd cnt a : Nat} {lo hi s : ByteArray} {f : Bool} {w : World} (h : PR q rb wd lo hi cnt w) (h2 : Rd r s a f w) : q ≠ r := fun e => by
  subst e
  unfold PR at h
  unfold Rd at h2
  rw [h] at h2
  simp only [Option.some.injEq, Obj.cells.injEq] at h2
  exact absurd h2.2.1 (by decide)
theorem rp_letter_ok (q rb wd : Nat) (lo hi s : ByteArray) (cnt a : Nat) (w : World) (hQ : PR q rb wd lo hi cnt w) (hR : Rd rb s a false w) (hs : s.size ≤ 1048576) (h : a < s.size) :
    Calls Tryz.prog 140 #[.pointer (some ⟨q, 0, none⟩), .iface 208 (.agg #[.int .i64 1, .bool false])] w fun e w' => e = .returned (.int .i64 (bAt s a : Int)) ∧ Rd rb s (a + 1) false w' ∧ Mv rb w w' := by
  have hne := hQ.ne hR
  have HC : Hid (Calls Tryz.prog 168 #[.pointer (some ⟨rb, 0, none⟩), .iface 208 (.agg #[.int .i64 1, .bool false])] w fun e w' => e = .returned (.int .i64 (bAt s a : Int)) ∧ w'.cell? ⟨q, 0, none⟩ = some (.pointer (some ⟨rb, 0, none⟩)) ∧ w'.cell? ⟨rb, 2, none⟩ = some (.bool false) ∧ Rd rb s (a + 1) false w' ∧ Mv rb w w') := by
    refine (rint1 rb s a false w hR (by omega) hs).mono ?_
    rintro e w' ⟨v, t, a', f', rfl, hN, hv, ha', _, hR', hM⟩
    rcases hN.out with ⟨_, h1, ht, rfl, rfl⟩ | ⟨h1, _⟩
    · refine ⟨?_, Lib.cell_of_heap (hM.cells hQ hne) 0, Lib.cell_of_heap hR' 2, hR', hM⟩
      have hts : t.size = 1 := by rw [ht, ByteArray.size_extract]; omega
      rw [hv.out, hts, val1, ht]
      rw [byteAt_ex s a 1 0 (by omega)]
      rfl
    · exfalso
      rcases h1 with h1 | h1
      · cases h1
      · omega
  have q0 : w.cell? ⟨q, 0, none⟩ = some (.pointer (some ⟨rb, 0, none⟩)) := Lib.cell_of_heap hQ 0
  clear hQ hR
  go_enter Tryz.func140, Tryz.ntmps140
  go_wp2_with (first | (go_at_call 168; refine HC.out.mono ?_; rintro e w1 ⟨rfl, q1, r1, hR1, hM1⟩) | (go_at_call 93; refine (req_yes _).mono ?_; rintro e w2 ⟨rfl, rfl⟩))
  go_ret
  exact ⟨rfl, hR1, hM1⟩
theorem rp_letter_no (q rb wd : Nat) (lo hi s : ByteArray) (cnt a : Nat) (w : World) (hQ : PR q rb wd lo hi cnt w) (hR : Rd rb s a false w) (hs : s.size ≤ 1048576) (ha : a ≤ s.size) (h : ¬ a < s.size) :
    Calls Tryz.prog 140 #[.pointer (some ⟨q, 0, none⟩), .iface 208 (.agg #[.int .i64 1, .bool false])] w fun e w' => e = badP ∧ Mv rb w w' := by
  have hne := hQ.ne hR
  have HC : Hid (Calls Tryz.prog 168 #[.pointer (some ⟨rb, 0, none⟩), .iface 208 (.agg #[.int .i64 1, .bool false])] w fun e w' => ∃ v : Int, e = .returned (.int .i64 v) ∧ w'.cell? ⟨q, 0, none⟩ = some (.pointer (some ⟨rb, 0, none⟩)) ∧ w'.cell? ⟨rb, 2, none⟩ = some (.bool true) ∧ Mv rb w w') := by
    refine (rint1 rb s a false w hR ha hs).mono ?_
    rintro e w' ⟨v, t, a', f', rfl, hN, hv, ha', _, hR', hM⟩
    rcases hN.out with ⟨_, h1, ht, rfl, rfl⟩ | ⟨h1, _, _, rfl⟩
    · exfalso; omega
    · exact ⟨v, rfl, Lib.cell_of_heap (hM.cells hQ hne) 0, Lib.cell_of_heap hR' 2, hM⟩
  have q0 : w.cell? ⟨q, 0, none⟩ = some (.pointer (some ⟨rb, 0, none⟩)) := Lib.cell_of_heap hQ 0
  clear hQ hR
  go_enter Tryz.func140, Tryz.ntmps140
  go_wp2_with (first | (go_at_call 168; refine HC.out.mono ?_; rintro e w1 ⟨v1, rfl, q1, r1, hM1⟩) | (go_at_call 93; refine (req_no _).mono ?_; rintro e w2 ⟨rfl, rfl⟩))
  exact ⟨rfl, rfl, hM1⟩
theorem rp_plain_ok (n : Nat) (hn : n ≤ 32) (q rb wd : Nat) (lo hi s : ByteArray) (cnt a : Nat) (w : World) (hQ : PR q rb wd lo hi cnt w) (hR : Rd rb s a false w) (hs : s.size ≤ 1048576) (h : a + n ≤ s.size) :
    Calls Tryz.prog 143 #[.pointer (some ⟨q, 0, none⟩), .iface 214 (.agg #[.int .i64 (n : Int)])] w fun e w' => e = .returned (.string (s.extract a (a + n))) ∧ Rd rb s (a + n) false w' ∧ Mv rb w w' := by
  have hne := hQ.ne hR
  have HC : Hid (Calls Tryz.prog 169 #[.pointer (some ⟨rb, 0, none⟩), .iface 214 (.agg #[.int .i64 (n : Int)])] w fun e w' => e = .returned (.string (s.extract a (a + n))) ∧ w'.cell? ⟨q, 0, none⟩ = some (.pointer (some ⟨rb, 0, none⟩)) ∧ w'.cell? ⟨rb, 2, none⟩ = some (.bool false) ∧ Rd rb s (a + n) false w' ∧ Mv rb w w') := by
    refine (rplain n rb s a false w hR (by omega) hs (by omega)).mono ?_
    rintro e w' ⟨t, a', f', rfl, hN, ha', _, hR', hM⟩
    rcases hN.out with ⟨_, h1, ht, rfl, rfl⟩ | ⟨h1, _⟩
    · exact ⟨by rw [ht], Lib.cell_of_heap (hM.cells hQ hne) 0, Lib.cell_of_heap hR' 2, hR', hM⟩
    · exfalso
      rcases h1 with h1 | h1
      · cases h1
      · omega
  have q0 : w.cell? ⟨q, 0, none⟩ = some (.pointer (some ⟨rb, 0, none⟩)) := Lib.cell_of_heap hQ 0
  generalize s.extract a (a + n) = X at HC ⊢
  clear hQ hR h
  go_enter Tryz.func143, Tryz.ntmps143
  go_wp2_with (first | (go_at_call 169; refine HC.out.mono ?_; rintro e w1 ⟨rfl, q1, r1, hR1, hM1⟩) | (go_at_call 93; refine (req_yes _).mono ?_; rintro e w2 ⟨rfl, rfl⟩))
  go_ret
  exact ⟨rfl, hR1, hM1⟩
theorem rp_plain_no (n : Nat) (hn : n ≤ 32) (q rb wd : Nat) (lo hi s : ByteArray) (cnt a : Nat) (w : World) (hQ : PR q rb wd lo hi cnt w) (hR : Rd rb s a false w) (hs : s.size ≤ 1048576) (ha : a ≤ s.size) (h : ¬ a + n ≤ s.size) :
    Calls Tryz.prog 143 #[.pointer (some ⟨q, 0, none⟩), .iface 214 (.agg #[.int .i64 (n : Int)])] w fun e w' => e = badP ∧ Mv rb w w' := by
  have hne := hQ.ne hR
  have HC : Hid (Calls Tryz.prog 169 #[.pointer (some ⟨rb, 0, none⟩), .iface 214 (.agg #[.int .i64 (n : Int)])] w fun e w' => ∃ X, e = .returned (.string X) ∧ w'.cell? ⟨q, 0, none⟩ = some (.pointer (some ⟨rb, 0, none⟩)) ∧ w'.cell? ⟨rb, 2, none⟩ = some (.bool true) ∧ Mv rb w w') := by
    refine (rplain n rb s a false w hR ha hs (by omega)).mono ?_
    rintro e w' ⟨t, a', f', rfl, hN, ha', _, hR', hM⟩
    rcases hN.out with ⟨_, h1, ht, rfl, rfl⟩ | ⟨h1, _, _, rfl⟩
    · exfalso; omega
    · exact ⟨t, rfl, Lib.cell_of_heap (hM.cells hQ hne) 0, Lib.cell_of_heap hR' 2, hM⟩
  have q0 : w.cell? ⟨q, 0, none⟩ = some (.pointer (some ⟨rb, 0, none⟩)) := Lib.cell_of_heap hQ 0
  clear hQ hR h
  go_enter Tryz.func143, Tryz.ntmps143
  go_wp2_with (first | (go_at_call 169; refine HC.out.mono ?_; rintro e w1 ⟨X, rfl, q1, r1, hM1⟩) | (go_at_call 93; refine (req_no _).mono ?_; rintro e w2 ⟨rfl, rfl⟩))
  exact ⟨rfl, rfl, hM1⟩
theorem rp_sized_ok (q rb wd : Nat) (lo hi s : ByteArray) (cnt a : Nat) (w : World) (hQ : PR q rb wd lo hi cnt w) (hR : Rd rb s a false w) (hs : s.size ≤ 1048576) (h : pieceOk s a) :
    Calls Tryz.prog 143 #[.pointer (some ⟨q, 0, none⟩), .iface 261 (.agg #[.int .i64 2, .bool false])] w fun e w' => e = .returned (.string (s.extract (a + 2) (a + 2 + szAt s a))) ∧ Rd rb s (a + 2 + szAt s a) false w' ∧ Mv rb w w' := by
  have hne := hQ.ne hR
  have HC : Hid (Calls Tryz.prog 169 #[.pointer (some ⟨rb, 0, none⟩), .iface 261 (.agg #[.int .i64 2, .bool false])] w fun e w' => e = .returned (.string (s.extract (a + 2) (a + 2 + szAt s a))) ∧ w'.cell? ⟨q, 0, none⟩ = some (.pointer (some ⟨rb, 0, none⟩)) ∧ w'.cell? ⟨rb, 2, none⟩ = some (.bool false) ∧ Rd rb s (a + 2 + szAt s a) false w' ∧ Mv rb w w') := by
    refine (rsized2 rb s a false w hR (by have := h.1; omega) hs).mono ?_
    rintro e w' ⟨t, a', f', rfl, hN, ha', _, hR', hM⟩
    rcases SX2 hN.out with ⟨_, h1, ht, rfl, rfl⟩ | ⟨h1, _⟩
    · exact ⟨by rw [ht], Lib.cell_of_heap (hM.cells hQ hne) 0, Lib.cell_of_heap hR' 2, hR', hM⟩
    · exfalso
      rcases h1 with h1 | h1
      · cases h1
      · exact h1 h
  have q0 : w.cell? ⟨q, 0, none⟩ = some (.pointer (some ⟨rb, 0, none⟩)) := Lib.cell_of_heap hQ 0
  generalize s.extract (a + 2) (a + 2 + szAt s a) = X at HC ⊢
  generalize a + 2 + szAt s a = a2 at HC ⊢
  clear hQ hR h
  go_enter Tryz.func143, Tryz.ntmps143
  go_wp2_with (first | (go_at_call 169; refine HC.out.mono ?_; rintro e w1 ⟨rfl, q1, r1, hR1, hM1⟩) | (go_at_call 93; refine (req_yes _).mono ?_; rintro e w2 ⟨rfl, rfl⟩))
  go_ret
  exact ⟨rfl, hR1, hM1⟩
theorem rp_sized_no (q rb wd : Nat) (lo hi s : ByteArray) (cnt a : Nat) (w : World) (hQ : PR q rb wd lo hi cnt w) (hR : Rd rb s a false w) (hs : s.size ≤ 1048576) (ha : a ≤ s.size) (h : ¬ pieceOk s a) :
    Calls Tryz.prog 143 #[.pointer (some ⟨q, 0, none⟩), .iface 261 (.agg #[.int .i64 2, .bool false])] w fun e w' => e = badP ∧ Mv rb w w' := by
  have hne := hQ.ne hR
  have HC : Hid (Calls Tryz.prog 169 #[.pointer (some ⟨rb, 0, none⟩), .iface 261 (.agg #[.int .i64 2, .bool false])] w fun e w' => ∃ X, e = .returned (.string X) ∧ w'.cell? ⟨q, 0, none⟩ = some (.pointer (some ⟨rb, 0, none⟩)) ∧ w'.cell? ⟨rb, 2, none⟩ = some (.bool true) ∧ Mv rb w w') := by
    refine (rsized2 rb s a false w hR ha hs).mono ?_
    rintro e w' ⟨t, a', f', rfl, hN, ha', _, hR', hM⟩
    rcases SX2 hN.out with ⟨_, h1, ht, rfl, rfl⟩ | ⟨h1, rfl⟩
    · exact absurd h1 h
    · exact ⟨t, rfl, Lib.cell_of_heap (hM.cells hQ hne) 0, Lib.cell_of_heap hR' 2, hM⟩
  have q0 : w.cell? ⟨q, 0, none⟩ = some (.pointer (some ⟨rb, 0, none⟩)) := Lib.cell_of_heap hQ 0
  clear hQ hR h
  go_enter Tryz.func143, Tryz.ntmps143
  go_wp2_with (first | (go_at_call 169; refine HC.out.mono ?_; rintro e w1 ⟨X, rfl, q1, r1, hM1⟩) | (go_at_call 93; refine (req_no _).mono ?_; rintro e w2 ⟨rfl, rfl⟩))
  exact ⟨rfl, rfl, hM1⟩
/-- A slice of texts. -/
structure SArg (a : Option Addr) (ss : List ByteArray) (w : World) : Prop where
  le : ss.length ≤ 1048576
  sz : ∀ j, (ss.getD j ⟨#[]⟩).size ≤ 1048576
  at_ : 0 < ss.length → ∃ b off : Nat, a = some ⟨b, off, none⟩ ∧ b < w.heap.size ∧ ∀ j, j < ss.length → w.cell? ⟨b, off + j, none⟩ = some (.string (ss.getD j ⟨#[]⟩))
theorem SArg.below {a : Option Addr} {ss : List ByteArray} {w w' : World} (h : SArg a ss w) (hb : Below w.heap.size w w') : SArg a ss w' := by
  refine ⟨h.le, h.sz, fun hn => ?_⟩
  obtain ⟨b, off, ha, hlt, hc⟩ := h.at_ hn
  exact ⟨b, off, ha, Nat.lt_of_lt_of_le hlt hb.size, fun j hj => (hb.cell hlt).trans (hc j hj)⟩
/-- The first place at which p holds. -/
def firstI (p : Nat → Bool) : Nat → Option Nat
  | 0 => none
  | k + 1 => match firstI p k with
    | some i => some i
    | none => if p k then some k else none
theorem firstI_lt {p : Nat → Bool} {k i : Nat} (h : firstI p k = some i) : i < k := by
  induction k with
  | zero => cases h
  | succ k ih =>
    rw [firstI] at h
    cases hk : firstI p k with
    | some j => rw [hk] at h; simp only [Option.some.injEq] at h; subst h; have := ih hk; omega
    | none =>
      rw [hk] at h
      simp only at h
      split at h
      · simp only [Option.some.injEq] at h; omega
      · cases h
def poolOk (n : Int) (m : Nat) : Bool := decide (1 ≤ n ∧ n ≤ 32 ∧ m ≤ 20000)
theorem validPool_any (n : Int) (a : Option Addr) (m c : Nat) (w : World) (_hm : m ≤ 1048576) :
    Calls Tryz.prog 52 #[.agg #[.int .i64 n, .slice a m c]] w fun e w' => e = .returned (.bool (poolOk n m)) ∧ Below w.heap.size w w' := by
  have hfin : Below w.heap.size w (w.alloc (.cells #[.int .i64 n, .slice a m c] 31)) := (Below.refl _ _).alloc (Nat.le_refl _) _
  by_cases c1 : 1 ≤ n
  · by_cases c2 : n ≤ 32
    · have hr : poolOk n m = decide ((m : Int) ≤ 20000) := by
        unfold poolOk
        by_cases c3 : m ≤ 20000
        · rw [decide_eq_true (by omega), decide_eq_true (by omega)]
        · rw [decide_eq_false (by omega), decide_eq_false (by omega)]
      rw [hr]
      clear hr
      go_enter Tryz.func52, Tryz.ntmps52
      go_wp2_with (first | go_in)
      go_ret
      exact ⟨rfl, hfin⟩
    · have hr : poolOk n m = false := by unfold poolOk; rw [decide_eq_false (by omega)]
      rw [hr]
      clear hr
      go_enter Tryz.func52, Tryz.ntmps52
      go_wp2_with (first | go_in)
      go_ret
      exact ⟨rfl, hfin⟩
  · have hr : poolOk n m = false := by unfold poolOk; rw [decide_eq_false (by omega)]
    rw [hr]
    clear hr
    go_enter Tryz.func52, Tryz.ntmps52
    go_wp2_with (first | go_in)
    go_ret
    exact ⟨rfl, hfin⟩
theorem poolOk_any (n : Int) (a : Option Addr) (m c : Nat) (w : World) (_hm : m ≤ 1048576) :
    Calls Tryz.prog 79 #[.agg #[.int .i64 n, .slice a m c]] w fun e w' => e = .returned (.bool (poolOk n m)) ∧ Below w.heap.size w w' := by
  have hfin : Below w.heap.size w (w.alloc (.cells #[.int .i64 n, .slice a m c] 31)) := (Below.refl _ _).alloc (Nat.le_refl _) _
  by_cases c1 : 1 ≤ n
  · by_cases c2 : n ≤ 32
    · have hr : poolOk n m = decide ((m : Int) ≤ 20000) := by
        unfold poolOk
        by_cases c3 : m ≤ 20000
        · rw [decide_eq_true (by omega), decide_eq_true (by omega)]
        · rw [decide_eq_false (by omega), decide_eq_false (by omega)]
      rw [hr]
      clear hr
      go_enter Tryz.func79, Tryz.ntmps79
      go_wp2_with (first | go_in)
      go_ret
      exact ⟨rfl, hfin⟩
    · have hr : poolOk n m = false := by unfold poolOk; rw [decide_eq_false (by omega)]
      rw [hr]
      clear hr
      go_enter Tryz.func79, Tryz.ntmps79
      go_wp2_with (first | go_in)
      go_ret
      exact ⟨rfl, hfin⟩
  · have hr : poolOk n m = false := by unfold poolOk; rw [decide_eq_false (by omega)]
    rw [hr]
    clear hr
    go_enter Tryz.func79, Tryz.ntmps79
    go_wp2_with (first | go_in)
    go_ret
    exact ⟨rfl, hfin⟩

/-- What DecodeNode answers, at one width. -/
structure Dec where
  k : ByteArray → ByteArray
  v : ByteArray → ByteArray
  l : ByteArray → ByteArray
  r : ByteArray → ByteArray
  ok : ByteArray → Bool
def DecSaid (f : FuncId) (wd : Nat) (D : Dec) : Prop := ∀ (s : ByteArray) (w : World), s.size ≤ 1048576 → Calls Tryz.prog f #[.string s, .int .i64 (wd : Int)] w fun e w' => e = .returned (.tuple #[.agg #[.string (D.k s), .string (D.v s), .string (D.l s), .string (D.r s)], .bool (D.ok s)]) ∧ Below w.heap.size w w'
/-- What PoolFind answers. -/
def foundR (D : Dec) (ss : List ByteArray) : Option Nat → (ByteArray × ByteArray × ByteArray × ByteArray) × Int
  | none => ((⟨#[]⟩, ⟨#[]⟩, ⟨#[]⟩, ⟨#[]⟩), 2)
  | some i => if D.ok (ss.getD i ⟨#[]⟩) then ((D.k (ss.getD i ⟨#[]⟩), D.v (ss.getD i ⟨#[]⟩), D.l (ss.getD i ⟨#[]⟩), D.r (ss.getD i ⟨#[]⟩)), 0) else ((⟨#[]⟩, ⟨#[]⟩, ⟨#[]⟩, ⟨#[]⟩), 3)
def nodeT (x : (ByteArray × ByteArray × ByteArray × ByteArray) × Int) : Value := .tuple #[.agg #[.string x.1.1, .string x.1.2.1, .string x.1.2.2.1, .string x.1.2.2.2], .int .i64 x.2]
/-- The hashes in the pool that are this one. -/
def hitB (wd : Nat) (ss : List ByteArray) (hash : ByteArray) (i : Nat) : Bool := decide ((sha (78 :: (ss.getD i ⟨#[]⟩).data.toList)).take wd = hash.data.toList)
theorem own2_cells {w : World} {base g n : Nat} {v : Value} {xs : List Value} (h : w.ownsRow base 81 2 v n xs) (hv : v.ownBlock = some g) : base ≤ g ∧ g < w.heap.size ∧ ∃ cur, w.heap[g]? = some (.cells cur 81 (0, 0)) := by
  rcases h.2 with ⟨rfl, _⟩ | ⟨g', cap, cur, rfl, hb, hg, _⟩
  · cases hv
  · obtain rfl : g' = g := Option.some.inj hv
    exact ⟨hb, (Array.getElem?_eq_some_iff.1 hg).1, cur, hg⟩
theorem own2_kept {w w' : World} {base n : Nat} {v : Value} {xs : List Value} (h : w.ownsRow base 81 2 v n xs) (hk : ∀ g, v.ownBlock = some g → g < w.heap.size → w'.heap[g]? = w.heap[g]?) : w'.ownsRow base 81 2 v n xs := by
  refine ⟨h.1, ?_⟩
  rcases h.2 with ⟨h1, h2⟩ | ⟨g, cap, cur, hv, hb, hg, rest⟩
  · exact .inl ⟨h1, h2⟩
  · exact .inr ⟨g, cap, cur, hv, hb, (hk g (by rw [hv]; rfl) (Array.getElem?_eq_some_iff.1 hg).1).trans hg, rest⟩
theorem own2_mono {w : World} {base base' n : Nat} {v : Value} {xs : List Value} (h : w.ownsRow base 81 2 v n xs) (hb : base' ≤ base) : w.ownsRow base' 81 2 v n xs := by
  refine ⟨h.1, ?_⟩
  rcases h.2 with ⟨h1, h2⟩ | ⟨g, cap, cur, hv, hg, rest⟩
  · exact .inl ⟨h1, h2⟩
  · exact .inr ⟨g, cap, cur, hv, Nat.le_trans hb hg, rest⟩
/-- What a walk of the model answers. -/
def GoPost (R : Int × Nat × List PairT) (w : World) (e : Ending) (w' : World) : Prop :=
  (R.1 = 0 → ∃ a c, e = .returned (.agg #[.slice a R.2.2.length c, .int .i64 (R.2.1 : Int), .int .i64 0]) ∧ w'.ownsRow w.heap.size 81 2 (.slice a R.2.2.length c) R.2.2.length (flatP R.2.2)) ∧
  (R.1 ≠ 0 → e = .returned (.agg #[.slice none 0 0, .int .i64 0, .int .i64 R.1])) ∧ Below w.heap.size w w'
/-- The blocks that a call has of its own. -/
structure GS (w : World) (g8 g12 g16 gz g17 : Nat) (wd : Nat) (a : Option Addr) (n c : Nat) (over under : ByteArray) (cnt : Nat) (W : World) : Prop where
  sz : w.heap.size = g8
  o1 : g8 < g12
  o2 : g12 < g16
  o3 : g16 < gz
  o4 : gz < g17
  bl : Below w.heap.size w W
  n8 : W.heap[g8]? = some (.cells #[.int .i64 (wd : Int), .slice a n c] 31)
  n12 : W.heap[g12]? = some (.cells #[.string over, .string under] 94)
  n16 : W.heap[g16]? = some (.cells #[.slice none 0 0, .int .i64 0, .int .i64 0] 158)
  nz : W.heap[gz]? = some (.cells #[] 81)
  n17 : W.heap[g17]? = some (.cells #[.slice (some ⟨gz, 0, none⟩) 0 0, .int .i64 (cnt : Int), .int .i64 0] 158)
section
variable {w : World} {g8 g12 g16 gz g17 : Nat} {wd : Nat} {a : Option Addr} {n c : Nat} {over under : ByteArray} {cnt : Nat} {W W' : World}
theorem GS.lt (h : GS w g8 g12 g16 gz g17 wd a n c over under cnt W) : g17 < W.heap.size := (Array.getElem?_eq_some_iff.1 h.n17).1
theorem GS.below (h : GS w g8 g12 g16 gz g17 wd a n c over under cnt W) (hb : Below W.heap.size W W') : GS w g8 g12 g16 gz g17 wd a n c over under cnt W' := by
  have l := h.lt
  have h1 := h.o1
  have h2 := h.o2
  have h3 := h.o3
  have h4 := h.o4
  exact ⟨h.sz, h1, h2, h3, h4, h.bl.trans (hb.mono h.bl.size), (hb.block _ (by omega)).trans h.n8, (hb.block _ (by omega)).trans h.n12, (hb.block _ (by omega)).trans h.n16, (hb.block _ (by omega)).trans h.nz, (hb.block _ (by omega)).trans h.n17⟩
theorem GS.mk0 (w : World) (wd : Nat) (a : Option Addr) (n c : Nat) (over under : ByteArray) (cnt : Nat) : GS w w.heap.size (w.heap.size + 1) (w.heap.size + 1 + 1) (w.heap.size + 1 + 1 + 1) (w.heap.size + 1 + 1 + 1 + 1) wd a n c over under cnt
    (((((w.alloc (.cells #[.int .i64 (wd : Int), .slice a n c] 31)).alloc (.cells #[.string over, .string under] 94)).alloc (.cells #[.slice none 0 0, .int .i64 0, .int .i64 0] 158)).alloc (.cells #[] 81)).alloc (.cells #[.slice (some ⟨w.heap.size + 1 + 1 + 1, 0, none⟩) 0 0, .int .i64 (cnt : Int), .int .i64 0] 158)) := by
  have e1 := heap_alloc_new w (.cells #[.int .i64 (wd : Int), .slice a n c] 31)
  have e2 := heap_alloc_new (w.alloc (.cells #[.int .i64 (wd : Int), .slice a n c] 31)) (.cells #[.string over, .string under] 94)
  have e3 := heap_alloc_new ((w.alloc (.cells #[.int .i64 (wd : Int), .slice a n c] 31)).alloc (.cells #[.string over, .string under] 94)) (.cells #[.slice none 0 0, .int .i64 0, .int .i64 0] 158)
  have e4 := heap_alloc_new (((w.alloc (.cells #[.int .i64 (wd : Int), .slice a n c] 31)).alloc (.cells #[.string over, .string under] 94)).alloc (.cells #[.slice none 0 0, .int .i64 0, .int .i64 0] 158)) (.cells #[] 81)
  have e5 := heap_alloc_new ((((w.alloc (.cells #[.int .i64 (wd : Int), .slice a n c] 31)).alloc (.cells #[.string over, .string under] 94)).alloc (.cells #[.slice none 0 0, .int .i64 0, .int .i64 0] 158)).alloc (.cells #[] 81)) (.cells #[.slice (some ⟨w.heap.size + 1 + 1 + 1, 0, none⟩) 0 0, .int .i64 (cnt : Int), .int .i64 0] 158)
  simp only [World.size_alloc] at e1 e2 e3 e4 e5
  refine ⟨rfl, by omega, by omega, by omega, by omega, ?_, ?_, ?_, ?_, ?_, e5⟩
  · exact (((((Below.refl _ _).alloc (Nat.le_refl _) _).alloc (by simp) _).alloc (by simp; omega) _).alloc (by simp; omega) _).alloc (by simp; omega) _
  · rw [Below.heap_alloc _ _ _ (by simp <;> omega), Below.heap_alloc _ _ _ (by simp <;> omega), Below.heap_alloc _ _ _ (by simp <;> omega), Below.heap_alloc _ _ _ (by simp)]; exact e1
  · rw [Below.heap_alloc _ _ _ (by simp <;> omega), Below.heap_alloc _ _ _ (by simp <;> omega), Below.heap_alloc _ _ _ (by simp)]; exact e2
  · rw [Below.heap_alloc _ _ _ (by simp <;> omega), Below.heap_alloc _ _ _ (by simp)]; exact e3
  · rw [Below.heap_alloc _ _ _ (by simp)]; exact e4
/-- The answer, written. -/
theorem GS.fin (h : GS w g8 g12 g16 gz g17 wd a n c over under cnt W) (v0 v1 v2 : Value) :
    (((W.setCell ⟨g16, 0, none⟩ v0).setCell ⟨g16, 1, none⟩ v1).setCell ⟨g16, 2, none⟩ v2).heap[g16]? = some (.cells #[v0, v1, v2] 158) ∧ Below w.heap.size w (((W.setCell ⟨g16, 0, none⟩ v0).setCell ⟨g16, 1, none⟩ v1).setCell ⟨g16, 2, none⟩ v2) ∧ (∀ k, k ≠ g16 → (((W.setCell ⟨g16, 0, none⟩ v0).setCell ⟨g16, 1, none⟩ v1).setCell ⟨g16, 2, none⟩ v2).heap[k]? = W.heap[k]?) := by
  have hg : w.heap.size ≤ g16 := by have := h.sz; have := h.o1; have := h.o2; omega
  refine ⟨heap_setCell_same _ g16 2 _ 158 _ (heap_setCell_same _ g16 1 _ 158 _ (heap_setCell_same _ g16 0 _ 158 _ h.n16)), ((h.bl.setCell hg _).setCell hg _).setCell hg _, fun k hk => ?_⟩
  rw [Below.heap_setCell _ _ _ _ (by exact hk), Below.heap_setCell _ _ _ _ (by exact hk), Below.heap_setCell _ _ _ _ (by exact hk)]
end
theorem retG {W : World} {A : Act} {g16 : Nat} {v0 v1 v2 : Value} {R : Ending → World → Prop} (hp : A.tmps.getD 16 undef = .pointer (some ⟨g16, 0, none⟩)) (hd : A.defers = []) (h : W.heap[g16]? = some (.cells #[v0, v1, v2] 158)) (hR : R (.returned (.agg #[v0, v1, v2])) W) : bodyPost Tryz.prog Tryz.f105 R .ret A W := by
  have q0 := Lib.cell_of_heap h 0
  have q1 := Lib.cell_of_heap h 1
  have q2 := Lib.cell_of_heap h 2
  refine bodyPost_ret (v := .agg #[v0, v1, v2]) ?_ hd hR
  rw [results_cell W (fn := Tryz.f105) (p := 16) (ty := 158) rfl A.tmps _ hp]
  exact run_loadVar_mid W g16 0 158 [v0, v1, v2] _ (fun j u hj => by
    match j, hj with
    | 0, hj => simpa using q0.trans (by simpa using hj)
    | 1, hj => simpa using q1.trans (by simpa using hj)
    | 2, hj => simpa using q2.trans (by simpa using hj)) Tryz.underlying158 rfl (by kernel_rfl)

/-- No pairs: the empty row that the call has laid. -/
theorem own2_nil {w : World} {base gz : Nat} (hb : base ≤ gz) (h : w.heap[gz]? = some (.cells #[] 81)) : w.ownsRow base 81 2 (.slice (some ⟨gz, 0, none⟩) 0 0) 0 [] :=
  ⟨rfl, .inr ⟨gz, 0, #[], rfl, hb, h, by simp⟩⟩
theorem GS.skip {w : World} {g8 g12 g16 gz g17 : Nat} {wd : Nat} {a : Option Addr} {n c : Nat} {over under : ByteArray} {cnt : Nat} {W : World} (h : GS w g8 g12 g16 gz g17 wd a n c over under cnt W) {A : Act} {R : Int × Nat × List PairT} (hR : R = (0, cnt, [])) (hp : A.tmps.getD 16 undef = .pointer (some ⟨g16, 0, none⟩)) (hd : A.defers = []) :
    bodyPost Tryz.prog Tryz.f105 (GoPost R w) .ret A (((W.setCell ⟨g16, 0, none⟩ (.slice (some ⟨gz, 0, none⟩) 0 0)).setCell ⟨g16, 1, none⟩ (.int .i64 (cnt : Int))).setCell ⟨g16, 2, none⟩ (.int .i64 0)) := by
  obtain ⟨h1, h2, h3⟩ := h.fin (.slice (some ⟨gz, 0, none⟩) 0 0) (.int .i64 (cnt : Int)) (.int .i64 0)
  subst hR
  have q1 := h.sz
  have q2 := h.o1
  have q3 := h.o2
  have q4 := h.o3
  refine retG hp hd h1 ⟨fun _ => ⟨some ⟨gz, 0, none⟩, 0, rfl, own2_nil (by omega) ((h3 gz (by omega)).trans h.nz)⟩, fun hne => absurd rfl hne, h2⟩
theorem GS.bad {w : World} {g8 g12 g16 gz g17 : Nat} {wd : Nat} {a : Option Addr} {n c : Nat} {over under : ByteArray} {cnt : Nat} {W : World} (h : GS w g8 g12 g16 gz g17 wd a n c over under cnt W) {A : Act} {R : Int × Nat × List PairT} (i : Int) (hR : R.1 = i) (hi : i ≠ 0) (hp : A.tmps.getD 16 undef = .pointer (some ⟨g16, 0, none⟩)) (hd : A.defers = []) :
    bodyPost Tryz.prog Tryz.f105 (GoPost R w) .ret A (((W.setCell ⟨g16, 0, none⟩ (.slice none 0 0)).setCell ⟨g16, 1, none⟩ (.int .i64 0)).setCell ⟨g16, 2, none⟩ (.int .i64 i)) := by
  obtain ⟨h1, h2, h3⟩ := h.fin (.slice none 0 0) (.int .i64 0) (.int .i64 i)
  exact retG hp hd h1 ⟨fun h0 => absurd (hR.symm.trans h0) hi, fun _ => by rw [hR], h2⟩
/-- A row of pairs. -/
def Is53 (k : Nat) (w : World) : Prop := ∃ cur t, w.heap[k]? = some (.cells cur 81 t)
/-- What may have turned: the blocks of 'N', rows of pairs from 'base' on, and what is new. -/
structure Fr (base : Nat) (N : Nat → Prop) (w w' : World) : Prop where
  os : w'.os = w.os
  tape : w'.tape = w.tape
  output : w'.output = w.output
  size : w.heap.size ≤ w'.heap.size
  block : ∀ k, k < w.heap.size → ¬ N k → ¬ (base ≤ k ∧ Is53 k w) → w'.heap[k]? = w.heap[k]?
section
variable {base : Nat} {N N' : Nat → Prop} {w w' w1 w2 : World}
theorem Fr.refl (base : Nat) (N : Nat → Prop) (w : World) : Fr base N w w := ⟨rfl, rfl, rfl, Nat.le_refl _, fun _ _ _ _ => rfl⟩
theorem Fr.trans (h : Fr base N w w1) (k : Fr base N' w1 w2) (hN : ∀ q, q < w.heap.size → N' q → N q) : Fr base N w w2 := by
  refine ⟨k.os.trans h.os, k.tape.trans h.tape, k.output.trans h.output, Nat.le_trans h.size k.size, fun q hq h1 h2 => ?_⟩
  have e := h.block q hq h1 h2
  refine (k.block q (Nat.lt_of_lt_of_le hq h.size) (fun x => h1 (hN q hq x)) (fun x => h2 ⟨x.1, ?_⟩)).trans e
  obtain ⟨cur, t, hx⟩ := x.2
  exact ⟨cur, t, e.symm.trans hx⟩
theorem Fr.of_below (h : Below w.heap.size w w1) : Fr base N w w1 := ⟨h.os, h.tape, h.output, h.size, fun q hq _ _ => h.block q hq⟩
theorem Fr.of_grown {v : Value} {m : Nat} {xs : List Value} (h : w.grownBy w1 v.ownBlock) (ho : w.ownsRow base 81 2 v m xs) : Fr base N w w1 :=
  ⟨h.os, h.tape, h.output, h.size, fun q hq _ h2 => h.block q hq (fun e => h2 (by obtain ⟨e1, _, cur, e3⟩ := own2_cells ho e.symm; exact ⟨e1, cur, _, e3⟩))⟩
theorem Fr.setCell (h : Fr base N w w1) (g o : Nat) (v : Value) (hg : N g ∨ w.heap.size ≤ g) : Fr base N w (w1.setCell ⟨g, o, none⟩ v) := by
  have hb : Below g w1 (w1.setCell ⟨g, o, none⟩ v) := Below.setCell (p := ⟨g, o, none⟩) (Below.refl g w1) (Nat.le_refl g) v
  refine ⟨hb.os.trans h.os, hb.tape.trans h.tape, hb.output.trans h.output, Nat.le_trans h.size hb.size, fun q hq h1 h2 => ?_⟩
  rw [Below.heap_setCell _ _ _ _ (by show q ≠ g; intro e; subst e; rcases hg with hg | hg; exact h1 hg; omega)]
  exact h.block q hq h1 h2
theorem Fr.keep {q : Nat} {cs : Array Value} {t : TypeId} {z : Nat × Nat} (h : Fr base N w w1) (hq : w.heap[q]? = some (.cells cs t z)) (h1 : ¬ N q) (ht : t ≠ 81 ∨ q < base) : w1.heap[q]? = some (.cells cs t z) := by
  refine (h.block q (Array.getElem?_eq_some_iff.1 hq).1 h1 ?_).trans hq
  rintro ⟨h2, cur, z', h3⟩
  rw [hq] at h3
  rcases ht with ht | ht
  · simp only [Option.some.injEq, Obj.cells.injEq] at h3
    exact ht h3.2.1
  · omega
end
/-- The list that is put together, in the variable that is captured. -/
structure LS (c base : Nat) (ps : List PairT) (a : Option Addr) (cap : Nat) (w : World) : Prop where
  blk : w.heap[c]? = some (.cells #[.slice a ps.length cap] 35)
  own : w.ownsRow base 81 2 (.slice a ps.length cap) ps.length (flatP ps)
  hb : base ≤ w.heap.size
theorem LS.below {c base : Nat} {ps : List PairT} {a : Option Addr} {cap : Nat} {w w' : World} (h : LS c base ps a cap w) (hb : Below w.heap.size w w') : LS c base ps a cap w' :=
  ⟨(hb.block c (Array.getElem?_eq_some_iff.1 h.blk).1).trans h.blk, own2_kept h.own (fun g _ hg => hb.block g hg), Nat.le_trans h.hb hb.size⟩
end Go.Proofs.YtibjhkpgaaapaaaGreatDoor
