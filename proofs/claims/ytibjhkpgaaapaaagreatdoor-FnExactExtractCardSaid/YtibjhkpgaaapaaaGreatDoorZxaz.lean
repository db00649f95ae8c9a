import Derived.Test.YtibjhkpgaaapaaaGreatDoorZxax
import Derived.Test.YtibjhkpgaaapaaaGreatDoorZxay
import Derived.Test.YtibjhkpgaaapaaaGreatDoorZxak
import Derived.Test.YtibjhkpgaaapaaaGreatDoorZxaw
import Derived.Test.YtibjhkpgaaapaaaGreatDoorZxav
import Derived.WalkLawsBesides
import Derived.Test.YtibjhkpgaaapaaaGreatDoorZxan
import Derived.Lib.BufferWrite
namespace Go.Proofs.YtibjhkpgaaapaaaGreatDoor
open Go.RowKit Go.Proofs.Sha

theorem subsB_any (b : Nat) (hash over under : ByteArray) (par : Option Addr) (k v l r : ByteArray) (pl pr : Option Addr) (w : World) (h : BF b hash over under par k v l r pl pr w) : Calls Tryz.prog 230 #[.pointer (some ⟨b, 0, none⟩)] w fun e w' => e = .returned (.tuple #[.pointer pl, .pointer pr]) ∧ Below w.heap.size w w' := by
  have c8 : w.cell? ⟨b, 8, none⟩ = some (.pointer pl) := Lib.cell_of_heap h 8
  have c9 : w.cell? ⟨b, 9, none⟩ = some (.pointer pr) := Lib.cell_of_heap h 9
  clear h
  go_enter Tryz.func230, Tryz.ntmps230
  go_wp2_with fail
  go_region_held3 (fun W => W.cell? ⟨b, 8, none⟩ = some (.pointer pl) ∧ W.cell? ⟨b, 9, none⟩ = some (.pointer pr)) (exact ⟨c8, c9⟩) (fail)
  go_wp2_with fail
  go_ret2
  exact ⟨rfl, (Below.refl _ _).drew⟩
theorem pairB_any (b : Nat) (hash over under : ByteArray) (par : Option Addr) (k v l r : ByteArray) (pl pr : Option Addr) (w : World) (h : BF b hash over under par k v l r pl pr w) : Calls Tryz.prog 151 #[.pointer (some ⟨b, 0, none⟩)] w fun e w' => e = .returned (.agg #[.string k, .string v]) ∧ Below w.heap.size w w' := by
  have hlt := (Array.getElem?_eq_some_iff.1 h).1
  have hA := (Below.heap_alloc w (.cells #[.string ⟨#[]⟩, .string ⟨#[]⟩] 81) b hlt).trans h
  have c4 : (w.alloc (.cells #[.string ⟨#[]⟩, .string ⟨#[]⟩] 81)).cell? ⟨b, 4, none⟩ = some (.string k) := Lib.cell_of_heap hA 4
  have c5 : (w.alloc (.cells #[.string ⟨#[]⟩, .string ⟨#[]⟩] 81)).cell? ⟨b, 5, none⟩ = some (.string v) := Lib.cell_of_heap hA 5
  have hN := heap_alloc_new w (.cells #[.string ⟨#[]⟩, .string ⟨#[]⟩] 81)
  have hb : Below w.heap.size w (w.alloc (.cells #[.string ⟨#[]⟩, .string ⟨#[]⟩] 81)) := (Below.refl _ _).alloc (Nat.le_refl _) _
  clear h hA
  go_enter Tryz.func151, Tryz.ntmps151
  go_wp2_with fail
  generalize w.alloc (.cells #[.string ⟨#[]⟩, .string ⟨#[]⟩] 81) = W at c4 c5 hN hb ⊢
  obtain ⟨gp, hgp⟩ : ∃ gp, w.heap.size = gp := ⟨_, rfl⟩
  rw [hgp] at hN ⊢
  have hgl : w.heap.size ≤ gp := Nat.le_of_eq hgp
  clear hgp
  have p0 : W.cell? ⟨gp, 0, none⟩ = some (.string ⟨#[]⟩) := Lib.cell_of_heap hN 0
  have p1 : W.cell? ⟨gp, 1, none⟩ = some (.string ⟨#[]⟩) := Lib.cell_of_heap hN 1
  have fp : ∀ j, W.frozen? ⟨gp, j, none⟩ = false := fun j => by rw [World.frozen?, hN]; rfl
  go_region
  have hN2 := heap_setCell_same _ gp 1 _ 81 (.string v) (heap_setCell_same _ gp 0 _ 81 (.string k) hN)
  have hb2 : Below w.heap.size w ((W.setCell ⟨gp, 0, none⟩ (.string k)).setCell ⟨gp, 1, none⟩ (.string v)).drew := ((hb.setCell hgl _).setCell hgl _).drew
  have hN3 : ((W.setCell ⟨gp, 0, none⟩ (.string k)).setCell ⟨gp, 1, none⟩ (.string v)).drew.heap[gp]? = some (.cells #[.string k, .string v] 81) := hN2
  generalize ((W.setCell ⟨gp, 0, none⟩ (.string k)).setCell ⟨gp, 1, none⟩ (.string v)).drew = W2 at hb2 hN3 ⊢
  have q0 : W2.cell? ⟨gp, 0, none⟩ = some (.string k) := Lib.cell_of_heap hN3 0
  have q1 : W2.cell? ⟨gp, 1, none⟩ = some (.string v) := Lib.cell_of_heap hN3 1
  clear c4 c5 p0 p1 fp hN hN2 hN3
  go_wp2_with fail
  exact bodyPost_ret (v := .agg #[.string k, .string v]) (by simp [results, Tryz.results151, go_sem, q0, q1]) rfl ⟨rfl, hb2⟩
theorem goInto_none (lo hi : ByteArray) (w : World) : Calls Tryz.prog 109 #[.agg #[.string lo, .string hi], .pointer none] w fun e w' => e = .returned (.bool false) ∧ Below w.heap.size w w' := by
  have hb : Below w.heap.size w (w.alloc (.cells #[.string lo, .string hi] 75)) := (Below.refl _ _).alloc (Nat.le_refl _) _
  have hN := heap_alloc_new w (.cells #[.string lo, .string hi] 75)
  have n0 : (w.alloc (.cells #[.string lo, .string hi] 75)).cell? ⟨w.heap.size, 0, none⟩ = some (.string lo) := Lib.cell_of_heap hN 0
  have n1 : (w.alloc (.cells #[.string lo, .string hi] 75)).cell? ⟨w.heap.size, 1, none⟩ = some (.string hi) := Lib.cell_of_heap hN 1
  have q : ∀ w', (binOp .neq 166 (.pointer none) (.pointer none)).run Tryz.prog w' = .ok (.bool false) w' := fun w' => by
    have := ptr_eqlB none none w' (.inl rfl) (.inl rfl)
    simp only [binOp] at this ⊢
    cases hq : (Op.equal 166 (.pointer none) (.pointer none)).run Tryz.prog w' <;> simp_all
  clear hN
  go_enter Tryz.func109, Tryz.ntmps109
  go_wp2_with fail
  go_quiet (first | fail)
  go_wp2_with fail
  go_ret
  exact ⟨rfl, draws_below _ hb⟩
theorem goInto_some (lo hi : ByteArray) (b : Nat) (hash over under : ByteArray) (par : Option Addr) (w : World) (h : BR b hash over under par w) : Calls Tryz.prog 109 #[.agg #[.string lo, .string hi], .pointer (some ⟨b, 0, none⟩)] w fun e w' => e = .returned (.bool (canW over under lo hi)) ∧ Below w.heap.size w w' := by
  have hlt := (Array.getElem?_eq_some_iff.1 h).1
  have hA := (Below.heap_alloc w (.cells #[.string lo, .string hi] 75) b hlt).trans h
  have hN := heap_alloc_new w (.cells #[.string lo, .string hi] 75)
  have hb : Below w.heap.size w (w.alloc (.cells #[.string lo, .string hi] 75)) := (Below.refl _ _).alloc (Nat.le_refl _) _
  have hP : Ptr (some ⟨b, 0, none⟩) (w.alloc (.cells #[.string lo, .string hi] 75)) := .inr ⟨b, _, _, rfl, hA⟩
  have HC := fun w' => can_any lo hi over under par w'
  go_enter Tryz.func109, Tryz.ntmps109
  go_wp2_with fail
  generalize w.alloc (.cells #[.string lo, .string hi] 75) = W at hA hN hb hP ⊢
  obtain ⟨ga, hga⟩ : ∃ ga, w.heap.size = ga := ⟨_, rfl⟩
  rw [hga] at hN ⊢
  have c1 : W.cell? ⟨b, 1, none⟩ = some (.string over) := Lib.cell_of_heap hA 1
  have c2 : W.cell? ⟨b, 2, none⟩ = some (.string under) := Lib.cell_of_heap hA 2
  have c3 : W.cell? ⟨b, 3, none⟩ = some (.pointer par) := Lib.cell_of_heap hA 3
  have n0 : W.cell? ⟨ga, 0, none⟩ = some (.string lo) := Lib.cell_of_heap hN 0
  have n1 : W.cell? ⟨ga, 1, none⟩ = some (.string hi) := Lib.cell_of_heap hN 1
  have q : (binOp .neq 166 (.pointer (some ⟨b, 0, none⟩)) (.pointer none)).run Tryz.prog W = .ok (.bool true) W := by
    have := ptr_eqlB (some ⟨b, 0, none⟩) none W hP (.inl rfl)
    simp only [binOp] at this ⊢
    cases hq : (Op.equal 166 (.pointer (some ⟨b, 0, none⟩)) (.pointer none)).run Tryz.prog W <;> simp_all
  have q2 : (binOp .neq 166 (.pointer (some ⟨b, 0, none⟩)) (.pointer none)).run Tryz.prog W.drew = .ok (.bool true) W.drew := by
    have hP2 : Ptr (some ⟨b, 0, none⟩) W.drew := .inr ⟨b, _, _, rfl, hA⟩
    have := ptr_eqlB (some ⟨b, 0, none⟩) none W.drew hP2 (.inl rfl)
    simp only [binOp] at this ⊢
    cases hq : (Op.equal 166 (.pointer (some ⟨b, 0, none⟩)) (.pointer none)).run Tryz.prog W.drew <;> simp_all
  clear hP hga h
  go_region_held3 (fun W => W.cell? ⟨b, 1, none⟩ = some (.string over) ∧ W.cell? ⟨b, 2, none⟩ = some (.string under) ∧ W.cell? ⟨b, 3, none⟩ = some (.pointer par) ∧ W.cell? ⟨ga, 0, none⟩ = some (.string lo) ∧ W.cell? ⟨ga, 1, none⟩ = some (.string hi)) (first | exact ⟨c1, c2, c3, n0, n1⟩ | exact ⟨Lib.cell_of_heap hA2 1, Lib.cell_of_heap hA2 2, Lib.cell_of_heap hA2 3, Lib.cell_of_heap hN2 0, Lib.cell_of_heap hN2 1⟩) (first | (go_at_call 142; refine (HC _).mono ?_; rintro e w2 ⟨rfl, hb2⟩; have hA2 := (hb2.block b (Array.getElem?_eq_some_iff.1 hA).1).trans hA; have hN2 := (hb2.block ga (Array.getElem?_eq_some_iff.1 hN).1).trans hN))
  go_wp2_with fail
  go_ret
  exact ⟨rfl, hb.trans (((Below.refl W.heap.size W).drew.trans hb2).mono hb.size)⟩
end Go.Proofs.YtibjhkpgaaapaaaGreatDoor
namespace Go.Proofs.YtibjhkpgaaapaaaGreatDoor
open Go.RowKit Go.Proofs.Sha

theorem letter_any (w : World) : Calls Tryz.prog 141 #[] w fun e w' => e = .returned (.agg #[.int .i64 1, .bool false]) ∧ Below w.heap.size w w' := by
  go_enter Tryz.func141, Tryz.ntmps141
  go_wp2
  have c0 := Lib.cell_of_heap (heap_alloc_new w (.cells #[.int .i64 1, .bool false] 208)) 0
  have c1 := Lib.cell_of_heap (heap_alloc_new w (.cells #[.int .i64 1, .bool false] 208)) 1
  refine bodyPost_ret (v := .agg #[.int .i64 1, .bool false]) ?_ rfl ⟨rfl, (Below.refl _ _).alloc (Nat.le_refl _) _⟩
  simp [results, Tryz.results141, go_sem, asAddr, c0, c1]
theorem wlet (b : Nat) (v : Nat) (x : UInt8) (hx : UInt8.ofNat v = x) (l : List UInt8) (w : World) (h : Bld b l w) (hl : l.length ≤ 9000000) (hv : v ≤ 1000) :
    Calls Tryz.prog 223 #[.pointer (some ⟨b, 0, none⟩), .iface 208 (.agg #[.int .i64 1, .bool false]), .int .i64 (v : Int)] w fun e w' => e = .returned (.tuple #[]) ∧ Put b (l ++ [x]) w w' := by
  rw [← hx]
  exact wint1 b v l w h hl (by omega)
theorem eput (b : Nat) (l : List UInt8) (w : World) (h : Bld b l w) (hl : l.length ≤ 9000000) :
    Calls Tryz.prog 238 #[.agg #[], .pointer (some ⟨b, 0, none⟩)] w fun e w' => e = .returned (.tuple #[]) ∧ Put b (l ++ [69]) w w' := by
  have HW : Hid (∀ w', Bld b l w' → Calls Tryz.prog 223 #[.pointer (some ⟨b, 0, none⟩), .iface 208 (.agg #[.int .i64 1, .bool false]), .int .i64 69] w' fun e w'' => e = .returned (.tuple #[]) ∧ Put b (l ++ [69]) w' w'') := fun w' h' => wlet b 69 69 rfl l w' h' hl (by omega)
  go_enter Tryz.func238, Tryz.ntmps238
  go_wp2_with (first | (go_at_call 141; refine (letter_any _).mono ?_; rintro e w1 ⟨rfl, hb1⟩) | (go_at_call 223; refine (HW.out _ ((h.alloc _).below hb1)).mono ?_; rintro e w2 ⟨rfl, hp2⟩))
  go_end0
  exact ⟨rfl, (((Put.refl h).alloc _).below hb1).trans hp2⟩
theorem sput (hash : ByteArray) (b : Nat) (l : List UInt8) (w : World) (h : Bld b l w) (hl : l.length + hash.size ≤ 8000000) :
    Calls Tryz.prog 242 #[.agg #[.string hash], .pointer (some ⟨b, 0, none⟩)] w fun e w' => e = .returned (.tuple #[]) ∧ Put b (l ++ 83 :: hash.data.toList) w w' := by
  have HW : Hid (∀ w', Bld b l w' → Calls Tryz.prog 223 #[.pointer (some ⟨b, 0, none⟩), .iface 208 (.agg #[.int .i64 1, .bool false]), .int .i64 83] w' fun e w'' => e = .returned (.tuple #[]) ∧ Put b (l ++ [83]) w' w'') := fun w' h' => wlet b 83 83 rfl l w' h' (by omega) (by omega)
  have HX : Hid (∀ n w', Bld b (l ++ [83]) w' → Calls Tryz.prog 224 #[.pointer (some ⟨b, 0, none⟩), .iface 214 (.agg #[.int .i64 n]), .string hash] w' fun e w'' => e = .returned (.tuple #[]) ∧ Put b (l ++ 83 :: hash.data.toList) w' w'') := fun n w' h' => by
    have := wplain n b hash (l ++ [83]) w' h' (by rw [List.length_append, List.length_singleton]; omega)
    rwa [List.append_assoc, List.singleton_append] at this
  have hA := h.alloc (.cells #[.string hash] 216)
  have nA := heap_alloc_new w (.cells #[.string hash] 216)
  have hne : w.heap.size ≠ b := by have := h.lt; omega
  generalize l ++ 83 :: hash.data.toList = L at HX ⊢
  go_enter Tryz.func242, Tryz.ntmps242
  go_wp2_with (first | (go_at_call 141; refine (letter_any _).mono ?_; rintro e w1 ⟨rfl, hb1⟩) | (go_at_call 223; refine (HW.out _ (hA.below hb1)).mono ?_; rintro e w2 ⟨rfl, hp2⟩; have n2 := hp2.cells (below_cells hb1 nA) hne (by decide); have c2 := Lib.cell_of_heap n2 0) | (go_at_call 224; refine (HX.out _ _ hp2.1).mono ?_; rintro e w3 ⟨rfl, hp3⟩))
  go_end0
  exact ⟨rfl, ((((Put.refl h).alloc _).below hb1).trans hp2).trans hp3⟩
end Go.Proofs.YtibjhkpgaaapaaaGreatDoor
namespace Go.Proofs.YtibjhkpgaaapaaaGreatDoor
open Go.RowKit Go.Proofs.Sha

/-- How a proof that is refused ends. -/
abbrev badP : Ending := .panicked [{ v := .iface 205 (.agg #[]), recovered := false }]
theorem req_yes (w : World) : Calls Tryz.prog 93 #[.bool true] w fun e w' => e = .returned (.tuple #[]) ∧ w = w' := by
  go_enter Tryz.func93, Tryz.ntmps93
  go_wp2
  go_end0
  exact ⟨rfl, rfl⟩
theorem req_no (w : World) : Calls Tryz.prog 93 #[.bool false] w fun e w' => e = badP ∧ w = w' := by
  go_enter Tryz.func93, Tryz.ntmps93
  go_wp2
  exact ⟨rfl, rfl, rfl⟩
/-- A byte of a text. -/
def bAt (s : ByteArray) (a : Nat) : Nat := (s.data.toList.getD a 0).toNat
/-- The reader of proofs. -/
def PR (q rb : Nat) (wd : Nat) (lo hi : ByteArray) (cnt : Nat) (w : World) : Prop := w.heap[q]? = some (.cells #[.pointer (some ⟨rb, 0, none⟩), .int .i64 (wd : Int), .string lo, .string hi, .int .i64 (cnt : Int)] 140)
theorem PR.ne {q rb r wd cnt a : Nat} {lo hi s : ByteArray} {f : Bool} {w : World} (h : PR q rb wd lo hi cnt w) (h2 : Rd r s a f w) : q ≠ r := fun e => by
  subst e
  unfold PR at h
  unfold Rd at h2
  rw [h] at h2
  simp only [Option.some.injEq, Obj.cells.injEq] at h2
  exact absurd h2.2.1 (by decide)
set_option maxRecDepth 100000 in
theorem rp_letter_ok (q rb wd : Nat) (lo hi s : ByteArray) (cnt a : Nat) (w : World) (hQ : PR q rb wd lo hi cnt w) (hR : Rd rb s a false w) (hs : s.size ≤ 1048576) (h : a < s.size) :
    Calls Tryz.prog 140 #[.pointer (some ⟨q, 0, none⟩), .iface 208 (.agg #[.int .i64 1, .bool false])] w fun e w' => e = .returned (.int .i64 (bAt s a : Int)) ∧ Rd rb s (a + 1) false w' ∧ Mv rb w w' := by
  have hne := hQ.ne hR
  have HC : Hid (Calls Tryz.prog 168 #[.pointer (some ⟨rb, 0, none⟩), .iface 208 (.agg #[.int .i64 1, .bool false])] w fun e w' => e = .returned (.int .i64 (bAt s a : Int)) ∧ w'.cell? ⟨q, 0, none⟩ = some (.pointer (some ⟨rb, 0, none⟩)) ∧ w'.cell? ⟨rb, 2, none⟩ = some (.bool false) ∧ Rd rb s (a + 1) false w' ∧ Mv rb w w') := by
    refine (rint1 rb s a false w hR (by omega) hs).mono ?_
    rintro e w' ⟨v, t, a', f', rfl, hN, hv, ha', _, hR', hM⟩
    rcases hN.out with ⟨_, h1, ht, rfl, rfl⟩ | ⟨h1, _⟩
    · refine ⟨?_, Lib.cell_of_heap (hM.cells hQ hne) 0, Lib.cell_of_heap hR' 2, hR', hM⟩
      have hts : t.size = 1 := by rw [ht, ByteArray.size_extract]; omega
      rw [hv.out, hts, val1, ht]
      rw [byteAt_ex s a 1 0 (by omega)]
      rfl
    · exfalso
      rcases h1 with h1 | h1
      · cases h1
      · omega
  have q0 : w.cell? ⟨q, 0, none⟩ = some (.pointer (some ⟨rb, 0, none⟩)) := Lib.cell_of_heap hQ 0
  clear hQ hR
  go_enter Tryz.func140, Tryz.ntmps140
  go_wp2_with (first | (go_at_call 168; refine HC.out.mono ?_; rintro e w1 ⟨rfl, q1, r1, hR1, hM1⟩) | (go_at_call 93; refine (req_yes _).mono ?_; rintro e w2 ⟨rfl, rfl⟩))
  go_ret
  exact ⟨rfl, hR1, hM1⟩
set_option maxRecDepth 100000 in
theorem rp_letter_no (q rb wd : Nat) (lo hi s : ByteArray) (cnt a : Nat) (w : World) (hQ : PR q rb wd lo hi cnt w) (hR : Rd rb s a false w) (hs : s.size ≤ 1048576) (ha : a ≤ s.size) (h : ¬ a < s.size) :
    Calls Tryz.prog 140 #[.pointer (some ⟨q, 0, none⟩), .iface 208 (.agg #[.int .i64 1, .bool false])] w fun e w' => e = badP ∧ Mv rb w w' := by
  have hne := hQ.ne hR
  have HC : Hid (Calls Tryz.prog 168 #[.pointer (some ⟨rb, 0, none⟩), .iface 208 (.agg #[.int .i64 1, .bool false])] w fun e w' => ∃ v : Int, e = .returned (.int .i64 v) ∧ w'.cell? ⟨q, 0, none⟩ = some (.pointer (some ⟨rb, 0, none⟩)) ∧ w'.cell? ⟨rb, 2, none⟩ = some (.bool true) ∧ Mv rb w w') := by
    refine (rint1 rb s a false w hR ha hs).mono ?_
    rintro e w' ⟨v, t, a', f', rfl, hN, hv, ha', _, hR', hM⟩
    rcases hN.out with ⟨_, h1, ht, rfl, rfl⟩ | ⟨h1, _, _, rfl⟩
    · exfalso; omega
    · exact ⟨v, rfl, Lib.cell_of_heap (hM.cells hQ hne) 0, Lib.cell_of_heap hR' 2, hM⟩
  have q0 : w.cell? ⟨q, 0, none⟩ = some (.pointer (some ⟨rb, 0, none⟩)) := Lib.cell_of_heap hQ 0
  clear hQ hR
  go_enter Tryz.func140, Tryz.ntmps140
  go_wp2_with (first | (go_at_call 168; refine HC.out.mono ?_; rintro e w1 ⟨v1, rfl, q1, r1, hM1⟩) | (go_at_call 93; refine (req_no _).mono ?_; rintro e w2 ⟨rfl, rfl⟩))
  exact ⟨rfl, rfl, hM1⟩
set_option maxRecDepth 100000 in
theorem rp_plain_ok (n : Nat) (hn : n ≤ 32) (q rb wd : Nat) (lo hi s : ByteArray) (cnt a : Nat) (w : World) (hQ : PR q rb wd lo hi cnt w) (hR : Rd rb s a false w) (hs : s.size ≤ 1048576) (h : a + n ≤ s.size) :
    Calls Tryz.prog 143 #[.pointer (some ⟨q, 0, none⟩), .iface 214 (.agg #[.int .i64 (n : Int)])] w fun e w' => e = .returned (.string (s.extract a (a + n))) ∧ Rd rb s (a + n) false w' ∧ Mv rb w w' := by
  have hne := hQ.ne hR
  have HC : Hid (Calls Tryz.prog 169 #[.pointer (some ⟨rb, 0, none⟩), .iface 214 (.agg #[.int .i64 (n : Int)])] w fun e w' => e = .returned (.string (s.extract a (a + n))) ∧ w'.cell? ⟨q, 0, none⟩ = some (.pointer (some ⟨rb, 0, none⟩)) ∧ w'.cell? ⟨rb, 2, none⟩ = some (.bool false) ∧ Rd rb s (a + n) false w' ∧ Mv rb w w') := by
    refine (rplain n rb s a false w hR (by omega) hs (by omega)).mono ?_
    rintro e w' ⟨t, a', f', rfl, hN, ha', _, hR', hM⟩
    rcases hN.out with ⟨_, h1, ht, rfl, rfl⟩ | ⟨h1, _⟩
    · exact ⟨by rw [ht], Lib.cell_of_heap (hM.cells hQ hne) 0, Lib.cell_of_heap hR' 2, hR', hM⟩
    · exfalso
      rcases h1 with h1 | h1
      · cases h1
      · omega
  have q0 : w.cell? ⟨q, 0, none⟩ = some (.pointer (some ⟨rb, 0, none⟩)) := Lib.cell_of_heap hQ 0
  generalize s.extract a (a + n) = X at HC ⊢
  clear hQ hR h
  go_enter Tryz.func143, Tryz.ntmps143
  go_wp2_with (first | (go_at_call 169; refine HC.out.mono ?_; rintro e w1 ⟨rfl, q1, r1, hR1, hM1⟩) | (go_at_call 93; refine (req_yes _).mono ?_; rintro e w2 ⟨rfl, rfl⟩))
  go_ret
  exact ⟨rfl, hR1, hM1⟩
set_option maxRecDepth 100000 in
theorem rp_plain_no (n : Nat) (hn : n ≤ 32) (q rb wd : Nat) (lo hi s : ByteArray) (cnt a : Nat) (w : World) (hQ : PR q rb wd lo hi cnt w) (hR : Rd rb s a false w) (hs : s.size ≤ 1048576) (ha : a ≤ s.size) (h : ¬ a + n ≤ s.size) :
    Calls Tryz.prog 143 #[.pointer (some ⟨q, 0, none⟩), .iface 214 (.agg #[.int .i64 (n : Int)])] w fun e w' => e = badP ∧ Mv rb w w' := by
  have hne := hQ.ne hR
  have HC : Hid (Calls Tryz.prog 169 #[.pointer (some ⟨rb, 0, none⟩), .iface 214 (.agg #[.int .i64 (n : Int)])] w fun e w' => ∃ X, e = .returned (.string X) ∧ w'.cell? ⟨q, 0, none⟩ = some (.pointer (some ⟨rb, 0, none⟩)) ∧ w'.cell? ⟨rb, 2, none⟩ = some (.bool true) ∧ Mv rb w w') := by
    refine (rplain n rb s a false w hR ha hs (by omega)).mono ?_
    rintro e w' ⟨t, a', f', rfl, hN, ha', _, hR', hM⟩
    rcases hN.out with ⟨_, h1, ht, rfl, rfl⟩ | ⟨h1, _, _, rfl⟩
    · exfalso; omega
    · exact ⟨t, rfl, Lib.cell_of_heap (hM.cells hQ hne) 0, Lib.cell_of_heap hR' 2, hM⟩
  have q0 : w.cell? ⟨q, 0, none⟩ = some (.pointer (some ⟨rb, 0, none⟩)) := Lib.cell_of_heap hQ 0
  clear hQ hR h
  go_enter Tryz.func143, Tryz.ntmps143
  go_wp2_with (first | (go_at_call 169; refine HC.out.mono ?_; rintro e w1 ⟨X, rfl, q1, r1, hM1⟩) | (go_at_call 93; refine (req_no _).mono ?_; rintro e w2 ⟨rfl, rfl⟩))
  exact ⟨rfl, rfl, hM1⟩
set_option maxRecDepth 100000 in
theorem rp_sized_ok (q rb wd : Nat) (lo hi s : ByteArray) (cnt a : Nat) (w : World) (hQ : PR q rb wd lo hi cnt w) (hR : Rd rb s a false w) (hs : s.size ≤ 1048576) (h : pieceOk s a) :
    Calls Tryz.prog 143 #[.pointer (some ⟨q, 0, none⟩), .iface 261 (.agg #[.int .i64 2, .bool false])] w fun e w' => e = .returned (.string (s.extract (a + 2) (a + 2 + szAt s a))) ∧ Rd rb s (a + 2 + szAt s a) false w' ∧ Mv rb w w' := by
  have hne := hQ.ne hR
  have HC : Hid (Calls Tryz.prog 169 #[.pointer (some ⟨rb, 0, none⟩), .iface 261 (.agg #[.int .i64 2, .bool false])] w fun e w' => e = .returned (.string (s.extract (a + 2) (a + 2 + szAt s a))) ∧ w'.cell? ⟨q, 0, none⟩ = some (.pointer (some ⟨rb, 0, none⟩)) ∧ w'.cell? ⟨rb, 2, none⟩ = some (.bool false) ∧ Rd rb s (a + 2 + szAt s a) false w' ∧ Mv rb w w') := by
    refine (rsized2 rb s a false w hR (by have := h.1; omega) hs).mono ?_
    rintro e w' ⟨t, a', f', rfl, hN, ha', _, hR', hM⟩
    rcases SX2 hN.out with ⟨_, h1, ht, rfl, rfl⟩ | ⟨h1, _⟩
    · exact ⟨by rw [ht], Lib.cell_of_heap (hM.cells hQ hne) 0, Lib.cell_of_heap hR' 2, hR', hM⟩
    · exfalso
      rcases h1 with h1 | h1
      · cases h1
      · exact h1 h
  have q0 : w.cell? ⟨q, 0, none⟩ = some (.pointer (some ⟨rb, 0, none⟩)) := Lib.cell_of_heap hQ 0
  generalize s.extract (a + 2) (a + 2 + szAt s a) = X at HC ⊢
  generalize a + 2 + szAt s a = a2 at HC ⊢
  clear hQ hR h
  go_enter Tryz.func143, Tryz.ntmps143
  go_wp2_with (first | (go_at_call 169; refine HC.out.mono ?_; rintro e w1 ⟨rfl, q1, r1, hR1, hM1⟩) | (go_at_call 93; refine (req_yes _).mono ?_; rintro e w2 ⟨rfl, rfl⟩))
  go_ret
  exact ⟨rfl, hR1, hM1⟩
set_option maxRecDepth 100000 in
theorem rp_sized_no (q rb wd : Nat) (lo hi s : ByteArray) (cnt a : Nat) (w : World) (hQ : PR q rb wd lo hi cnt w) (hR : Rd rb s a false w) (hs : s.size ≤ 1048576) (ha : a ≤ s.size) (h : ¬ pieceOk s a) :
    Calls Tryz.prog 143 #[.pointer (some ⟨q, 0, none⟩), .iface 261 (.agg #[.int .i64 2, .bool false])] w fun e w' => e = badP ∧ Mv rb w w' := by
  have hne := hQ.ne hR
  have HC : Hid (Calls Tryz.prog 169 #[.pointer (some ⟨rb, 0, none⟩), .iface 261 (.agg #[.int .i64 2, .bool false])] w fun e w' => ∃ X, e = .returned (.string X) ∧ w'.cell? ⟨q, 0, none⟩ = some (.pointer (some ⟨rb, 0, none⟩)) ∧ w'.cell? ⟨rb, 2, none⟩ = some (.bool true) ∧ Mv rb w w') := by
    refine (rsized2 rb s a false w hR ha hs).mono ?_
    rintro e w' ⟨t, a', f', rfl, hN, ha', _, hR', hM⟩
    rcases SX2 hN.out with ⟨_, h1, ht, rfl, rfl⟩ | ⟨h1, rfl⟩
    · exact absurd h1 h
    · exact ⟨t, rfl, Lib.cell_of_heap (hM.cells hQ hne) 0, Lib.cell_of_heap hR' 2, hM⟩
  have q0 : w.cell? ⟨q, 0, none⟩ = some (.pointer (some ⟨rb, 0, none⟩)) := Lib.cell_of_heap hQ 0
  clear hQ hR h
  go_enter Tryz.func143, Tryz.ntmps143
  go_wp2_with (first | (go_at_call 169; refine HC.out.mono ?_; rintro e w1 ⟨X, rfl, q1, r1, hM1⟩) | (go_at_call 93; refine (req_no _).mono ?_; rintro e w2 ⟨rfl, rfl⟩))
  exact ⟨rfl, rfl, hM1⟩
end Go.Proofs.YtibjhkpgaaapaaaGreatDoor
namespace Go.Proofs.YtibjhkpgaaapaaaGreatDoor
open Go.RowKit Go.Proofs.Sha

theorem Row.setHead {w : World} {base g n cap : Nat} {xs : List Value} (h : Row w base g n cap xs) (ys : List Value) (ho : ys.length ≤ n) : Row (w.setCells g 0 ys) base g n cap (ys ++ xs.drop ys.length) := by
  have hin : ∀ j (hj : j < ys.length), (w.setCells g 0 ys).cell? ⟨g, 0 + j, none⟩ = some ys[j] := World.cell?_setCells_in g ys 0 w (fun j hj => h.room (0 + j) (by have := h.le; omega))
  have hout : ∀ j, j < 0 ∨ 0 + ys.length ≤ j → (w.setCells g 0 ys).cell? ⟨g, j, none⟩ = w.cell? ⟨g, j, none⟩ := fun j hj => World.cell?_setCells_out g ys 0 w ⟨g, j, none⟩ (fun _ _ => hj)
  have hgr := grownBy_setCells g ys 0 w
  have hl := h.len
  refine ⟨h.ge, Nat.lt_of_lt_of_le h.lt hgr.size, by rw [List.length_append, List.length_drop]; omega, h.le, ?_, ?_, ?_⟩
  · intro j hj
    rcases Nat.lt_or_ge j ys.length with h1 | h1
    · have := hin j h1
      rw [Nat.zero_add] at this
      rw [this, List.getElem?_append_left h1, List.getElem?_eq_getElem h1]
    · rw [hout j (.inr (by omega)), h.cell j hj, List.getElem?_append_right h1, List.getElem?_drop, show ys.length + (j - ys.length) = j by omega]
  · intro j hj
    rcases Nat.lt_or_ge j ys.length with h1 | h1
    · have := hin j h1
      rw [Nat.zero_add] at this
      rw [this]; rfl
    · rw [hout j (.inr (by omega))]; exact h.room j hj
  · intro j hj
    rw [World.frozen?_setCells]; exact h.free j hj
theorem info5m : (Tryz.prog.info? 5).map (·.size) = some 1 := by kernel_rfl
theorem run_copy_text {w : World} {base g n cap : Nat} {xs : List Value} (h : Row w base g n cap xs) (s : ByteArray) (hs : s.size ≤ n) :
    (Builtin.copy_ #[41, 9] 3 #[.slice (some ⟨g, 0, none⟩) n n, .string s]).run Tryz.prog w = .ok (goInt s.size) (w.setCells g 0 (s.data.toList.map B)) := by
  have hlen : (s.data.toList.map B).length = s.size := by rw [List.length_map]; rfl
  have hst := run_storeCells_cells (P := Tryz.prog) g 0 (s.data.toList.map B) 0 w (fun j hj => by have := h.room j (by have := h.le; omega); simpa using this) (fun j hj => by have := h.free j (by have := h.le; omega); simpa using this) (fun v hv => by obtain ⟨x, _, rfl⟩ := List.mem_map.1 hv; rfl)
  simp only [Nat.add_zero] at hst
  have hmin : Nat.min s.size n = s.size := Nat.min_eq_left hs
  have htk : List.take s.size (List.map (fun b : UInt8 => Value.int IntKind.u8 (b.toNat : Int)) s.data.toList) = s.data.toList.map B := by
    rw [List.take_of_length_le (by rw [List.length_map]; exact Nat.le_refl _)]; rfl
  obtain ⟨i, hi, hsz⟩ : ∃ i, Tryz.prog.info? 5 = some i ∧ i.size = 1 := by
    have := info5m
    cases hh : Tryz.prog.info? 5 with
    | none => rw [hh] at this; cases this
    | some i => rw [hh] at this; exact ⟨i, rfl, Option.some.inj this⟩
  simp [Builtin.copy_, run_underlying Tryz.underlying41, sizeOf, typeInfo, hi, Builtin.lenOf, hmin, Builtin.firstCells, htk, hst]

set_option maxRecDepth 100000 in
set_option maxHeartbeats 1000000 in
theorem find_any (wd : Nat) (r : Nat) (F : List UInt8 → Option Int) (hash : ByteArray) (w : World) (h : MapF F r w) (h1 : wd ≤ 32) (h2 : hash.size = wd) :
    Calls Tryz.prog 199 #[.agg #[.int .i64 (wd : Int), .map (some r)], .string hash] w fun e w' => e = .returned (.tuple #[.int .i64 ((F (cutW wd hash.data.toList)).getD 0), .bool (F (cutW wd hash.data.toList)).isSome]) ∧ Below w.heap.size w w' := by
  have z1 : ((hash.size : Int) != (wd : Int)) = false := by rw [h2]; simp
  have hsz : hash.size ≤ 32 := by omega
  have hhl : hash.data.toList.length = hash.size := rfl
  have hcut : hash.data.toList.map B ++ (zeros32b.map B).drop (hash.data.toList.map B).length = (cutW wd hash.data.toList).map B := by
    unfold cutW zeros32b
    rw [List.map_append, List.take_of_length_le (by omega), List.length_map, hhl, h2, List.map_replicate, List.map_replicate, List.drop_replicate]
  have hX : (cutW wd hash.data.toList).length = 32 := by unfold cutW; rw [List.length_append, List.length_take, List.length_replicate]; omega
  obtain ⟨X, hXX⟩ : ∃ X, cutW wd hash.data.toList = X := ⟨_, rfl⟩
  rw [hXX] at hcut hX ⊢
  clear h2 hXX
  have hrl : r < w.heap.size := by
    obtain ⟨es, cl, hg, _, _⟩ := h.is
    exact (Array.getElem?_eq_some_iff.1 hg).1
  go_enter Tryz.func199, Tryz.ntmps199
  obtain ⟨ga, hga⟩ : ∃ ga, w.heap.size = ga := ⟨_, rfl⟩
  go_wp2_with (first | (refine wpList_alloc_row _ rfl (some 6) rfl 247 247 rfl (zeros32b.map B) alloc43 ?_; intro g2 w2 hr2 hb2))
  have hr2' : Row w2 (ga + 1) g2 32 32 (zeros32b.map B) := by
    have := hr2
    rw [World.size_alloc, hga] at this
    exact this
  have hcp := run_copy_text hr2' hash hsz
  have hR3 := Row.setHead hr2' (hash.data.toList.map B) (by rw [List.length_map]; omega)
  rw [hcut] at hR3
  have hg3 := grownBy_setCells g2 (hash.data.toList.map B) 0 w2
  obtain ⟨w3, hw3⟩ : ∃ w3, w2.setCells g2 0 (hash.data.toList.map B) = w3 := ⟨_, rfl⟩
  rw [hw3] at hcp hR3 hg3
  clear hw3
  have hge := hr2'.ge
  have hb2' : Below (ga + 1) (w.alloc (.cells #[.int .i64 (wd : Int), .map (some r)] 192)) w2 := by
    have := hb2
    rw [World.size_alloc, hga] at this
    exact this
  have hn2 : w2.heap[ga]? = some (.cells #[.int .i64 (wd : Int), .map (some r)] 192) := (hb2'.block ga (by omega)).trans (by rw [← hga]; exact heap_alloc_new w _)
  have hne : ga ≠ g2 := by omega
  have hn3 : w3.heap[ga]? = some (.cells #[.int .i64 (wd : Int), .map (some r)] 192) := (hg3.block ga (Array.getElem?_eq_some_iff.1 hn2).1 (fun e => hne (Option.some.inj e))).trans hn2
  have hB2 : Below w.heap.size w w2 := ((Below.refl _ w).alloc (Nat.le_refl _) _).trans (hb2'.mono (by omega))
  have hM3 : MapF F r w3 := (h.below hB2).kept hg3 (by omega)
  have hB3 : Below w.heap.size w w3 := hB2.trans (below_of_grown hg3 (by omega) hB2.size)
  have hlk := run_look key43 Tryz.underlying190 zeroV3 hM3 X hX
  unfold K32 at hlk
  have d0 := Lib.cell_of_heap hn3 0
  have d1 := Lib.cell_of_heap hn3 1
  clear hb2 hb2' hr2 hr2' hB2 hn2 hM3 h
  obtain ⟨fx, hfx⟩ : ∃ fx, F X = fx := ⟨_, rfl⟩
  rw [hfx] at hlk
  have HF : Hid (F X = fx) := hfx
  clear hfx
  rw [hcp]
  clear hcp
  go_wp2_with (first | (refine wpList_load_whole _ rfl 247 (.tmp 6) rfl (ga + 1) g2 32 32 (X.map B) 5 rfl hR3 Tryz.underlying247 size43 ?_))
  go_ret2
  rw [HF.out]
  exact ⟨rfl, hB3⟩
end Go.Proofs.YtibjhkpgaaapaaaGreatDoor
namespace Go.Proofs.YtibjhkpgaaapaaaGreatDoor
open Go.RowKit Go.Proofs.Sha

/-- A slice of texts. -/
structure SArg (a : Option Addr) (ss : List ByteArray) (w : World) : Prop where
  le : ss.length ≤ 1048576
  sz : ∀ j, (ss.getD j ⟨#[]⟩).size ≤ 1048576
  at_ : 0 < ss.length → ∃ b off : Nat, a = some ⟨b, off, none⟩ ∧ b < w.heap.size ∧ ∀ j, j < ss.length → w.cell? ⟨b, off + j, none⟩ = some (.string (ss.getD j ⟨#[]⟩))
theorem SArg.below {a : Option Addr} {ss : List ByteArray} {w w' : World} (h : SArg a ss w) (hb : Below w.heap.size w w') : SArg a ss w' := by
  refine ⟨h.le, h.sz, fun hn => ?_⟩
  obtain ⟨b, off, ha, hlt, hc⟩ := h.at_ hn
  exact ⟨b, off, ha, Nat.lt_of_lt_of_le hlt hb.size, fun j hj => (hb.cell hlt).trans (hc j hj)⟩
/-- The hash of an encoding, cut to a width. -/
def keyW (wd : Nat) (s : ByteArray) : List UInt8 := cutW wd (sha (78 :: s.data.toList))
/-- The places of the first k encodings. -/
def placesF (wd : Nat) (ss : List ByteArray) : Nat → List UInt8 → Option Int
  | 0 => fun _ => none
  | k + 1 => addF (placesF wd ss k) (keyW wd (ss.getD k ⟨#[]⟩)) (k : Int)

end Go.Proofs.YtibjhkpgaaapaaaGreatDoor
