import Derived.Test.YtibjhkpgaaapaaaGreatDoorZvbq
import Derived.Test.YtibjhkpgaaapaaaGreatDoorZvbr
import Derived.Test.YtibjhkpgaaapaaaGreatDoorZvbi
import Derived.Test.YtibjhkpgaaapaaaGreatDoorZvau
namespace Go.Proofs.YtibjhkpgaaapaaaGreatDoor
open Go.RowKit Go.Proofs.Sha

theorem pblk_below {g : Nat} {o : Obj} {w w' : World} (hb : Below w.heap.size w w') (h : w.heap[g]? = some o) : w'.heap[g]? = some o := (hb.block g (Array.getElem?_eq_some_iff.1 h).1).trans h
set_option maxRecDepth 100000 in
theorem retP {fn : Func} {R : Ending → World → Prop} {A : Act} {p : Tmp} {gb : Nat} {n : Int} {a : Option Addr} {m c : Nat} {W : World} (hres : fn.results = #[.cell p 31]) (hp : A.tmps.getD p undef = .pointer (some ⟨gb, 0, none⟩)) (hd : A.defers = []) (hn : W.heap[gb]? = some (.cells #[.int .i64 n, .slice a m c] 31))
    (h : R (.returned (.agg #[.int .i64 n, .slice a m c])) W) : bodyPost Tryz.prog fn R Exit.ret A W := by
  have c0 := Lib.cell_of_heap hn 0
  have c1 := Lib.cell_of_heap hn 1
  have hp' : A.tmps[p]?.getD undef = .pointer (some ⟨gb, 0, none⟩) := by simpa using hp
  refine bodyPost_ret (v := .agg #[.int .i64 n, .slice a m c]) ?_ hd h
  simp [results, hres, go_sem, asAddr, hp', c0, c1]
set_option maxRecDepth 100000 in
set_option maxHeartbeats 1000000 in
theorem szPool_any (n : Int) (a : Option Addr) (ss : List ByteArray) (c : Nat) (w : World) (h : RArg a ss w) (hN : ss.length ≤ maxLen) (hM : ∀ j, (ss.getD j ⟨#[]⟩).size ≤ maxLen) :
    Calls Tryz.prog 11 #[.agg #[.int .i64 n, .slice a ss.length c], .int .i64 1048576] w fun e w' => ∃ r : Int, e = .returned (.int .i64 r) ∧ Hid (0 ≤ r → SmallS ss) ∧ Below w.heap.size w w' := by
  have hb0 : Below w.heap.size w (w.alloc (.cells #[.int .i64 n, .slice a ss.length c] 27)) := (Below.refl _ _).alloc (Nat.le_refl _) _
  have HS : Hid (∀ w', RArg a ss w' → Calls Tryz.prog 47 #[.slice a ss.length c, .int .i64 1048576] w' fun e w'' => ∃ r : Int, e = .returned (.int .i64 r) ∧ Hid (0 ≤ r → SmallS ss) ∧ w' = w'') := fun w' h' => szStringS_any a ss c w' h' hN hM
  have h1 := h.below hb0
  go_enter Tryz.func11, Tryz.ntmps11
  go_wp2_with fail
  refine (HS.out _ h1).mono ?_
  rintro e w1 ⟨r, rfl, HR, rfl⟩
  by_cases hr : r < 0
  · have z1 : decide (r < 0) = true := decide_eq_true hr
    go_wp2_with fail
    go_ret
    exact ⟨_, rfl, fun hh => absurd hh (by decide), hb0⟩
  · have z1 : decide (r < 0) = false := decide_eq_false hr
    go_wp2_with fail
    go_ret
    exact ⟨_, rfl, HR, hb0⟩

set_option maxRecDepth 100000 in
set_option maxHeartbeats 1000000 in
theorem toPool_any (n : Int) (a : Option Addr) (ss : List ByteArray) (c : Nat) (w : World) (h : SArg a ss w) (hs : Hid (SmallS ss)) :
    Calls Tryz.prog 13 #[.agg #[.int .i64 n, .slice a ss.length c]] w fun e w' => ∃ g, e = .returned (.agg #[.int .i64 n, .slice (some ⟨g, 0, none⟩) ss.length ss.length]) ∧ SArg (some ⟨g, 0, none⟩) ss w' ∧ Below w.heap.size w w' := by
  have HT : Hid (∀ w', SArg a ss w' → Calls Tryz.prog 51 #[.slice a ss.length c] w' fun e w'' => ∃ g, e = .returned (.slice (some ⟨g, 0, none⟩) ss.length ss.length) ∧ Row w'' w'.heap.size g ss.length ss.length (ss.map Value.string) ∧ Below w'.heap.size w' w'') := fun w' h' => toStringS_any a ss c w' h'
  go_enter Tryz.func13, Tryz.ntmps13
  obtain ⟨o1, ho1⟩ : ∃ o : Obj, .cells #[.int .i64 n, .slice a ss.length c] 27 = o := ⟨_, rfl⟩
  have hW : Below w.heap.size w (((w.alloc o1).alloc (.cells #[.int .i64 0, .slice none 0 0] 31)).alloc (.cells #[.int .i64 n, .slice none 0 0] 31)) := ((((Below.refl _ w).alloc (Nat.le_refl _) _).alloc (by simp) _).alloc (by simp; omega) _)
  have m2 := heap_alloc_new ((w.alloc o1).alloc (.cells #[.int .i64 0, .slice none 0 0] 31)) (.cells #[.int .i64 n, .slice none 0 0] 31)
  have m1 := pblk_below ((Below.refl _ _).alloc (Nat.le_refl _) (.cells #[.int .i64 n, .slice none 0 0] 31)) (heap_alloc_new (w.alloc o1) (.cells #[.int .i64 0, .slice none 0 0] 31))
  have hsz3 : (((w.alloc o1).alloc (.cells #[.int .i64 0, .slice none 0 0] 31)).alloc (.cells #[.int .i64 n, .slice none 0 0] 31)).heap.size = w.heap.size + 3 := by simp
  rw [World.size_alloc] at m1
  rw [World.size_alloc, World.size_alloc] at m2
  subst ho1
  go_wp2_with fail
  refine (HT.out _ (h.below hW)).mono ?_
  rintro e w1 ⟨g, rfl, hrow, hb1⟩
  have n1 := pblk_below hb1 m1
  have n2 := pblk_below hb1 m2
  have hge := hrow.ge
  have hB1 := hW.trans (hb1.mono hW.size)
  rw [hsz3] at hge
  replace hrow := hrow.mono (Nat.zero_le _)
  clear hb1 m1 m2 hW hsz3
  obtain ⟨g1, hg1⟩ : ∃ g1, w.heap.size + 1 = g1 := ⟨_, rfl⟩
  obtain ⟨g2, hg2⟩ : ∃ g2, w.heap.size + 1 + 1 = g2 := ⟨_, rfl⟩
  rw [hg1] at n1
  rw [hg2] at n2
  rw [hg2, hg1]
  have hle1 : w.heap.size ≤ g1 := by omega
  have hle2 : w.heap.size ≤ g2 := by omega
  have hne1 : g1 ≠ g := by omega
  have hne2 : g2 ≠ g := by omega
  have hne : g2 ≠ g1 := by omega
  clear hge hg1 hg2
  have c0 := Lib.cell_of_heap n2 0
  have c1 := Lib.cell_of_heap n2 1
  have fr2 : ∀ j, w1.frozen? ⟨g2, j, none⟩ = false := fun j => by rw [World.frozen?, n2]; rfl
  have f1 := fr2 1
  obtain ⟨W, hWW⟩ : ∃ W, w1.setCell ⟨g2, 1, none⟩ (.slice (some ⟨g, 0, none⟩) ss.length ss.length) = W := ⟨_, rfl⟩
  have p2 : W.heap[g2]? = some (.cells #[.int .i64 n, .slice (some ⟨g, 0, none⟩) ss.length ss.length] 31) := by rw [← hWW]; exact heap_setCell_same _ g2 1 _ 31 _ n2
  have p1 : W.heap[g1]? = some (.cells #[.int .i64 0, .slice none 0 0] 31) := by
    rw [← hWW]
    exact ((grownBy_setCell _ _ _ _).block g1 (Array.getElem?_eq_some_iff.1 n1).1 (fun e => hne (Option.some.inj e).symm)).trans n1
  have hrW : Row W 0 g ss.length ss.length (ss.map Value.string) := by rw [← hWW]; exact hrow.kept (grownBy_setCell _ _ _ _) (fun e => hne2 (Option.some.inj e).symm)
  have hBW : Below w.heap.size w W := by rw [← hWW]; exact hB1.setCell hle2 _
  go_upto_region 4 with fail
  clear hWW n1 n2 c0 c1 f1 fr2 hrow hB1
  have c0 := Lib.cell_of_heap p2 0
  have c1 := Lib.cell_of_heap p2 1
  have e0 := Lib.cell_of_heap p1 0
  have e1 := Lib.cell_of_heap p1 1
  have fr1 : ∀ j, W.frozen? ⟨g1, j, none⟩ = false := fun j => by rw [World.frozen?, p1]; rfl
  have f0 := fr1 0
  have f1 := fr1 1
  go_wp2_with fail
  have q1 := heap_setCell_same _ g1 1 _ 31 (.slice (some ⟨g, 0, none⟩) ss.length ss.length) (heap_setCell_same _ g1 0 _ 31 (.int .i64 n) p1)
  refine retP Tryz.results13 rfl rfl q1 ⟨g, rfl, Row.sarg ((hrW.kept (grownBy_setCell _ _ _ _) (fun e => hne1 (Option.some.inj e).symm)).kept (grownBy_setCell _ _ _ _) (fun e => hne1 (Option.some.inj e).symm)) hs.out, (hBW.setCell hle1 _).setCell hle1 _⟩
set_option maxRecDepth 100000 in
set_option maxHeartbeats 1000000 in
theorem eqPool_same (n : Int) (a a2 : Option Addr) (ss : List ByteArray) (c c2 : Nat) (w : World) (h : SArg a ss w) (h2 : SArg a2 ss w) :
    Calls Tryz.prog 15 #[.agg #[.int .i64 n, .slice a ss.length c], .agg #[.int .i64 n, .slice a2 ss.length c2]] w fun e w' => e = .returned (.bool true) ∧ Below w.heap.size w w' := by
  have HT : Hid (∀ w', SArg a ss w' → SArg a2 ss w' → Calls Tryz.prog 55 #[.slice a ss.length c, .slice a2 ss.length c2] w' fun e w'' => e = .returned (.bool true) ∧ Below w'.heap.size w' w'') := fun w' h' h2' => eqStringS_same a a2 ss c c2 w' h' h2'
  have z : (n != n) = false := by simp
  go_enter Tryz.func15, Tryz.ntmps15
  have hb0 : Below w.heap.size w ((w.alloc (.cells #[.int .i64 n, .slice a ss.length c] 31)).alloc (.cells #[.int .i64 n, .slice a2 ss.length c2] 31)) := ((Below.refl _ w).alloc (Nat.le_refl _) _).alloc (by simp) _
  go_wp2_with fail
  refine (HT.out _ (h.below hb0) (h2.below hb0)).mono ?_
  rintro e w1 ⟨rfl, hb1⟩
  have hB1 := hb0.trans (hb1.mono hb0.size)
  go_wp2_with fail
  go_ret
  exact ⟨rfl, hB1⟩
end Go.Proofs.YtibjhkpgaaapaaaGreatDoor
namespace Go.Proofs.YtibjhkpgaaapaaaGreatDoor
open Go.RowKit Go.Proofs.Sha

set_option maxRecDepth 100000 in
set_option maxHeartbeats 1000000 in
theorem toPool_row (n : Int) (a : Option Addr) (ss : List ByteArray) (c : Nat) (w : World) (h : SArg a ss w) :
    Calls Tryz.prog 13 #[.agg #[.int .i64 n, .slice a ss.length c]] w fun e w' => ∃ g, e = .returned (.agg #[.int .i64 n, .slice (some ⟨g, 0, none⟩) ss.length ss.length]) ∧ Row w' w.heap.size g ss.length ss.length (ss.map Value.string) ∧ Below w.heap.size w w' := by
  have HT : Hid (∀ w', SArg a ss w' → Calls Tryz.prog 51 #[.slice a ss.length c] w' fun e w'' => ∃ g, e = .returned (.slice (some ⟨g, 0, none⟩) ss.length ss.length) ∧ Row w'' w'.heap.size g ss.length ss.length (ss.map Value.string) ∧ Below w'.heap.size w' w'') := fun w' h' => toStringS_any a ss c w' h'
  go_enter Tryz.func13, Tryz.ntmps13
  obtain ⟨o1, ho1⟩ : ∃ o : Obj, .cells #[.int .i64 n, .slice a ss.length c] 27 = o := ⟨_, rfl⟩
  have hW : Below w.heap.size w (((w.alloc o1).alloc (.cells #[.int .i64 0, .slice none 0 0] 31)).alloc (.cells #[.int .i64 n, .slice none 0 0] 31)) := ((((Below.refl _ w).alloc (Nat.le_refl _) _).alloc (by simp) _).alloc (by simp; omega) _)
  have m2 := heap_alloc_new ((w.alloc o1).alloc (.cells #[.int .i64 0, .slice none 0 0] 31)) (.cells #[.int .i64 n, .slice none 0 0] 31)
  have m1 := pblk_below ((Below.refl _ _).alloc (Nat.le_refl _) (.cells #[.int .i64 n, .slice none 0 0] 31)) (heap_alloc_new (w.alloc o1) (.cells #[.int .i64 0, .slice none 0 0] 31))
  have hsz3 : (((w.alloc o1).alloc (.cells #[.int .i64 0, .slice none 0 0] 31)).alloc (.cells #[.int .i64 n, .slice none 0 0] 31)).heap.size = w.heap.size + 3 := by simp
  rw [World.size_alloc] at m1
  rw [World.size_alloc, World.size_alloc] at m2
  subst ho1
  go_wp2_with fail
  refine (HT.out _ (h.below hW)).mono ?_
  rintro e w1 ⟨g, rfl, hrow, hb1⟩
  have n1 := pblk_below hb1 m1
  have n2 := pblk_below hb1 m2
  have hge := hrow.ge
  have hB1 := hW.trans (hb1.mono hW.size)
  rw [hsz3] at hge
  replace hrow := hrow.mono (show w.heap.size ≤ _ by rw [hsz3]; omega)
  clear hb1 m1 m2 hW hsz3
  obtain ⟨g1, hg1⟩ : ∃ g1, w.heap.size + 1 = g1 := ⟨_, rfl⟩
  obtain ⟨g2, hg2⟩ : ∃ g2, w.heap.size + 1 + 1 = g2 := ⟨_, rfl⟩
  rw [hg1] at n1
  rw [hg2] at n2
  rw [hg2, hg1]
  have hle1 : w.heap.size ≤ g1 := by omega
  have hle2 : w.heap.size ≤ g2 := by omega
  have hne1 : g1 ≠ g := by omega
  have hne2 : g2 ≠ g := by omega
  have hne : g2 ≠ g1 := by omega
  clear hge hg1 hg2
  have c0 := Lib.cell_of_heap n2 0
  have c1 := Lib.cell_of_heap n2 1
  have fr2 : ∀ j, w1.frozen? ⟨g2, j, none⟩ = false := fun j => by rw [World.frozen?, n2]; rfl
  have f1 := fr2 1
  obtain ⟨W, hWW⟩ : ∃ W, w1.setCell ⟨g2, 1, none⟩ (.slice (some ⟨g, 0, none⟩) ss.length ss.length) = W := ⟨_, rfl⟩
  have p2 : W.heap[g2]? = some (.cells #[.int .i64 n, .slice (some ⟨g, 0, none⟩) ss.length ss.length] 31) := by rw [← hWW]; exact heap_setCell_same _ g2 1 _ 31 _ n2
  have p1 : W.heap[g1]? = some (.cells #[.int .i64 0, .slice none 0 0] 31) := by
    rw [← hWW]
    exact ((grownBy_setCell _ _ _ _).block g1 (Array.getElem?_eq_some_iff.1 n1).1 (fun e => hne (Option.some.inj e).symm)).trans n1
  have hrW : Row W w.heap.size g ss.length ss.length (ss.map Value.string) := by rw [← hWW]; exact hrow.kept (grownBy_setCell _ _ _ _) (fun e => hne2 (Option.some.inj e).symm)
  have hBW : Below w.heap.size w W := by rw [← hWW]; exact hB1.setCell hle2 _
  go_upto_region 4 with fail
  clear hWW n1 n2 c0 c1 f1 fr2 hrow hB1
  have c0 := Lib.cell_of_heap p2 0
  have c1 := Lib.cell_of_heap p2 1
  have e0 := Lib.cell_of_heap p1 0
  have e1 := Lib.cell_of_heap p1 1
  have fr1 : ∀ j, W.frozen? ⟨g1, j, none⟩ = false := fun j => by rw [World.frozen?, p1]; rfl
  have f0 := fr1 0
  have f1 := fr1 1
  go_wp2_with fail
  have q1 := heap_setCell_same _ g1 1 _ 31 (.slice (some ⟨g, 0, none⟩) ss.length ss.length) (heap_setCell_same _ g1 0 _ 31 (.int .i64 n) p1)
  refine retP Tryz.results13 rfl rfl q1 ⟨g, rfl, (hrW.kept (grownBy_setCell _ _ _ _) (fun e => hne1 (Option.some.inj e).symm)).kept (grownBy_setCell _ _ _ _) (fun e => hne1 (Option.some.inj e).symm), (hBW.setCell hle1 _).setCell hle1 _⟩
theorem PArg.grown {a : Option Addr} {ps : List PairT} {w w' : World} {row : Option Nat} (h : PArg a ps w) (hg : w.grownBy w' row) (hn : ∀ b off, a = some ⟨b, off, none⟩ → 0 < ps.length → some b ≠ row) : PArg a ps w' := by
  refine ⟨h.le, h.sz, fun h0 => ?_⟩
  obtain ⟨b, off, ha, hlt, hc⟩ := h.at_ h0
  have hne := hn b off ha h0
  exact ⟨b, off, ha, Nat.lt_of_lt_of_le hlt hg.size, fun j hj => ⟨(hg.cell_far ⟨b, off + j * 2, none⟩ hlt hne).trans (hc j hj).1, (hg.cell_far ⟨b, off + j * 2 + 1, none⟩ hlt hne).trans (hc j hj).2⟩⟩
theorem own_parg {w : World} {base c : Nat} {a : Option Addr} {ps : List PairT} (h : w.ownsRow base 81 2 (.slice a ps.length c) ps.length (flatP ps)) (hs : SmallP ps) : PArg a ps w := by
  rcases own_prow h with h0 | ⟨g, rfl, hr⟩
  · exact ⟨hs.1, hs.2, fun q => by omega⟩
  · exact Row.parg hr hs
theorem own_in {w : World} {base n c : Nat} {a : Option Addr} {xs : List Value} (h : w.ownsRow base 81 2 (.slice a n c) n xs) (b off : Nat) (e : a = some ⟨b, off, none⟩) : base ≤ b ∧ b < w.heap.size := by
  obtain ⟨q1, q2, _⟩ := own2_cells h (g := b) (by rw [e]; rfl)
  exact ⟨q1, q2⟩
end Go.Proofs.YtibjhkpgaaapaaaGreatDoor
namespace Go.Proofs.YtibjhkpgaaapaaaGreatDoor
open Go.RowKit Go.Proofs.Sha

/-- How far the pairs with a key set are put together. -/
def Mid (rest : List PairT) (key val : ByteArray) (k : Nat) (out : List PairT) : Bool → Prop
  | true => out ++ rest.drop k = ins key val rest
  | false => out = rest.take k ∧ ins key val rest = rest.take k ++ ins key val (rest.drop k)
theorem drewN_below (w : World) (q : Nat) : Below w.heap.size w (w.drewN q) := draws_below _ (Below.refl _ _)
theorem Mid.start (rest : List PairT) (key val : ByteArray) : Mid rest key val 0 [] false := ⟨rfl, rfl⟩
theorem Mid.done {rest : List PairT} {key val : ByteArray} {k : Nat} {out : List PairT} (h : Mid rest key val k out true) (hk : k < rest.length) : Mid rest key val (k + 1) (out ++ [rest.getD k noPair]) true := by
  unfold Mid at h ⊢
  rw [← h, drop_getD rest k hk]
  simp
theorem Mid.now {rest : List PairT} {key val : ByteArray} {k : Nat} {out : List PairT} (h : Mid rest key val k out false) (hk : k < rest.length) (hl : lessB key (rest.getD k noPair).1 = true) : Mid rest key val (k + 1) (out ++ [(key, val)] ++ [rest.getD k noPair]) true := by
  unfold Mid at h ⊢
  obtain ⟨h1, h2⟩ := h
  rw [h2, drop_getD rest k hk, ins, if_pos hl, h1]
  simp
theorem Mid.past {rest : List PairT} {key val : ByteArray} {k : Nat} {out : List PairT} (h : Mid rest key val k out false) (hk : k < rest.length) (hl : lessB key (rest.getD k noPair).1 = false) : Mid rest key val (k + 1) (out ++ [rest.getD k noPair]) false := by
  unfold Mid at h ⊢
  obtain ⟨h1, h2⟩ := h
  rw [take_getD rest k hk, h1]
  refine ⟨rfl, ?_⟩
  rw [h2, drop_getD rest k hk, ins, if_neg (by rw [hl]; decide)]
  simp
theorem OwnP.up {w w1 W : World} {xs : List PairT} {a : Option Addr} {m c : Nat} (h : OwnP w1 xs a m c W) (hb : Below w.heap.size w w1) : OwnP w xs a m c W :=
  ⟨own2_mono h.own hb.size, hb.trans (h.bel.mono hb.size), h.len⟩
theorem ownp_parg {w W : World} {c m : Nat} {a : Option Addr} {ps : List PairT} (h : OwnP w ps a m c W) (hs : SmallP ps) : PArg a ps W := by
  have hl := h.len
  subst hl
  exact own_parg h.own hs
theorem Mid.len {rest : List PairT} {key val : ByteArray} {k : Nat} {out : List PairT} {d : Bool} (h : Mid rest key val k out d) : out.length ≤ rest.length + 1 := by
  have hi : ∀ l : List PairT, (ins key val l).length = l.length + 1 := fun l => by
    induction l with
    | nil => rfl
    | cons p l ih => rw [ins]; split <;> simp [ih]
  cases d with
  | true =>
    have := congrArg List.length h
    rw [List.length_append, hi] at this
    omega
  | false =>
    rw [h.1, List.length_take]
    omega
set_option maxRecDepth 100000 in
set_option maxHeartbeats 2000000 in
theorem with_any (a : Option Addr) (ps : List PairT) (c : Nat) (key val : ByteArray) (w : World) (h : PArg a ps w) (hks : key.size ≤ 1048576) (hpl : ps.length ≤ 100000) : Calls Tryz.prog 86 #[.slice a ps.length c, .string key, .string val] w (PairsAt (wth ps key val) w) := by
  obtain ⟨i0, hi0, hz0, hz1, hz2⟩ := info_parts2 info37
  have HO := without_any a ps c key w h
  have hrs : SmallP (wout ps key) := by
    refine ⟨Nat.le_trans (wout_le ps key) h.le, fun j => ?_⟩
    by_cases hj : j < (wout ps key).length
    · have hm : (wout ps key)[j] ∈ ps := (List.mem_filter.1 (List.getElem_mem hj)).1
      obtain ⟨i, hi, e⟩ := List.getElem_of_mem hm
      have := h.sz i
      rw [List.getD_eq_getElem?_getD, List.getElem?_eq_getElem hi, Option.getD_some, e] at this
      rw [List.getD_eq_getElem?_getD, List.getElem?_eq_getElem hj, Option.getD_some]
      exact this
    · rw [pget_out _ _ (by omega)]
      exact ⟨Nat.zero_le _, Nat.zero_le _⟩
  have hrl : (wout ps key).length ≤ 100000 := Nat.le_trans (wout_le ps key) hpl
  unfold wth
  generalize wout ps key = rest at HO hrs hrl ⊢
  go_enter Tryz.func86, Tryz.ntmps86
  go_upto_region 2 with (first | (go_at_call 137; refine HO.mono ?_; rintro e w1 ⟨a1, c1, rfl, hO1⟩))
  have hb1 := hO1.bel
  have hp1 := ownp_parg hO1 hrs
  have hO2 := OwnP.nil w1
  obtain ⟨N, hN⟩ : ∃ N, rest.length = N := ⟨_, rfl⟩
  rw [hN] at hrl ⊢
  have hNl : Hid (rest.length = N) := hN
  clear hN hO1 HO
  go_wp2_with fail
  go_loopw [8, 9, 10] (fun t8 t9 t10 wr => ∃ k : Nat, k ≤ N ∧ t10 = .int .i64 (k : Int) ∧ ∃ (d : Bool) (a' : Option Addr) (m d' : Nat) (out : List PairT), t9 = .bool d ∧ t8 = .slice a' m d' ∧ OwnP w1 out a' m d' wr ∧ Hid (Mid rest key val k out d)) (fun _ _ t10 _ => N - (intOf t10).toNat)
  case atStart => exact ⟨0, Nat.zero_le _, rfl, false, _, _, _, [], rfl, rfl, hO2, Mid.start rest key val⟩
  case round =>
    obtain ⟨k, hk, rfl, d, a', m, d', out, rfl, rfl, hW, hM⟩ := hrel
    have hml : m ≤ 100001 := by have := hW.len; have := hM.out.len; rw [hNl.out] at this; omega
    have hbs := hW.bel.size
    have own := hW.own
    by_cases hlt : k < N
    · have z1 : decide ((k : Int) < (N : Int)) = true := by simp; omega
      have hx0 : (0 : Int) ≤ (k : Int) := Int.natCast_nonneg _
      have hx1 : (k : Int) < (N : Int) := by omega
      have hkr : Hid (k < rest.length) := by show _ < _; rw [hNl.out]; exact hlt
      obtain ⟨b1, off1, rfl, hbl1, hc⟩ := (hp1.below hW.bel).at_ (by rw [hNl.out]; omega)
      obtain ⟨hc1, hc2⟩ := hc k hkr.out
      have hsz := (hrs.2 k).1
      have Mdone : Hid (d = true → Mid rest key val (k + 1) (out ++ [rest.getD k noPair]) true) := fun e => by subst e; exact hM.out.done hkr.out
      have Mnow : Hid (d = false → lessB key (rest.getD k noPair).1 = true → Mid rest key val (k + 1) (out ++ [(key, val)] ++ [rest.getD k noPair]) true) := fun e => by subst e; exact hM.out.now hkr.out
      have Mpast : Hid (d = false → lessB key (rest.getD k noPair).1 = false → Mid rest key val (k + 1) (out ++ [rest.getD k noPair]) false) := fun e => by subst e; exact hM.out.past hkr.out
      obtain ⟨p, hpp⟩ : ∃ p, rest.getD k noPair = p := ⟨_, rfl⟩
      have hpe : Hid (rest.getD k noPair = p) := hpp
      rw [hpp] at hc1 hc2 hsz Mdone Mnow Mpast
      clear hpp
      obtain ⟨pk, pv⟩ := p
      simp only at hc1 hc2 hsz
      have hbl2 : b1 < wr.heap.size := hbl1
      clear hc hM
      cases d with
      | true =>
        go_wp2_with (at_builtin; refine wpList_append_lies _ rfl (.tmp 38) (.tmp 43) 35 rfl w1.heap.size 81 i0 (.agg #[.string ⟨#[]⟩, .string ⟨#[]⟩]) 2 32 Tryz.underlying35 hi0 hz0 hz1 hz2 rfl (by decide) (.slice a' m d') m (flatP out) rfl (own.alloc _) ⟨wr.heap.size, 0, none⟩ 1 1 [.string pk, .string pv] rfl rfl (World.news_of_block (heap_alloc_new wr _)) (by simp [Value.oneCell']) (by decide) (by unfold maxLen; omega) (by omega) (by simp; omega) (wr.heap.size + 1) (by simp) ?_; intro g5 c5 w5 hown5 hgrow5 hat5 hlt5)
        go_roundw
        case rel => exact ⟨k + 1, hlt, by go_num, true, _, _, _, _, rfl, rfl, hW.more hown5 hgrow5 rfl, Mdone.out (by first | rfl | trivial)⟩
        case measure => simp [intOf]; omega
      | false =>
        have HL := lessS_q key pk wr hks hsz
        cases hl : lessB key pk with
        | false =>
          rw [hl] at HL
          go_upto_region 10 with (first | (go_at_call 85; refine HL.mono ?_; rintro e w3 ⟨rfl, q, rfl⟩))
          have hW3 := hW.below (drewN_below wr q)
          have own3 := hW3.own
          have hd1 := ((drewN_below wr q).cell (p := ⟨b1, off1 + k * 2, none⟩) hbl2).trans hc1
          have hd2 := ((drewN_below wr q).cell (p := ⟨b1, off1 + k * 2 + 1, none⟩) hbl2).trans hc2
          have hbs3 := hW3.bel.size
          clear own hc1 hc2 HL
          generalize wr.drewN q = w3 at *
          go_wp2_with (at_builtin; refine wpList_append_lies _ rfl (.tmp 38) (.tmp 43) 35 rfl w1.heap.size 81 i0 (.agg #[.string ⟨#[]⟩, .string ⟨#[]⟩]) 2 32 Tryz.underlying35 hi0 hz0 hz1 hz2 rfl (by decide) (.slice a' m d') m (flatP out) rfl (own3.alloc _) ⟨w3.heap.size, 0, none⟩ 1 1 [.string pk, .string pv] rfl rfl (World.news_of_block (heap_alloc_new w3 _)) (by simp [Value.oneCell']) (by decide) (by unfold maxLen; omega) (by omega) (by simp; omega) (w3.heap.size + 1) (by simp) ?_; intro g5 c5 w5 hown5 hgrow5 hat5 hlt5)
          go_roundw
          case rel => exact ⟨k + 1, hlt, by go_num, false, _, _, _, _, rfl, rfl, hW3.more hown5 hgrow5 rfl, Mpast.out (by first | rfl | trivial) hl⟩
          case measure => simp [intOf]; omega
        | true =>
          rw [hl] at HL
          go_upto_region 8 with (first | (go_at_call 85; refine HL.mono ?_; rintro e w3 ⟨rfl, q, rfl⟩))
          have hW3 := hW.below (drewN_below wr q)
          have own3 := hW3.own
          have hd1 := ((drewN_below wr q).cell (p := ⟨b1, off1 + k * 2, none⟩) hbl2).trans hc1
          have hd2 := ((drewN_below wr q).cell (p := ⟨b1, off1 + k * 2 + 1, none⟩) hbl2).trans hc2
          have hbs3 := hW3.bel.size
          clear own hc1 hc2 HL
          generalize wr.drewN q = w3 at *
          go_upto_region 9 with (at_builtin; refine wpList_append_lies _ rfl (.tmp 32) (.tmp 36) 35 rfl w1.heap.size 81 i0 (.agg #[.string ⟨#[]⟩, .string ⟨#[]⟩]) 2 32 Tryz.underlying35 hi0 hz0 hz1 hz2 rfl (by decide) (.slice a' m d') m (flatP out) rfl (own3.alloc _) ⟨w3.heap.size, 0, none⟩ 1 1 [.string key, .string val] rfl rfl (World.news_of_block (heap_alloc_new w3 _)) (by simp [Value.oneCell']) (by decide) (by unfold maxLen; omega) (by omega) (by simp; omega) (w3.heap.size + 1) (by simp) ?_; intro g5 c5 w5 hown5 hgrow5 hat5 hlt5)
          have hW5 := hW3.more (y := (key, val)) hown5 hgrow5 rfl
          have hp5 := hp1.below hW5.bel
          have own5 := hW5.own
          have hbs5 := hW5.bel.size
          obtain ⟨b2, off2, e2, hbl5, hc5⟩ := hp5.at_ (by rw [hNl.out]; omega)
          cases e2
          obtain ⟨hd1, hd2⟩ := hc5 k hkr.out
          have Mn := Mnow.out (by first | rfl | trivial) hl
          replace Mn : Hid _ := Mn
          have hgd : (rest.getD k noPair) = (pk, pv) := hpe.out
          rw [hgd] at hd1 hd2
          simp only at hd1 hd2
          clear own3 hc5 hgd
          go_wp2_with (at_builtin; refine wpList_append_lies _ rfl (.tmp 38) (.tmp 43) 35 rfl w1.heap.size 81 i0 (.agg #[.string ⟨#[]⟩, .string ⟨#[]⟩]) 2 32 Tryz.underlying35 hi0 hz0 hz1 hz2 rfl (by decide) (.slice (some ⟨g5, 0, none⟩) (m + 1) c5) (m + 1) (flatP (out ++ [(key, val)])) rfl (own5.alloc _) ⟨w5.heap.size, 0, none⟩ 1 1 [.string pk, .string pv] rfl rfl (World.news_of_block (heap_alloc_new w5 _)) (by simp [Value.oneCell']) (by decide) (by unfold maxLen; omega) (by omega) (by simp; omega) (w5.heap.size + 1) (by simp) ?_; intro g6 c6 w6 hown6 hgrow6 hat6 hlt6)
          go_roundw
          case rel => exact ⟨k + 1, hlt, by go_num, true, _, _, _, _, rfl, rfl, hW5.more hown6 hgrow6 rfl, Mn.out⟩
          case measure => simp [intOf]; omega
    · obtain rfl : k = N := by omega
      have z1 : decide ((k : Int) < (k : Int)) = false := by simp
      cases d with
      | true =>
        have hfin : Hid (out = ins key val rest) := by
          have := hM.out
          unfold Mid at this
          rw [List.drop_of_length_le (by rw [hNl.out]; exact Nat.le_refl _), List.append_nil] at this
          exact this
        have HF : Hid (PairsAt (ins key val rest) w (.returned (.slice a' m d')) wr) := by
          have hl := hW.len
          subst hl
          rw [← hfin.out]
          exact ⟨_, _, rfl, hW.up hb1⟩
        clear hM hfin own
        go_wp2_with fail
        go_ret
        exact HF.out
      | false =>
        have hfin : Hid (out ++ [(key, val)] = ins key val rest) := by
          have := hM.out
          unfold Mid at this
          obtain ⟨h1, h2⟩ := this
          rw [List.drop_of_length_le (by rw [hNl.out]; exact Nat.le_refl _), ins] at h2
          show _ = _
          rw [h2, h1]
        clear hM
        go_wp2_with (at_builtin; refine wpList_append_lies _ rfl (.tmp 47) (.tmp 51) 35 rfl w1.heap.size 81 i0 (.agg #[.string ⟨#[]⟩, .string ⟨#[]⟩]) 2 32 Tryz.underlying35 hi0 hz0 hz1 hz2 rfl (by decide) (.slice a' m d') m (flatP out) rfl (own.alloc _) ⟨wr.heap.size, 0, none⟩ 1 1 [.string key, .string val] rfl rfl (World.news_of_block (heap_alloc_new wr _)) (by simp [Value.oneCell']) (by decide) (by unfold maxLen; omega) (by omega) (by simp; omega) (wr.heap.size + 1) (by simp) ?_; intro g5 c5 w5 hown5 hgrow5 hat5 hlt5)
        go_ret
        have hW5 := hW.more (y := (key, val)) hown5 hgrow5 rfl
        rw [hfin.out] at hW5
        have hl := hW5.len
        exact ⟨some ⟨g5, 0, none⟩, c5, by rw [hl]; rfl, by rw [hl]; exact hW5.up hb1⟩
end Go.Proofs.YtibjhkpgaaapaaaGreatDoor
