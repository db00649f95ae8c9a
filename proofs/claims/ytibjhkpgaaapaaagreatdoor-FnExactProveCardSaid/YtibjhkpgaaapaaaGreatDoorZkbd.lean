import Derived.Test.YtibjhkpgaaapaaaGreatDoorZkbc
import Derived.Test.YtibjhkpgaaapaaaGreatDoorZkaw
namespace Go.Proofs.YtibjhkpgaaapaaaGreatDoor
open Go.RowKit Go.Proofs.Sha

theorem codeF_zero {fnd : ByteArray → FN} {hash over under pk : ByteArray} {cnt : Nat} (h : codeF fnd hash over under pk cnt = 0) : (fnd hash).2 = 0 ∧ (insW over under (fnd hash).1.1 && parW hgW pk (fnd hash).1.1) = true ∧ cnt ≤ 500 := by
  unfold codeF at h
  split at h
  · exact absurd h (by decide)
  · split at h
    · exact absurd h (by decide)
    · rename_i h2
      split at h
      · exact absurd h (by decide)
      · rename_i h3
        split at h
        · exact absurd h (by decide)
        · rename_i h4
          exact ⟨by simpa using h2, by simpa using h3, by omega⟩
theorem goF_code {fnd : ByteArray → FN} {lo hi : ByteArray} {f : Nat} {hash over under pk : ByteArray} {cnt : Nat} (h : (emp hash || !canW over under lo hi) = false) (hc : codeF fnd hash over under pk (cnt + 1) ≠ 0) : goF fnd hgW lo hi (f + 1) hash over under pk cnt = (codeF fnd hash over under pk (cnt + 1), 0, []) := by
  rw [goF, if_neg (by rw [h]; decide)]
  unfold codeF at hc ⊢
  split
  · rfl
  · rename_i h1
    rw [if_neg h1] at hc
    split
    · rfl
    · rename_i h2
      rw [if_neg h2] at hc
      split
      · rfl
      · rename_i h3
        rw [if_neg h3] at hc
        split
        · rfl
        · rename_i h4
          rw [if_neg h4] at hc
          exact absurd rfl hc
/-- What a walk leaves. -/
def WPost (base lb sb c : Nat) (ps : List PairT) (N : Nat → Prop) (w : World) (R : Int × Nat × List PairT) (e : Ending) (w' : World) : Prop :=
  e = .returned (.bool (decide (R.1 = 0))) ∧ Fr base N w w' ∧ (R.1 = 0 → LD lb sb R.2.1 0 w' ∧ ∃ a' cap', LS c base (ps ++ R.2.2) a' cap' w') ∧ (R.1 ≠ 0 → ∃ m, LD lb sb m R.1 w')
/-- The two function values of a walk. -/
abbrev intoV (lo hi : ByteArray) : Value := .func (.func 109) #[.agg #[.string lo, .string hi]] #[]
abbrev atV (xl xa : Nat) : Value := .func (.func 149) #[] #[.pointer (some ⟨xl, 0, none⟩), .pointer (some ⟨xa, 0, none⟩)]
def NWk (p : Option Addr) (lb c q : Nat) : Prop := (∃ a, p = some a ∧ q = a.block) ∨ q = lb ∨ q = c
set_option maxRecDepth 100000 in
set_option maxHeartbeats 1000000 in
theorem walk_none (base lb sb c xl xa : Nat) (lo hi over under pk : ByteArray) (f : Nat) (fnd : ByteArray → FN) (cnt : Nat) (ps : List PairT) (a : Option Addr) (cap : Nat) (hash : ByteArray) (he : emp hash = true) (w : World) (hL : LD lb sb cnt 0 w) (hS : LS c base ps a cap w) :
    Calls Tryz.prog 147 #[.pointer none, intoV lo hi, atV xl xa] w (WPost base lb sb c ps (NWk none lb c) w (goF fnd hgW lo hi (f + 1) hash over under pk cnt)) := by
  rw [goF_skip (by rw [he]; rfl)]
  have HI := goInto_none lo hi w
  have HP : Hid (∀ w', Below w.heap.size w w' → WPost base lb sb c ps (NWk none lb c) w (0, cnt, []) (.returned (.bool true)) w') := fun w' hb => ⟨rfl, Fr.of_below hb, fun _ => ⟨hL.below hb, a, cap, by rw [List.append_nil]; exact hS.below hb⟩, fun h => absurd rfl h⟩
  clear hL hS
  go_enter Tryz.func147, Tryz.ntmps147
  go_wp2_with (first | (go_at_call 109; refine HI.mono ?_; rintro e w2 ⟨rfl, hb2⟩))
  go_ret
  exact HP.out _ hb2
set_option maxRecDepth 100000 in
set_option maxHeartbeats 1000000 in
theorem walk_cut (base lb sb c xl xa b : Nat) (lo hi over under pk : ByteArray) (par : Option Addr) (f : Nat) (fnd : ByteArray → FN) (cnt : Nat) (ps : List PairT) (a : Option Addr) (cap : Nat) (hash : ByteArray) (hc : canW over under lo hi = false) (w : World) (hB : BR b hash over under par w) (hL : LD lb sb cnt 0 w) (hS : LS c base ps a cap w) :
    Calls Tryz.prog 147 #[.pointer (some ⟨b, 0, none⟩), intoV lo hi, atV xl xa] w (WPost base lb sb c ps (NWk (some ⟨b, 0, none⟩) lb c) w (goF fnd hgW lo hi (f + 1) hash over under pk cnt)) := by
  rw [goF_skip (by rw [hc]; simp)]
  have HI := goInto_some lo hi b hash over under par w hB
  rw [hc] at HI
  have HP : Hid (∀ w', Below w.heap.size w w' → WPost base lb sb c ps (NWk (some ⟨b, 0, none⟩) lb c) w (0, cnt, []) (.returned (.bool true)) w') := fun w' hb => ⟨rfl, Fr.of_below hb, fun _ => ⟨hL.below hb, a, cap, by rw [List.append_nil]; exact hS.below hb⟩, fun h => absurd rfl h⟩
  clear hL hS hB hc
  go_enter Tryz.func147, Tryz.ntmps147
  go_wp2_with (first | (go_at_call 109; refine HI.mono ?_; rintro e w2 ⟨rfl, hb2⟩))
  go_ret
  exact HP.out _ hb2
/-- The node with its right subtree. -/
structure RightAt (base b : Nat) (w0 : World) (hash over under : ByteArray) (par : Option Addr) (k v l r : ByteArray) (pl pr : Option Addr) (gr : Nat) (w : World) : Prop where
  bf : BF b hash over under par k v l r pl pr w
  lk : LinkAt r k under (some ⟨gr, 0, none⟩) pr w
  rk : RKb gr k w
  hp : ∀ q, pr = some q → base ≤ q.block ∧ w0.heap.size ≤ q.block
/-- Its left subtree. -/
structure LeftAt (base : Nat) (w0 : World) (over k l : ByteArray) (pl pr : Option Addr) (gl : Nat) (w : World) : Prop where
  lk : LinkAt l over k (some ⟨gl, 0, none⟩) pl w
  rk : RKb gl k w
  hp : ∀ q, pl = some q → base ≤ q.block ∧ w0.heap.size ≤ q.block
  ne : ∀ q q', pl = some q → pr = some q' → q.block ≠ q'.block
section
variable {wg : World} {B0 base lb sb c gb xl xa : Nat} {lo hi : ByteArray} {b : Nat} {w0 w w' : World} {cnt : Nat} {ps : List PairT} {hash over under : ByteArray} {par : Option Addr} {k v l r : ByteArray} {pl pr : Option Addr} {gl gr : Nat}
theorem RightAt.below (h : RightAt base b w0 hash over under par k v l r pl pr gr w) (hb : Below w.heap.size w w') : RightAt base b w0 hash over under par k v l r pl pr gr w' :=
  ⟨(hb.block b (Array.getElem?_eq_some_iff.1 h.bf).1).trans h.bf, h.lk.below hb, h.rk.below hb, h.hp⟩
theorem LeftAt.below (h : LeftAt base w0 over k l pl pr gl w) (hb : Below w.heap.size w w') : LeftAt base w0 over k l pl pr gl w' := ⟨h.lk.below hb, h.rk.below hb, h.hp, h.ne⟩
end
theorem LS.fr {c base : Nat} {ps : List PairT} {a : Option Addr} {cap : Nat} {N : Nat → Prop} {w w' : World} (h : LS c base ps a cap w) (f : Fr w.heap.size N w w') (hN : ∀ q, N q → ∃ cs t, w.heap[q]? = some (.cells cs t) ∧ t ≠ 35 ∧ t ≠ 81) : LS c base ps a cap w' := by
  refine ⟨f.keep h.blk (fun x => ?_) (.inl (by decide)), own2_kept h.own (fun g hv hg => f.block g hg (fun x => ?_) (fun x => by omega)), Nat.le_trans h.hb f.size⟩
  · obtain ⟨cs, t, h1, h2, h3⟩ := hN _ x
    exact ne_of_type h.blk h1 (fun e => h2 e.symm) rfl
  · obtain ⟨cs, t, h1, h2, h3⟩ := hN _ x
    obtain ⟨_, _, cur, h4⟩ := own2_cells h.own hv
    exact ne_of_type h4 h1 (fun e => h3 e.symm) rfl
end Go.Proofs.YtibjhkpgaaapaaaGreatDoor
namespace Go.Proofs.YtibjhkpgaaapaaaGreatDoor
open Go.RowKit Go.Proofs.Sha

/-- The proof of a subtree, as bytes. -/
def prL (fnd : ByteArray → FN) (lo hi : ByteArray) : Nat → ByteArray → ByteArray → ByteArray → List UInt8
  | 0, _, _, _ => []
  | f + 1, hash, over, under =>
    if emp hash = true then [69] else
    if canW over under lo hi = false then 83 :: hash.data.toList else
    (70 :: (sized (fnd hash).1.1.data.toList ++ sized (fnd hash).1.2.1.data.toList)) ++ (prL fnd lo hi f (fnd hash).1.2.2.1 over (fnd hash).1.1 ++ prL fnd lo hi f (fnd hash).1.2.2.2 (fnd hash).1.1 under)
theorem prL_e {fnd : ByteArray → FN} {lo hi : ByteArray} {f : Nat} {hash over under : ByteArray} (h : emp hash = true) : prL fnd lo hi (f + 1) hash over under = [69] := by rw [prL, if_pos h]
theorem prL_s {fnd : ByteArray → FN} {lo hi : ByteArray} {f : Nat} {hash over under : ByteArray} (h : emp hash = false) (h2 : canW over under lo hi = false) : prL fnd lo hi (f + 1) hash over under = 83 :: hash.data.toList := by rw [prL, if_neg (by rw [h]; decide), if_pos h2]
theorem prL_f {fnd : ByteArray → FN} {lo hi : ByteArray} {f : Nat} {hash over under : ByteArray} (h : emp hash = false) (h2 : canW over under lo hi = true) : prL fnd lo hi (f + 1) hash over under = (70 :: (sized (fnd hash).1.1.data.toList ++ sized (fnd hash).1.2.1.data.toList)) ++ (prL fnd lo hi f (fnd hash).1.2.2.1 over (fnd hash).1.1 ++ prL fnd lo hi f (fnd hash).1.2.2.2 (fnd hash).1.1 under) := by rw [prL, if_neg (by rw [h]; decide), if_neg (by rw [h2]; decide)]
theorem sized_len (l : List UInt8) : (sized l).length = l.length + 2 := rfl
/-- How long it is at most. -/
theorem prL_len {fnd : ByteArray → FN} {lo hi : ByteArray} {wd : Nat} (hfo : FndOk wd fnd) (hwd : wd ≤ 32) : ∀ (f : Nat) (hash over under par : ByteArray) (cnt : Nat), cnt ≤ 500 → (hash.size = 0 ∨ hash.size = wd) → (goF fnd hgW lo hi f hash over under par cnt).1 = 0 → (prL fnd lo hi f hash over under).length + 2400 * cnt ≤ 2400 * (goF fnd hgW lo hi f hash over under par cnt).2.1 + 40
  | 0, _, _, _, _, _, _, _, h => by rw [goF] at h; exact absurd h (by decide)
  | f + 1, hash, over, under, par, cnt, hc, hs, h => by
    cases h1 : emp hash with
    | true => rw [prL_e h1, goF_skip (by rw [h1]; rfl)]; simp only [List.length_singleton]; omega
    | false =>
      cases h2 : canW over under lo hi with
      | false =>
        rw [prL_s h1 h2, goF_skip (by rw [h2]; simp), List.length_cons]
        have : hash.data.toList.length = hash.size := rfl
        simp only
        omega
      | true =>
        have hsk : (emp hash || !canW over under lo hi) = false := by rw [h1, h2]; rfl
        by_cases hC : codeF fnd hash over under par (cnt + 1) = 0
        · obtain ⟨hz, hfit, hc5⟩ := codeF_zero hC
          obtain ⟨okk, okv, okl, okr⟩ := hfo.node hash hz
          have hfe : fnd hash = (((fnd hash).1.1, (fnd hash).1.2.1, (fnd hash).1.2.2.1, (fnd hash).1.2.2.2), 0) := by rw [← hz]
          obtain ⟨LR, hLR⟩ : ∃ LR, goF fnd hgW lo hi f (fnd hash).1.2.2.1 over (fnd hash).1.1 (fnd hash).1.1 (cnt + 1) = LR := ⟨_, rfl⟩
          obtain ⟨RR, hRR⟩ : ∃ RR, goF fnd hgW lo hi f (fnd hash).1.2.2.2 (fnd hash).1.1 under (fnd hash).1.1 LR.2.1 = RR := ⟨_, rfl⟩
          rw [goF_node hsk hfe hfit hc5 hLR hRR] at h ⊢
          by_cases hl0 : LR.1 = 0
          · rw [if_neg (fun h => h hl0)] at h ⊢
            by_cases hr0 : RR.1 = 0
            · rw [if_neg (fun h => h hr0)] at h ⊢
              have q := goF_cnt f (fnd hash).1.2.2.1 over (fnd hash).1.1 (fnd hash).1.1 (cnt + 1) hc5 (by rw [hLR]; exact hl0)
              rw [hLR] at q
              have il := prL_len hfo hwd f _ _ _ _ _ hc5 okl (by rw [hLR]; exact hl0)
              have ir := prL_len hfo hwd f _ _ _ _ _ q.2 okr (by rw [hRR]; exact hr0)
              rw [hLR] at il
              rw [hRR] at ir
              rw [prL_f h1 h2]
              simp only [List.length_append, List.length_cons, sized_len]
              have e1 : (fnd hash).1.1.data.toList.length = (fnd hash).1.1.size := rfl
              have e2 : (fnd hash).1.2.1.data.toList.length = (fnd hash).1.2.1.size := rfl
              unfold okKey at okk
              unfold okVal at okv
              have okk := of_decide_eq_true okk
              have okv := of_decide_eq_true okv
              omega
            · rw [if_pos hr0] at h; exact absurd h hr0
          · rw [if_pos hl0] at h; exact absurd h hl0
        · rw [goF_code hsk hC] at h; exact absurd h hC
/-- A row of bytes. -/
def Is5 (k : Nat) (w : World) : Prop := ∃ cur t, w.heap[k]? = some (.cells cur 5 t)
/-- What may have turned: the blocks of 'N', rows of bytes from 'base' on, and what is new. -/
structure Ft (base : Nat) (N : Nat → Prop) (w w' : World) : Prop where
  os : w'.os = w.os
  tape : w'.tape = w.tape
  output : w'.output = w.output
  size : w.heap.size ≤ w'.heap.size
  block : ∀ k, k < w.heap.size → ¬ N k → ¬ (base ≤ k ∧ Is5 k w) → w'.heap[k]? = w.heap[k]?
section
variable {base : Nat} {N N' : Nat → Prop} {w w' w1 w2 : World}
theorem Ft.trans (h : Ft base N w w1) (k : Ft base N' w1 w2) (hN : ∀ q, q < w.heap.size → N' q → N q) : Ft base N w w2 := by
  refine ⟨k.os.trans h.os, k.tape.trans h.tape, k.output.trans h.output, Nat.le_trans h.size k.size, fun q hq h1 h2 => ?_⟩
  have e := h.block q hq h1 h2
  refine (k.block q (Nat.lt_of_lt_of_le hq h.size) (fun x => h1 (hN q hq x)) (fun x => h2 ⟨x.1, ?_⟩)).trans e
  obtain ⟨cur, t, hx⟩ := x.2
  exact ⟨cur, t, e.symm.trans hx⟩
theorem Ft.of_below (h : Below w.heap.size w w1) : Ft base N w w1 := ⟨h.os, h.tape, h.output, h.size, fun q hq _ _ => h.block q hq⟩
theorem Ft.of_fr (h : Fr w.heap.size N w w1) : Ft base N w w1 := ⟨h.os, h.tape, h.output, h.size, fun q hq h1 _ => h.block q hq h1 (fun x => by omega)⟩
theorem Ft.of_put {c : Nat} {l : List UInt8} (h : Put c l w w1) (hN : N c) : Ft c N w w1 :=
  ⟨h.2.1.os, h.2.1.tape, h.2.1.output, h.2.1.size, fun q hq h1 h2 => by
    have ho := Array.getElem?_eq_getElem hq
    by_cases hc : q < c
    · exact h.2.1.block q hc
    · refine (h.2.2 q _ ho (fun e => h1 (by cases e; exact hN)) (fun cs fz e => h2 ⟨by omega, cs, fz, by rw [ho, e]⟩)).trans ho.symm⟩
theorem Ft.keep {q : Nat} {cs : Array Value} {t : TypeId} {z : Nat × Nat} (h : Ft base N w w1) (hq : w.heap[q]? = some (.cells cs t z)) (h1 : ¬ N q) (ht : t ≠ 5) : w1.heap[q]? = some (.cells cs t z) := by
  refine (h.block q (Array.getElem?_eq_some_iff.1 hq).1 h1 ?_).trans hq
  rintro ⟨h2, cur, z', h3⟩
  rw [hq] at h3
  simp only [Option.some.injEq, Obj.cells.injEq] at h3
  exact ht h3.2.1
theorem Ft.below {B0 : Nat} (h : Ft base N w w') (hb : B0 ≤ base) (hN : ∀ q, N q → B0 ≤ q) (hs : B0 ≤ w.heap.size) : Below B0 w w' :=
  ⟨h.os, h.tape, h.output, h.size, fun q hq => h.block q (by omega) (fun x => by have := hN q x; omega) (fun x => by omega)⟩
theorem LinkAt.ft {l over under : ByteArray} {par p : Option Addr} (h : LinkAt l over under par p w) (f : Ft base N w w') (hN : ∀ q, p = some q → ¬ N q.block) : LinkAt l over under par p w' := by
  rcases h with h | ⟨h1, q, h2, h3⟩
  · exact .inl h
  · exact .inr ⟨h1, q, h2, f.keep h3 (hN _ h2) (by decide)⟩
end
theorem Bld.fr {c : Nat} {l : List UInt8} {N : Nat → Prop} {w w' : World} (h : Bld c l w) (f : Fr w.heap.size N w w') (hN : ∀ q, N q → ∃ cs t, w.heap[q]? = some (.cells cs t) ∧ t ≠ 165 ∧ t ≠ 5) : Bld c l w' := by
  have H : ∀ p, Lib.BuilderAtF 165 5 c c p (Lib.byteCells l) w → Lib.BuilderAtF 165 5 c c p (Lib.byteCells l) w' := by
    rintro p ⟨h1, v, h2, h3, h4⟩
    have hk : ∀ (k : Nat) (cs : Array Value) (t : TypeId) (z : Nat × Nat), w.heap[k]? = some (.cells cs t z) → (t = 165 ∨ t = 5) → w'.heap[k]? = some (.cells cs t z) := fun k cs t z hk ht => by
      refine (f.block k (Array.getElem?_eq_some_iff.1 hk).1 (fun x => ?_) (fun x => by have := (Array.getElem?_eq_some_iff.1 hk).1; omega)).trans hk
      obtain ⟨cs', t', h5, h6, h7⟩ := hN _ x
      rw [hk] at h5
      simp only [Option.some.injEq, Obj.cells.injEq] at h5
      rcases ht with e | e
      · exact h6 (by rw [← h5.2.1, e])
      · exact h7 (by rw [← h5.2.1, e])
    refine ⟨h1, v, hk _ _ _ _ h2 (.inl rfl), ⟨h3.1, ?_⟩, h4⟩
    rcases h3.2 with hn | ⟨g, cap, cur, fz, hv, hbg, hg, rest⟩
    · exact .inl hn
    · exact .inr ⟨g, cap, cur, fz, hv, hbg, hk _ _ _ _ hg (.inr rfl), rest⟩
  rcases h with h | h
  · exact .inl (H _ h)
  · exact .inr (H _ h)
end Go.Proofs.YtibjhkpgaaapaaaGreatDoor
namespace Go.Proofs.YtibjhkpgaaapaaaGreatDoor
open Go.RowKit Go.Proofs.Sha

theorem closed_none (w : World) : Calls Tryz.prog 110 #[.pointer none] w fun e w' => e = .returned (.iface 211 (.agg #[])) ∧ Below w.heap.size w w' := by
  have q := ptr_eqlB none none w (.inl rfl) (.inl rfl)
  rw [decide_eq_true rfl] at q
  go_enter Tryz.func110, Tryz.ntmps110
  go_wp2_with fail
  go_ret
  exact ⟨rfl, Below.refl _ _⟩
theorem closed_some (b : Nat) (hash over under : ByteArray) (par : Option Addr) (w : World) (h : BR b hash over under par w) : Calls Tryz.prog 110 #[.pointer (some ⟨b, 0, none⟩)] w fun e w' => e = .returned (.iface 216 (.agg #[.string hash])) ∧ Below w.heap.size w w' := by
  have hP : Ptr (some ⟨b, 0, none⟩) w := .inr ⟨b, _, _, rfl, h⟩
  have q := ptr_eqlB (some ⟨b, 0, none⟩) none w hP (.inl rfl)
  rw [decide_eq_false (fun e => by cases e)] at q
  have c0 : w.cell? ⟨b, 0, none⟩ = some (.string hash) := Lib.cell_of_heap h 0
  clear hP h
  go_enter Tryz.func110, Tryz.ntmps110
  go_wp2_with fail
  go_ret
  exact ⟨rfl, Below.refl _ _⟩
end Go.Proofs.YtibjhkpgaaapaaaGreatDoor
