import Derived.Test.YtglpjoandgbngabTb
import Derived.Test.YtglpjoandgbngabPd
import Derived.Test.YtglpjoandgbngabEl
namespace Go.Proofs.Ytglpjoandgbngab
open Go.RowKit Go.Proofs.Sha

theorem Bld.mv {b r : Nat} {l : List UInt8} {w w' : World} {s : ByteArray} {a : Nat} {f : Bool} (h : Bld b l w) (hm : Mv r w w') (hr : Rd r s a f w) : Bld b l w' := by
  have H : ∀ p, Lib.BuilderAtF 60 5 b b p (Lib.byteCells l) w → Lib.BuilderAtF 60 5 b b p (Lib.byteCells l) w' := by
    rintro p ⟨h1, v, h2, h3, h4⟩
    have l2 := (Array.getElem?_eq_some_iff.1 h2).1
    have hbr : b ≠ r := by
      intro e; rw [e] at h2; rw [Rd] at hr; rw [hr] at h2; simp at h2
    refine ⟨h1, v, (hm.block b l2 hbr).trans h2, ⟨h3.1, ?_⟩, h4⟩
    rcases h3.2 with hn | ⟨g, cap, cur, fz, hv, hbg, hg, rest⟩
    · exact .inl hn
    · have hgr : g ≠ r := by
        intro e; rw [e] at hg; rw [Rd] at hr; rw [hr] at hg; simp at hg
      exact .inr ⟨g, cap, cur, fz, hv, hbg, (hm.block g (Array.getElem?_eq_some_iff.1 hg).1 hgr).trans hg, rest⟩
  rcases h with h | h
  · exact .inl (H _ h)
  · exact .inr (H _ h)
theorem Rd.put {b r : Nat} {l : List UInt8} {w w' : World} {s : ByteArray} {a : Nat} {f : Bool} (h : Rd r s a f w) (hp : Put b l w w') (hne : r ≠ b) : Rd r s a f w' := hp.cells h hne (by decide)
theorem Mv.put {b r : Nat} {l : List UInt8} {w w' w'' : World} (h : Mv r w w') (hp : Put b l w' w'') (hb : w.heap.size ≤ b) : Mv r w w'' :=
  ⟨hp.2.1.os.trans h.os, hp.2.1.tape.trans h.tape, hp.2.1.output.trans h.output, Nat.le_trans h.size hp.2.1.size, fun k hk hr => (hp.2.1.block k (by omega)).trans (h.block k hk hr)⟩

theorem secsFor_any (n : Nat) (w : World) (hn : n ≤ 100000) :
    Calls Try.prog 74 #[.int .i64 (n : Int)] w fun e w' => e = .returned (.int .i64 (((n + 62) / 63 : Nat) : Int)) ∧ w = w' := by
  go_enter Try.func74, Try.ntmps74
  go_wp2
  go_ret
  exact ⟨congrArg Ending.returned (congrArg (Value.int .i64) (by omega)), rfl⟩
theorem vsize_any (n : Nat) (w : World) : Calls Try.prog 72 #[.int .i64 (n : Int)] w fun e w' => e = .returned (.bool (decide (1 ≤ n ∧ n ≤ 4000))) ∧ w = w' := by
  by_cases h1 : 1 ≤ n
  · by_cases h2 : n ≤ 4000
    · have z1 : decide ((1 : Int) ≤ (n : Int)) = true := by simp; omega
      have z2 : decide ((n : Int) ≤ 4000) = true := by simp; omega
      rw [decide_eq_true ⟨h1, h2⟩]
      go_enter Try.func72, Try.ntmps72
      go_wp2
      go_ret
      exact ⟨rfl, rfl⟩
    · have z1 : decide ((1 : Int) ≤ (n : Int)) = true := by simp; omega
      have z2 : decide ((n : Int) ≤ 4000) = false := by simp; omega
      rw [decide_eq_false (by omega)]
      go_enter Try.func72, Try.ntmps72
      go_wp2
      go_ret
      exact ⟨rfl, rfl⟩
  · have z1 : decide ((1 : Int) ≤ (n : Int)) = false := by simp; omega
    rw [decide_eq_false (by omega)]
    go_enter Try.func72, Try.ntmps72
    go_wp2
    go_ret
    exact ⟨rfl, rfl⟩

theorem num_first {s : ByteArray} {a : Nat} {t1 : ByteArray} {a1 : Nat} {f1 : Bool} {t3 : ByteArray} {a3 : Nat} {f3 : Bool} {N : Nat} (h1 : CX 83 s a false t1 a1 f1) (hf1 : f1 = true → t1 = ⟨#[]⟩) (h3 : NX t1 0 false 4 t3 a3 f3) (hN : N = valTo 4 true (byteAt t3) t3.size) :
    ((a + 64 ≤ s.size ∧ (s.data.toList.getD (a + 63) 0).toNat = 83) → f1 = false ∧ t1 = s.extract a (a + 63) ∧ a1 = a + 64 ∧ N = numAt s a) ∧ (1 ≤ N → a + 64 ≤ s.size ∧ (s.data.toList.getD (a + 63) 0).toNat = 83) := by
  rcases h1 with ⟨_, hle, hmk, ht1, ha1, hf⟩ | ⟨hno, hf⟩
  · refine ⟨fun _ => ⟨hf, ht1, ha1, ?_⟩, fun _ => ⟨hle, hmk⟩⟩
    have hs1 : t1.size = 63 := by rw [ht1]; exact ex_size s a 63 (by omega)
    rcases h3 with ⟨_, _, ht3, _, _⟩ | ⟨g, _⟩
    · rw [hN, ht3, ex_size t1 0 4 (by omega), val4 _ (byteAt_lt _), byteAt_ex t1 0 4 0 (by omega), byteAt_ex t1 0 4 1 (by omega), byteAt_ex t1 0 4 2 (by omega), byteAt_ex t1 0 4 3 (by omega)]
      have hb : ∀ j, j < 63 → (t1.data.toList.getD (0 + j) 0).toNat = (s.data.toList.getD (a + j) 0).toNat := fun j hj => by
        rw [ht1, ex_list, List.getD_eq_getElem?_getD, List.getD_eq_getElem?_getD, List.getElem?_take_of_lt (by omega), List.getElem?_drop, Nat.zero_add]
      rw [hb 0 (by omega), hb 1 (by omega), hb 2 (by omega), hb 3 (by omega)]
      rfl
    · rcases g with g | g
      · cases g
      · omega
  · refine ⟨fun hh => ?_, fun h1 => ?_⟩
    · rcases hno with g | g
      · cases g
      · exact absurd hh g
    · have ht : t1 = ⟨#[]⟩ := hf1 hf
      have ht3 : t3 = ⟨#[]⟩ := by
        rcases h3 with ⟨_, g, _⟩ | ⟨_, g, _⟩
        · rw [ht] at g; exact absurd g (by decide)
        · exact g
      rw [hN, ht3] at h1
      exact absurd h1 (by decide)

/-- What a node record's reading answers and leaves. -/
def NodeR (s : ByteArray) (a : Nat) (k : Int) (enc : ByteArray) (v : Int) (root : ByteArray) (nx : Int) (a' : Nat) (f' : Bool) : Prop :=
  (f' = false ∧ IsNode s a enc ∧ a' = a + 64 * secs enc.size ∧ k = 1 ∧ v = 0 ∧ root = ⟨#[]⟩ ∧ nx = 0) ∨ (f' = true ∧ ∀ enc', ¬ IsNode s a enc')

/-- A record's block. -/
def RB (g : Nat) (k : Int) (enc : ByteArray) (v : Int) (root : ByteArray) (nx : Int) (w : World) : Prop := w.heap[g]? = some (.cells #[.int .i64 k, .string enc, .int .i64 v, .string root, .int .i64 nx] 34)
theorem RB.at {g : Nat} {k : Int} {enc : ByteArray} {v : Int} {root : ByteArray} {nx : Int} {w : World} (h : RB g k enc v root nx w) : RecAt w g k enc v root nx :=
  ⟨Lib.cell_of_heap h 0, Lib.cell_of_heap h 1, Lib.cell_of_heap h 2, Lib.cell_of_heap h 3, Lib.cell_of_heap h 4, frozen_of_heap h, frozen_of_heap h, frozen_of_heap h, frozen_of_heap h, frozen_of_heap h⟩
theorem retRec {fn : Func} {w : World} {g : Nat} {k : Int} {enc : ByteArray} {v : Int} {root : ByteArray} {nx : Int} (hres : fn.results = #[.cell 4 34]) (h : RecAt w g k enc v root nx) {a : Act} {R : Ending → World → Prop} (h4 : a.tmps.getD 4 undef = .pointer (some ⟨g, 0, none⟩)) (hd : a.defers = [])
    (hR : R (.returned (recV k enc v root nx)) w) : bodyPost Try.prog fn R .ret a w := by
  obtain ⟨c0, c1, c2, c3, c4, f0, f1, f2, f3, f4⟩ := h
  have h4' : a.tmps[4]?.getD undef = .pointer (some ⟨g, 0, none⟩) := by simpa using h4
  exact bodyPost_ret (v := recV k enc v root nx) (by simp [results, hres, go_sem, h4', asAddr, c0, c1, c2, c3, c4]) hd hR
theorem fin5 {w W : World} {fb g r : Nat} {s : ByteArray} {a : Nat} {f : Bool} (hr : Rd r s a f W) (hm : Mv r w W) (hsz : w.heap.size = fb) (hg : fb ≤ g) (hl : r < fb) (x0 x1 x2 x3 x4 : Value) :
    Rd r s a f (((((W.setCell ⟨g, 0, none⟩ x0).setCell ⟨g, 1, none⟩ x1).setCell ⟨g, 2, none⟩ x2).setCell ⟨g, 3, none⟩ x3).setCell ⟨g, 4, none⟩ x4) ∧
    Mv r w (((((W.setCell ⟨g, 0, none⟩ x0).setCell ⟨g, 1, none⟩ x1).setCell ⟨g, 2, none⟩ x2).setCell ⟨g, 3, none⟩ x3).setCell ⟨g, 4, none⟩ x4) :=
  ⟨((((hr.other (by omega)).other (by omega)).other (by omega)).other (by omega)).other (by omega), ((((hm.other hsz hg).other hsz hg).other hsz hg).other hsz hg).other hsz hg⟩

/-- The sectors behind the first, up to number i, bear their marks. -/
def good (s : ByteArray) (a i : Nat) : Prop := ∀ j, 1 ≤ j → j ≤ i → a + 64 * j + 64 ≤ s.size ∧ (s.data.toList.getD (a + 64 * j + 63) 0).toNat = 77
def MI (s : ByteArray) (a i a' : Nat) (f' : Bool) (l : List UInt8) : Prop :=
  (f' = false ∧ good s a i ∧ a' = a + 64 * (i + 1) ∧ l = unTo s a (i + 1)) ∨ (¬ good s a i ∧ f' = true)
theorem MI.step {s : ByteArray} {a i a' : Nat} {f' : Bool} {l : List UInt8} {t : ByteArray} {a'' : Nat} {f'' : Bool} (h : MI s a i a' f' l) (hc : CX 77 s a' f' t a'' f'') : MI s a (i + 1) a'' f'' (l ++ t.data.toList) := by
  rcases h with ⟨hf, hg, ha, hl⟩ | ⟨hg, hf⟩
  · subst ha
    rcases hc with ⟨_, hle, hmk, ht, ha'', hf''⟩ | ⟨hno, hf''⟩
    · refine .inl ⟨hf'', fun j h1 h2 => ?_, by omega, by rw [unTo, hl, ht]⟩
      by_cases hj : j ≤ i
      · exact hg j h1 hj
      · have : j = i + 1 := by omega
        subst this
        exact ⟨hle, hmk⟩
    · refine .inr ⟨fun hg' => ?_, hf''⟩
      rcases hno with g | g
      · rw [hf] at g; cases g
      · exact g (hg' (i + 1) (by omega) (Nat.le_refl _))
  · refine .inr ⟨fun hg' => hg fun j h1 h2 => hg' j h1 (by omega), ?_⟩
    rcases hc with ⟨g, _⟩ | ⟨_, g⟩
    · rw [hf] at g; cases g
    · exact g
theorem CX.small {mk : Nat} {s : ByteArray} {a : Nat} {f : Bool} {t : ByteArray} {a' : Nat} {f' : Bool} (h : CX mk s a f t a' f') (hf : f' = true → t = ⟨#[]⟩) : t.size ≤ 63 := by
  rcases h with ⟨_, hle, _, ht, _, _⟩ | ⟨_, g⟩
  · rw [ht, ByteArray.size_extract]; omega
  · rw [hf g]; exact Nat.zero_le _

/-- What stands while a node record is read. -/
structure BS (w : World) (fb r b : Nat) (s : ByteArray) (a : Nat) (f : Bool) (l : List UInt8) (W : World) : Prop where
  sz : w.heap.size = fb
  lt : r < fb
  bb : fb + 1 < b
  bld : Bld b l W
  rd : Rd r s a f W
  mv : Mv r w W
  rb : RB (fb + 1) 0 ⟨#[]⟩ 0 ⟨#[]⟩ 0 W
section
variable {w : World} {fb r b : Nat} {s : ByteArray} {a : Nat} {f : Bool} {l : List UInt8} {W W' : World}
theorem BS.below (h : BS w fb r b s a f l W) (hb : Below W.heap.size W W') : BS w fb r b s a f l W' :=
  ⟨h.sz, h.lt, h.bb, h.bld.below hb, h.rd.below hb, h.mv.trans (Mv.of_below r hb), below_cells hb h.rb⟩
theorem BS.put (h : BS w fb r b s a f l W) {l' : List UInt8} (hp : Put b l' W W') : BS w fb r b s a f l' W' :=
  have h1 := h.lt; have h2 := h.bb; have h3 := h.sz
  ⟨h.sz, h.lt, h.bb, hp.1, h.rd.put hp (by omega), h.mv.put hp (by omega), hp.cells h.rb (by omega) (by decide)⟩
theorem BS.move (h : BS w fb r b s a f l W) {a' : Nat} {f' : Bool} (hr : Rd r s a' f' W') (hm : Mv r W W') : BS w fb r b s a' f' l W' :=
  have h1 := h.lt
  ⟨h.sz, h.lt, h.bb, h.bld.mv hm h.rd, hr, h.mv.trans hm, hm.cells h.rb (by omega)⟩
end
theorem wsb (b : Nat) (l : List UInt8) (s : ByteArray) (w : World) (h : Bld b l w) (hl : l.length + s.size ≤ 100000) :
    Calls Try.prog 73 #[.pointer (some ⟨b, 0, none⟩), .string s] w fun e w' => ∃ x, e = .returned x ∧ Put b (l ++ s.data.toList) w w' := (ws_any b l s w h hl).mono (by rintro e w' ⟨rfl, hp⟩; exact ⟨_, rfl, hp⟩)

end Go.Proofs.Ytglpjoandgbngab
