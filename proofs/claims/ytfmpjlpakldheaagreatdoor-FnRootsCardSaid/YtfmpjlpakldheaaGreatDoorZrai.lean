import Derived.Test.YtfmpjlpakldheaaGreatDoorProg
import Derived.Test.YtfmpjlpakldheaaGreatDoorZrah
import Derived.Test.YtfmpjlpakldheaaGreatDoorZrab
import Derived.WalkSpells
import Derived.WalkLawsBesides
import Derived.StillTactics
import Derived.Laws.Pointers
import Derived.Deep.RegionHeld3
import Derived.Carry
import Derived.Deep.Cut
import Derived.Test.YtfmpjlpakldheaaGreatDoorZraa
import Derived.Lib.Builder
import Derived.Deep.QuietTactic
import Derived.BigQuiet
set_option maxRecDepth 100000
set_option maxHeartbeats 1000000
namespace Go.Proofs.YtfmpjlpakldheaaGreatDoor
open Go.RowKit Go.Proofs.Sha Tryz
theorem key43 : Key32 prog 116 5 :=
 ⟨Tryz.underlying116, Tryz.underlying5, by kernel_rfl, by kernel_rfl, by kernel_rfl, deep_law_gate (by kernel_rfl) (by decide +kernel) (by decide +kernel) (by kernel_rfl) (by rw [Tryz.underlying116]), ⟨prog.types.size - 1, by kernel_rfl⟩⟩
def zeros32b : List UInt8 := List.replicate 32 0
theorem alloc43 (w : World) : (Instr.alloc 116 true (.tuple #[])).run prog w = .ok (.pointer (some ⟨w.heap.size, 0, none⟩)) (w.alloc (.cells (zeros32b.map B).toArray 116)) := by kernel_rfl
theorem size43 : (prog.info? 116).map (·.size) = some 32 := by kernel_rfl
def cutW (k : Nat) (X : List UInt8) : List UInt8 := X.take k ++ List.replicate (32 - k) 0
theorem cutW_len (k : Nat) (X : List UInt8) (hX : X.length = 32) (hk : k <= 32) : (cutW k X).length = 32 := by unfold cutW; rw [List.length_append, List.length_take, List.length_replicate]; omega
def addF (F : List UInt8 -> Option Int) (X : List UInt8) (v : Int) : List UInt8 -> Option Int := if F X = none then fun Y => if Y = X then some v else F Y else F
def HashSaid (K : World -> Prop) : Prop := ∀ (s : ByteArray) (w : World), s.size <= 1048576 -> K w -> Calls prog 167 #[.string s] w fun e w' => e = .returned (.agg ((sha (78 :: s.data.toList)).map B).toArray) /\ Below w.heap.size w w'
theorem Row.setTail {w : World} {base g n cap : Nat} {xs : List Value} (h : Row w base g n cap xs) (o : Nat) (ys : List Value) (ho : o + ys.length = n) : Row (w.setCells g o ys) base g n cap (xs.take o ++ ys) := by
 have hin : ∀ j (hj : j < ys.length), (w.setCells g o ys).cell? ⟨g, o + j, none⟩ = some ys[j] := World.cell?_setCells_in g ys o w (fun j hj => h.room (o + j) (by have := h.le; omega))
 have hout : ∀ j, j < o \/ o + ys.length <= j -> (w.setCells g o ys).cell? ⟨g, j, none⟩ = w.cell? ⟨g, j, none⟩ := fun j hj => World.cell?_setCells_out g ys o w ⟨g, j, none⟩ (fun _ _ => hj)
 have hgr := grownBy_setCells g ys o w
 have hl := h.len
 refine ⟨h.ge, Nat.lt_of_lt_of_le h.lt hgr.size, by rw [List.length_append, List.length_take]; omega, h.le, ?_, ?_, ?_⟩
 · intro j hj
   rcases Nat.lt_or_ge j o with h1 | h1
   · rw [hout j (.inl h1), h.cell j (by omega), List.getElem?_append_left (by rw [List.length_take]; omega), List.getElem?_take, if_pos h1]
   · obtain ⟨q, rfl⟩ := Nat.exists_eq_add_of_le h1
     rw [hin q (by omega), List.getElem?_append_right (by rw [List.length_take]; omega), List.length_take, show o + q - min o xs.length = q by omega, List.getElem?_eq_getElem (by omega)]
 · intro j hj
   rcases Nat.lt_or_ge j o with h1 | h1
   · rw [hout j (.inl h1)]; exact h.room j hj
   · rcases Nat.lt_or_ge j (o + ys.length) with h2 | h2
     · obtain ⟨q, rfl⟩ := Nat.exists_eq_add_of_le h1
       rw [hin q (by omega)]; rfl
     · rw [hout j (.inr h2)]; exact h.room j hj
 · intro j hj
   rw [World.frozen?_setCells]; exact h.free j hj
theorem zeroV3 (w : World) : (zeroValue 3).run prog w = .ok (.int .i64 0) w := by kernel_rfl
theorem zeroV5 (w : World) : (zeroValue 5).run prog w = .ok (.int .u8 0) w := by kernel_rfl
theorem zeroCells_b (q : Nat) : (Builtin.zeroCells (Value.int .u8 0).cells q).toList = List.replicate q (B 0) := by
 show (Builtin.zeroCells #[Value.int .u8 0] q).toList = _
 rw [Builtin.zeroCells]
 apply List.ext_getElem
 · simp
 · intro j h1 h2
   simp [B, Nat.mod_one]
theorem run_clear_tail {w : World} {base g : Nat} {X : List UInt8} (h : Row w base g 32 32 (X.map B)) (_hX : X.length = 32) (k : Nat) (hk : k < 32) :
 ∃ w', (Builtin.clear_ #[22] 0 #[.slice (some ⟨g, k, none⟩) (32 - k) (32 - k)]).run prog w = .ok (.tuple #[]) w' /\ Row w' base g 32 32 ((cutW k X).map B) /\ w.grownBy w' (some g) := by
 obtain ⟨q, hq⟩ : ∃ q, 32 - k = q + 1 := ⟨31 - k, by omega⟩
 have hst := run_storeCells_cells (P := prog) g k (List.replicate (32 - k) (B 0)) 0 w (fun j hj => by rw [List.length_replicate] at hj; have := h.room (k + j) (by omega); simpa using this) (fun j hj => by rw [List.length_replicate] at hj; have := h.free (k + j) (by omega); simpa using this) (fun v hv => by rw [List.eq_of_mem_replicate hv]; rfl)
 simp only [Nat.add_zero] at hst
 refine ⟨w.setCells g k (List.replicate (32 - k) (B 0)), ?_, ?_, grownBy_setCells _ _ _ _⟩
 · unfold Builtin.clear_
   rw [hq] at hst ⊢
   simp only [Sem.run_bind, run_underlying Tryz.underlying22, Result.andThen_ok, zeroV5, zeroCells_b, List.getElem?_toArray, List.getElem?_cons_zero]
   rw [hst]
   rfl
 · have := Row.setTail h k (List.replicate (32 - k) (B 0)) (by rw [List.length_replicate]; omega)
   unfold cutW
   rw [List.map_append, List.map_take, List.map_replicate]
   exact this
theorem newP_any (wd : Int) (w : World) : Calls prog 145 #[.int .i64 wd] w fun e w' => ∃ r, e = .returned (.agg #[.int .i64 wd, .map (some r)]) /\ w.heap.size <= r /\ MapF (fun _ => none) r w' /\ Below w.heap.size w w' := by
 have hmm := @run_makeMap prog
 have hM : MapF (fun _ => none) (w.heap.size + 1) ((w.alloc (.cells #[.int .i64 wd, .map (some (w.heap.size + 1))] 176)).alloc (.map #[] 0)) := by
  refine ⟨#[], 0, ?_, fun x hx => by simp at hx, fun X v hv => by cases hv⟩
  have := heap_alloc_new (w.alloc (.cells #[.int .i64 wd, .map (some (w.heap.size + 1))] 176)) (.map #[] 0)
  rwa [World.size_alloc] at this
 go_enter func145, ntmps145
 go_wp2_with fail
 refine bodyPost_ret (v := .agg #[.int .i64 wd, .map (some (w.heap.size + 1))]) ?_ rfl ⟨w.heap.size + 1, rfl, by omega, hM, ((Below.refl _ w).alloc (Nat.le_refl _) _).alloc (by simp) _⟩
 clear hM
 simp [results, Tryz.results145, go_sem, asAddr]
theorem add_any {K : World -> Prop} (HH : Hid (HashSaid K)) (wd : Nat) (r : Nat) (F : List UInt8 -> Option Int) (enc : ByteArray) (pl : Int) (w : World) (h : MapF F r w) (hK : K w) (keep : Hid (∀ w1 w2, K w1 -> Below w1.heap.size w1 w2 -> K w2)) (hs : enc.size <= 1048576) (h1 : wd <= 32) :
 Calls prog 146 #[.agg #[.int .i64 (wd : Int), .map (some r)], .string enc, .int .i64 pl] w fun e w' => e = .returned (.tuple #[]) /\ MapF (addF F (cutW wd (sha (78 :: enc.data.toList))) pl) r w' /\ w.grownBy w' (some r) := by
 obtain ⟨L, hL⟩ : ∃ L, sha (78 :: enc.data.toList) = L := ⟨_, rfl⟩
 have hLl : L.length = 32 := by rw [<- hL]; unfold sha; rw [outTo_length]
 have HC : Hid (∀ w', K w' -> Calls prog 167 #[.string enc] w' fun e w'' => e = .returned (.agg (L.map B).toArray) /\ Below w'.heap.size w' w'') := fun w' hw => by rw [<- hL]; exact HH.out enc w' hs hw
 go_enter func146, ntmps146
 go_wp2_with fail
 refine (HC.out _ (keep.out _ _ hK ((Below.refl _ w).alloc (Nat.le_refl _) _))).mono ?_
 rintro e w1 ⟨rfl, hb1⟩
 have hn1 : w1.heap[w.heap.size]? = some (.cells #[.int .i64 (wd : Int), .map (some r)] 176) := (hb1.block _ (by simp)).trans (heap_alloc_new w _)
 have hB1 : Below w.heap.size w w1 := ((Below.refl _ w).alloc (Nat.le_refl _) _).trans (hb1.mono (by simp))
 have hrl : r < w.heap.size := by
  obtain ⟨es, cl, hg, _, _⟩ := h.is
  exact (Array.getElem?_eq_some_iff.1 hg).1
 obtain ⟨ga, hga⟩ : ∃ ga, w.heap.size = ga := ⟨_, rfl⟩
 have hLm : (L.map B).length = 32 := by rw [List.length_map, hLl]
 have h1c : ∀ v ∈ L.map B, v.oneCell' = true := by
  intro v hv
  obtain ⟨x, _, rfl⟩ := List.mem_map.1 hv
  rfl
 have hs1 := hB1.size
 go_upto_region 2 with (first | (refine wpList_alloc_row _ rfl (some 6) rfl 116 116 rfl (zeros32b.map B) alloc43 ?_; intro g2 w2 hr2 hb2) | (refine wpList_store_whole _ rfl rfl 116 (.tmp 6) (.tmp 10) rfl w1.heap.size g2 32 (zeros32b.map B) (L.map B) rfl rfl hr2 hLm size43 h1c ?_; intro w3 hR3 hg3))
 have hge := hR3.ge
 have hgl := hR3.lt
 have hB3' : Below w1.heap.size w1 w3 := hb2.trans (below_of_grown hg3 hge hb2.size)
 have hn3 : w3.heap[ga]? = some (.cells #[.int .i64 (wd : Int), .map (some r)] 176) := by
  rw [<- hga]
  exact (hB3'.block _ (Array.getElem?_eq_some_iff.1 hn1).1).trans hn1
 have hM3 : MapF F r w3 := (h.below hB1).below hB3'
 have hB3 : Below w.heap.size w w3 := hB1.trans (hB3'.mono hB1.size)
 have hne : ga ≠ g2 := by have := (Array.getElem?_eq_some_iff.1 hn1).1; omega
 clear hb2 hr2 hg3 hB3' hn1 hb1 hB1
 have c0 := ZC hn3 0
 have c1 := ZC hn3 1
 have q1 : (wd : Int) <= 32 := by omega
 have q2 : (0 : Int) <= (wd : Int) := by omega
 by_cases hw : wd < 32
 · obtain ⟨w4, hcl, hR4, hg4⟩ := run_clear_tail hR3 hLl wd hw
   have hM4 := hM3.kept hg4 (by omega)
   have hn4 : w4.heap[ga]? = some (.cells #[.int .i64 (wd : Int), .map (some r)] 176) := (hg4.block ga (Array.getElem?_eq_some_iff.1 hn3).1 (fun e => hne (Option.some.inj e))).trans hn3
   have hB4 : w.grownBy w4 (some r) := by
    have : Below w.heap.size w w4 := hB3.trans (below_of_grown hg4 (by omega) hB3.size)
    exact grownBy_of_below this _
   go_upto_region 3 with fail
   clear hcl hR3 hg4 hM3 hn3 hB3 c0 c1
   have hX := cutW_len wd L hLl h1
   have HX : Hid (cutW wd (sha (78 :: enc.data.toList)) = cutW wd L) := by show _ = _; rw [hL]
   obtain ⟨X, hXX⟩ : ∃ X, cutW wd L = X := ⟨_, rfl⟩
   rw [hXX] at hR4 hX HX
   have hlk := run_look key43 Tryz.underlying174 zeroV3 hM4 X hX
   unfold K32 at hlk
   have d0 := ZC hn4 0
   have d1 := ZC hn4 1
   cases hF : F X with
   | some u =>
    rw [hF] at hlk
    have hend : MapF (addF F (cutW wd (sha (78 :: enc.data.toList))) pl) r w4 := by
     rw [HX.out]
     unfold addF
     rw [if_neg (by rw [hF]; intro hh; cases hh)]
     exact hM4
    clear HX hM4 hF
    go_wp2_with (first | (refine wpList_load_whole _ rfl 116 (.tmp 6) rfl w1.heap.size g2 32 32 (X.map B) 5 rfl hR4 Tryz.underlying116 size43 ?_))
    go_end0
    exact ⟨rfl, hend, hB4⟩
   | none =>
    rw [hF] at hlk
    obtain ⟨w5, hup, hM5, hg5⟩ := run_put key43 Tryz.underlying174 hM4 X hX hF pl
    unfold K32 at hup
    have hend : MapF (addF F (cutW wd (sha (78 :: enc.data.toList))) pl) r w5 := by
     rw [HX.out]
     unfold addF
     rw [if_pos hF]
     exact hM5
    have hB5 := grownBy_trans hB4 hg5
    clear HX hM4 hF hM5
    go_wp2_with (first | (refine wpList_load_whole _ rfl 116 (.tmp 6) rfl w1.heap.size g2 32 32 (X.map B) 5 rfl hR4 Tryz.underlying116 size43 ?_))
    go_end0
    exact ⟨rfl, hend, hB5⟩
 · obtain rfl : wd = 32 := by omega
   have hcl : (Builtin.clear_ #[22] 0 #[.slice (some ⟨g2, 0, none⟩) 0 0]).run prog w3 = .ok (.tuple #[]) w3 := by
    unfold Builtin.clear_
    simp only [Sem.run_bind, run_underlying Tryz.underlying22, Result.andThen_ok, List.getElem?_toArray, List.getElem?_cons_zero]
    rfl
   have hc32 : cutW 32 L = L := by unfold cutW; rw [List.take_of_length_le (by omega)]; simp
   have hR4 : Row w3 w1.heap.size g2 32 32 ((cutW 32 L).map B) := by rw [hc32]; exact hR3
   have hM4 := hM3
   have hn4 := hn3
   have hB4 : w.grownBy w3 (some r) := grownBy_of_below hB3 _
   go_upto_region 3 with fail
   clear hcl hR3 hM3 hn3 hB3 c0 c1 hc32
   have hX := cutW_len 32 L hLl h1
   have HX : Hid (cutW 32 (sha (78 :: enc.data.toList)) = cutW 32 L) := by show _ = _; rw [hL]
   obtain ⟨X, hXX⟩ : ∃ X, cutW 32 L = X := ⟨_, rfl⟩
   rw [hXX] at hR4 hX HX
   have hlk := run_look key43 Tryz.underlying174 zeroV3 hM4 X hX
   unfold K32 at hlk
   have d0 := ZC hn4 0
   have d1 := ZC hn4 1
   cases hF : F X with
   | some u =>
    rw [hF] at hlk
    have hend : MapF (addF F (cutW 32 (sha (78 :: enc.data.toList))) pl) r w3 := by
     rw [HX.out]
     unfold addF
     rw [if_neg (by rw [hF]; intro hh; cases hh)]
     exact hM4
    clear HX hM4 hF
    go_wp2_with (first | (refine wpList_load_whole _ rfl 116 (.tmp 6) rfl w1.heap.size g2 32 32 (X.map B) 5 rfl hR4 Tryz.underlying116 size43 ?_))
    go_end0
    exact ⟨rfl, hend, hB4⟩
   | none =>
    rw [hF] at hlk
    obtain ⟨w5, hup, hM5, hg5⟩ := run_put key43 Tryz.underlying174 hM4 X hX hF pl
    unfold K32 at hup
    have hend : MapF (addF F (cutW 32 (sha (78 :: enc.data.toList))) pl) r w5 := by
     rw [HX.out]
     unfold addF
     rw [if_pos hF]
     exact hM5
    have hB5 := grownBy_trans hB4 hg5
    clear HX hM4 hF hM5
    go_wp2_with (first | (refine wpList_load_whole _ rfl 116 (.tmp 6) rfl w1.heap.size g2 32 32 (X.map B) 5 rfl hR4 Tryz.underlying116 size43 ?_))
    go_end0
    exact ⟨rfl, hend, hB5⟩
theorem less_tri : ∀ a b : List UInt8, Op.bytesLess a b = !(Op.bytesLess b a || b == a)
 | [], [] => rfl
 | [], b :: y => by simp [Op.bytesLess]
 | a :: x, [] => by simp [Op.bytesLess]
 | a :: x, b :: y => by
  rw [Op.bytesLess, Op.bytesLess, less_tri x y]
  by_cases h : a = b
  · subst h
    simp
  · by_cases hl : a < b
    · have h2 : ¬ b < a := by rw [UInt8.lt_iff_toNat_lt] at hl ⊢; omega
      have h3 : ¬ b = a := fun e => h e.symm
      simp [hl, h2, h3]
    · have h2 : b < a := by
       rw [UInt8.lt_iff_toNat_lt] at hl ⊢
       have : a.toNat ≠ b.toNat := fun e => h (UInt8.toNat_inj.1 e)
       omega
      have h3 : ¬ b = a := fun e => h e.symm
      simp [h, hl, h2]
abbrev PairT := ByteArray × ByteArray
def noPair : PairT := (⟨#[]⟩, ⟨#[]⟩)
structure PArg (a : Option Addr) (ps : List PairT) (w : World) : Prop where
 le : ps.length <= 1048576
 sz : ∀ j, (ps.getD j noPair).1.size <= 1048576 /\ (ps.getD j noPair).2.size <= 1048576
 at_ : 0 < ps.length -> ∃ b off : Nat, a = some ⟨b, off, none⟩ /\ b < w.heap.size /\ ∀ j, j < ps.length -> w.cell? ⟨b, off + j * 2, none⟩ = some (.string (ps.getD j noPair).1) /\ w.cell? ⟨b, off + j * 2 + 1, none⟩ = some (.string (ps.getD j noPair).2)
theorem PArg.below {a : Option Addr} {ps : List PairT} {w w' : World} (h : PArg a ps w) (hb : Below w.heap.size w w') : PArg a ps w' := by
 refine ⟨h.le, h.sz, fun hn => ?_⟩
 obtain ⟨b, off, ha, hlt, hc⟩ := h.at_ hn
 exact ⟨b, off, ha, Nat.lt_of_lt_of_le hlt hb.size, fun j hj => ⟨(hb.cell (p := ⟨b, off + j * 2, none⟩) hlt).trans (hc j hj).1, (hb.cell (p := ⟨b, off + j * 2 + 1, none⟩) hlt).trans (hc j hj).2⟩⟩
def okKey (k : ByteArray) : Bool := decide (1 <= k.size /\ k.size <= 256)
def okVal (v : ByteArray) : Bool := decide (v.size <= 2000)
def lastK (ps : List PairT) : Nat -> ByteArray
 | 0 => ⟨#[]⟩
 | k + 1 => (ps.getD k noPair).1
def goodAt (ps : List PairT) (k : Nat) : Bool := okKey (ps.getD k noPair).1 && (okVal (ps.getD k noPair).2 && Op.bytesLess (lastK ps k).toList (ps.getD k noPair).1.toList)
def mapTo (ps : List PairT) : Nat -> Bool
 | 0 => true
 | k + 1 => mapTo ps k && goodAt ps k
theorem mapTo_false (ps : List PairT) (k n : Nat) (h : k < n) (hg : goodAt ps k = false) : mapTo ps n = false := by
 induction n with
 | zero => omega
 | succ n ih =>
  rw [mapTo]
  by_cases e : k = n
  · subst e; rw [hg, Bool.and_false]
  · rw [ih (by omega), Bool.false_and]
def isMapT (ps : List PairT) : Bool := decide (ps.length <= 500) && mapTo ps ps.length
theorem vkey_any (k : ByteArray) (w : World) (hk : k.size <= 1048576) : Calls prog 63 #[.string k] w fun e w' => e = .returned (.bool (okKey k)) /\ w = w' := by
 by_cases c1 : 1 <= k.size
 · have hr : okKey k = decide ((k.size : Int) <= 256) := by
    unfold okKey
    by_cases c2 : k.size <= 256
    · rw [decide_eq_true (by omega), decide_eq_true (by omega)]
    · rw [decide_eq_false (by omega), decide_eq_false (by omega)]
   rw [hr]
   have z1 : decide ((1 : Int) <= (k.size : Int)) = true := by rw [decide_eq_true_eq]; omega
   have z2 : decide (1 <= k.size) = true := decide_eq_true c1
   have z3 : 0 < k.size := by omega
   clear hr
   go_enter func63, ntmps63
   go_wp2_with fail
   go_ret
   exact ⟨rfl, rfl⟩
 · have hr : okKey k = false := by unfold okKey; rw [decide_eq_false (by omega)]
   rw [hr]
   have z1 : decide ((1 : Int) <= (k.size : Int)) = false := by rw [decide_eq_false_iff_not]; omega
   have z0 : k.size = 0 := by omega
   clear hr
   go_enter func63, ntmps63
   go_wp2_with fail
   go_ret
   exact ⟨rfl, rfl⟩
theorem vval_any (v : ByteArray) (w : World) (hv : v.size <= 1048576) : Calls prog 64 #[.string v] w fun e w' => e = .returned (.bool (okVal v)) /\ w = w' := by
 have hr : okVal v = decide ((v.size : Int) <= 2000) := by
  unfold okVal
  by_cases c2 : v.size <= 2000
  · rw [decide_eq_true (by omega), decide_eq_true (by omega)]
  · rw [decide_eq_false (by omega), decide_eq_false (by omega)]
 rw [hr]
 go_enter func64, ntmps64
 go_wp2_with fail
 go_ret
 exact ⟨rfl, rfl⟩
theorem isMap_any (a : Option Addr) (ps : List PairT) (c : Nat) (w : World) (h : PArg a ps w) :
 Calls prog 53 #[.slice a ps.length c] w fun e w' => e = .returned (.bool (isMapT ps)) /\ Below w.heap.size w w' := by
 have hn := h.le
 obtain ⟨n, hnn⟩ : ∃ n, ps.length = n := ⟨_, rfl⟩
 obtain ⟨B, hB⟩ : ∃ B, isMapT ps = B := ⟨_, rfl⟩
 rw [hB, hnn]
 rw [hnn] at hn
 by_cases hx : 500 < n
 · have hf : Hid (B = false) := by show B = false; rw [<- hB]; unfold isMapT; rw [decide_eq_false (by omega), Bool.false_and]
   have z1 : decide ((500 : Int) < (n : Int)) = true := by rw [decide_eq_true_eq]; omega
   have z2 : decide ((n : Int) > 500) = true := by rw [decide_eq_true_eq]; omega
   clear hB
   go_enter func53, ntmps53
   go_wp2_with fail
   go_ret
   exact ⟨by rw [hf.out]; rfl, Below.refl _ _⟩
 · have hBm : Hid (B = mapTo ps n) := by show B = _; rw [<- hB]; unfold isMapT; rw [decide_eq_true (by omega), Bool.true_and, hnn]
   have z1 : decide ((500 : Int) < (n : Int)) = false := by rw [decide_eq_false_iff_not]; omega
   have z2 : decide ((n : Int) > 500) = false := by rw [decide_eq_false_iff_not]; omega
   have hnl : Hid (ps.length = n) := hnn
   clear hB hnn
   go_enter func53, ntmps53
   go_wp2_with fail
   go_loopw [3, 11] (fun t3 t11 wr => ∃ k : Nat, k <= n /\ t3 = .string (lastK ps k) /\ t11 = .int .i64 (k : Int) /\ Hid (mapTo ps k = true) /\ Below w.heap.size w wr) (fun _ t11 _ => n - (intOf t11).toNat)
   case atStart => exact ⟨0, Nat.zero_le _, rfl, rfl, rfl, Below.refl _ _⟩
   case round =>
    obtain ⟨k, hk, rfl, rfl, hm, hbw⟩ := hrel
    by_cases hlt : k < n
    · have z3 : decide ((k : Int) < (n : Int)) = true := by simp; omega
      have hx0 : (0 : Int) <= (k : Int) := Int.natCast_nonneg _
      have hx1 : (k : Int) < (n : Int) := by omega
      obtain ⟨b, off, rfl, hbl, hc⟩ := (h.below hbw).at_ (by rw [hnl.out]; omega)
      obtain ⟨hc1, hc2⟩ := hc k (by rw [hnl.out]; exact hlt)
      have hgd : Hid (goodAt ps k = (okKey (ps.getD k noPair).1 && (okVal (ps.getD k noPair).2 && Op.bytesLess (lastK ps k).toList (ps.getD k noPair).1.toList))) := rfl
      have hlk : Hid (lastK ps (k + 1) = (ps.getD k noPair).1) := rfl
      obtain ⟨hs1, hs2⟩ := h.sz k
      generalize (ps.getD k noPair).1 = pk at hc1 hgd hlk hs1
      generalize (ps.getD k noPair).2 = pv at hc2 hgd hs2
      generalize lastK ps k = lk at hgd ⊢
      have H1 : Hid (∀ w', Calls prog 63 #[.string pk] w' fun e w'' => e = .returned (.bool (okKey pk)) /\ w' = w'') := fun w' => vkey_any pk w' hs1
      have H2 : Hid (∀ w', Calls prog 64 #[.string pv] w' fun e w'' => e = .returned (.bool (okVal pv)) /\ w' = w'') := fun w' => vval_any pv w' hs2
      clear hc
      cases hk1 : okKey pk with
      | false =>
       rw [hk1] at H1
       have hbf : Hid (B = false) := by
        show B = false
        rw [hBm.out]
        exact mapTo_false ps k n hlt (by rw [hgd.out, hk1, Bool.false_and])
       clear hk1 hgd hm hBm
       have hbA : Below w.heap.size w (wr.alloc (.cells #[.string pk, .string pv] 34)) := hbw.alloc hbw.size _
       go_wp2_with (first | (go_at_call 63; refine (H1.out _).mono ?_; rintro e w1 ⟨rfl, rfl⟩))
       go_ret
       exact ⟨by rw [hbf.out]; rfl, hbA⟩
      | true =>
       rw [hk1] at H1
       cases hv1 : okVal pv with
       | false =>
        rw [hv1] at H2
        have hbf : Hid (B = false) := by
         show B = false
         rw [hBm.out]
         exact mapTo_false ps k n hlt (by rw [hgd.out, hk1, hv1]; rfl)
        clear hk1 hv1 hgd hm hBm
        have hbA : Below w.heap.size w (wr.alloc (.cells #[.string pk, .string pv] 34)) := hbw.alloc hbw.size _
        go_wp2_with (first | (go_at_call 63; refine (H1.out _).mono ?_; rintro e w1 ⟨rfl, rfl⟩) | (go_at_call 64; refine (H2.out _).mono ?_; rintro e w1 ⟨rfl, rfl⟩))
        go_ret
        exact ⟨by rw [hbf.out]; rfl, hbA⟩
       | true =>
        rw [hv1] at H2
        have hg2 : Hid (goodAt ps k = Op.bytesLess lk.toList pk.toList) := by show _ = _; rw [hgd.out, hk1, hv1]; rfl
        have hbA : Below w.heap.size w (wr.alloc (.cells #[.string pk, .string pv] 34)) := hbw.alloc hbw.size _
        clear hk1 hv1 hgd
        cases hls : Op.bytesLess lk.toList pk.toList with
        | false =>
         have hbf : Hid (B = false) := by
          show B = false
          rw [hBm.out]
          exact mapTo_false ps k n hlt (by rw [hg2.out, hls])
         have hor := less_tri lk.toList pk.toList
         rw [hls] at hor
         have hor2 : (Op.bytesLess pk.toList lk.toList || (pk.toList == lk.toList)) = true := by
          cases hq : (Op.bytesLess pk.toList lk.toList || (pk.toList == lk.toList)) with
          | true => rfl
          | false => rw [hq] at hor; cases hor
         clear hg2 hm hBm hor hls
         cases hq1 : Op.bytesLess pk.toList lk.toList with
         | true =>
          clear hor2
          go_wp2_with (first | (go_at_call 63; refine (H1.out _).mono ?_; rintro e w1 ⟨rfl, rfl⟩) | (go_at_call 64; refine (H2.out _).mono ?_; rintro e w1 ⟨rfl, rfl⟩))
          go_ret
          exact ⟨by rw [hbf.out]; rfl, hbA⟩
         | false =>
          rw [hq1, Bool.false_or] at hor2
          go_wp2_with (first | (go_at_call 63; refine (H1.out _).mono ?_; rintro e w1 ⟨rfl, rfl⟩) | (go_at_call 64; refine (H2.out _).mono ?_; rintro e w1 ⟨rfl, rfl⟩))
          go_ret
          exact ⟨by rw [hbf.out]; rfl, hbA⟩
        | true =>
         have hm' : Hid (mapTo ps (k + 1) = true) := by show _ = _; rw [mapTo, hm.out, hg2.out, hls]; rfl
         have hor := less_tri lk.toList pk.toList
         rw [hls] at hor
         have hq1 : Op.bytesLess pk.toList lk.toList = false := by
          cases hq : Op.bytesLess pk.toList lk.toList with
          | false => rfl
          | true => rw [hq, Bool.true_or] at hor; cases hor
         have hq2 : (pk.toList == lk.toList) = false := by
          cases hq : (pk.toList == lk.toList) with
          | false => rfl
          | true => rw [hq, Bool.or_true] at hor; cases hor
         clear hg2 hm hor hls
         go_wp2_with (first | (go_at_call 63; refine (H1.out _).mono ?_; rintro e w1 ⟨rfl, rfl⟩) | (go_at_call 64; refine (H2.out _).mono ?_; rintro e w1 ⟨rfl, rfl⟩))
         go_roundw
         case rel => exact ⟨k + 1, hlt, by rw [hlk.out], by go_num, hm', hbA⟩
         case measure => simp [intOf]; omega
    · obtain rfl : k = n := by omega
      have z3 : decide ((k : Int) < (k : Int)) = false := by simp
      have hbt : Hid (B = true) := by show B = true; rw [hBm.out, hm.out]
      clear hBm hm
      go_wp2_with fail
      go_ret
      exact ⟨by rw [hbt.out]; rfl, hbw⟩
abbrev FN := (ByteArray × ByteArray × ByteArray × ByteArray) × Int
structure FndOk (wd : Nat) (fnd : ByteArray -> FN) : Prop where
 code : ∀ h, (fnd h).2 = 0 \/ (fnd h).2 = 2 \/ (fnd h).2 = 3
 node : ∀ h, (fnd h).2 = 0 -> okKey (fnd h).1.1 = true /\ okVal (fnd h).1.2.1 = true /\ ((fnd h).1.2.2.1.size = 0 \/ (fnd h).1.2.2.1.size = wd) /\ ((fnd h).1.2.2.2.size = 0 \/ (fnd h).1.2.2.2.size = wd)
def lessB (a b : ByteArray) : Bool := Op.bytesLess a.toList b.toList
def emp (a : ByteArray) : Bool := decide (a.size = 0)
def canW (over under lo hi : ByteArray) : Bool := (emp hi || (lessB lo hi && lessB over hi)) && (emp under || lessB lo under)
def insW (over under k : ByteArray) : Bool := lessB over k && (emp under || lessB k under)
def hasW (lo hi k : ByteArray) : Bool := !lessB k lo && (emp hi || lessB k hi)
def parW (hg : ByteArray -> ByteArray -> Bool) (par k : ByteArray) : Bool := emp par || hg par k
def goF (fnd : ByteArray -> FN) (hg : ByteArray -> ByteArray -> Bool) (lo hi : ByteArray) : Nat -> ByteArray -> ByteArray -> ByteArray -> ByteArray -> Nat -> Int × Nat × List PairT
 | 0, _, _, _, _, _ => (9, 0, [])
 | f + 1, hash, over, under, par, cnt =>
  if (emp hash || !canW over under lo hi) = true then (0, cnt, []) else
  if (fnd hash).2 = 2 then (2, 0, []) else
  if (fnd hash).2 ≠ 0 then (3, 0, []) else
  if (insW over under (fnd hash).1.1 && parW hg par (fnd hash).1.1) = false then (3, 0, []) else
  if 500 < cnt + 1 then (6, 0, []) else
  if (goF fnd hg lo hi f (fnd hash).1.2.2.1 over (fnd hash).1.1 (fnd hash).1.1 (cnt + 1)).1 ≠ 0 then ((goF fnd hg lo hi f (fnd hash).1.2.2.1 over (fnd hash).1.1 (fnd hash).1.1 (cnt + 1)).1, 0, []) else
  if (goF fnd hg lo hi f (fnd hash).1.2.2.2 (fnd hash).1.1 under (fnd hash).1.1 (goF fnd hg lo hi f (fnd hash).1.2.2.1 over (fnd hash).1.1 (fnd hash).1.1 (cnt + 1)).2.1).1 ≠ 0 then ((goF fnd hg lo hi f (fnd hash).1.2.2.2 (fnd hash).1.1 under (fnd hash).1.1 (goF fnd hg lo hi f (fnd hash).1.2.2.1 over (fnd hash).1.1 (fnd hash).1.1 (cnt + 1)).2.1).1, 0, []) else
  (0, (goF fnd hg lo hi f (fnd hash).1.2.2.2 (fnd hash).1.1 under (fnd hash).1.1 (goF fnd hg lo hi f (fnd hash).1.2.2.1 over (fnd hash).1.1 (fnd hash).1.1 (cnt + 1)).2.1).2.1,
   (goF fnd hg lo hi f (fnd hash).1.2.2.1 over (fnd hash).1.1 (fnd hash).1.1 (cnt + 1)).2.2 ++ (if hasW lo hi (fnd hash).1.1 = true then [((fnd hash).1.1, (fnd hash).1.2.1)] else []) ++
   (goF fnd hg lo hi f (fnd hash).1.2.2.2 (fnd hash).1.1 under (fnd hash).1.1 (goF fnd hg lo hi f (fnd hash).1.2.2.1 over (fnd hash).1.1 (fnd hash).1.1 (cnt + 1)).2.1).2.2)
section
variable {fnd : ByteArray -> FN} {hg : ByteArray -> ByteArray -> Bool} {lo hi : ByteArray}
theorem goF_skip {f : Nat} {hash over under par : ByteArray} {cnt : Nat} (h : (emp hash || !canW over under lo hi) = true) : goF fnd hg lo hi (f + 1) hash over under par cnt = (0, cnt, []) := by rw [goF, if_pos h]
theorem goF_missing {f : Nat} {hash over under par : ByteArray} {cnt : Nat} (h : (emp hash || !canW over under lo hi) = false) (h2 : (fnd hash).2 = 2) : goF fnd hg lo hi (f + 1) hash over under par cnt = (2, 0, []) := by rw [goF, if_neg (by rw [h]; decide), if_pos h2]
theorem goF_place {f : Nat} {hash over under par : ByteArray} {cnt : Nat} (h : (emp hash || !canW over under lo hi) = false) (h2 : (fnd hash).2 = 0) (h3 : (insW over under (fnd hash).1.1 && parW hg par (fnd hash).1.1) = false) : goF fnd hg lo hi (f + 1) hash over under par cnt = (3, 0, []) := by
 rw [goF, if_neg (by rw [h]; decide), if_neg (by rw [h2]; decide), if_neg (by rw [h2]; decide), if_pos h3]
theorem goF_many {f : Nat} {hash over under par : ByteArray} {cnt : Nat} (h : (emp hash || !canW over under lo hi) = false) (h2 : (fnd hash).2 = 0) (h3 : (insW over under (fnd hash).1.1 && parW hg par (fnd hash).1.1) = true) (h4 : 500 < cnt + 1) : goF fnd hg lo hi (f + 1) hash over under par cnt = (6, 0, []) := by
 rw [goF, if_neg (by rw [h]; decide), if_neg (by rw [h2]; decide), if_neg (by rw [h2]; decide), if_neg (by rw [h3]; decide), if_pos h4]
theorem goF_node {f : Nat} {hash over under par : ByteArray} {cnt : Nat} {k v l r : ByteArray} (h : (emp hash || !canW over under lo hi) = false) (h2 : fnd hash = ((k, v, l, r), 0)) (h3 : (insW over under k && parW hg par k) = true) (h4 : cnt + 1 <= 500)
 {L R : Int × Nat × List PairT} (hL : goF fnd hg lo hi f l over k k (cnt + 1) = L) (hR : goF fnd hg lo hi f r k under k L.2.1 = R) :
 goF fnd hg lo hi (f + 1) hash over under par cnt = if L.1 ≠ 0 then (L.1, 0, []) else if R.1 ≠ 0 then (R.1, 0, []) else (0, R.2.1, L.2.2 ++ (if hasW lo hi k = true then [(k, v)] else []) ++ R.2.2) := by
 rw [goF, h2]
 simp only [hL, hR]
 rw [if_neg (by rw [h]; decide), if_neg (by decide), if_neg (by simp), if_neg (by rw [h3]; decide), if_neg (by omega)]
theorem goF_cnt : ∀ (f : Nat) (hash over under par : ByteArray) (cnt : Nat), cnt <= 500 -> (goF fnd hg lo hi f hash over under par cnt).1 = 0 -> cnt <= (goF fnd hg lo hi f hash over under par cnt).2.1 /\ (goF fnd hg lo hi f hash over under par cnt).2.1 <= 500
 | 0, _, _, _, _, _, _, h => by rw [goF] at h; exact absurd h (by decide)
 | f + 1, hash, over, under, par, cnt, hc, h => by
  cases h1 : (emp hash || !canW over under lo hi) with
  | true => rw [goF_skip h1] at h ⊢; exact ⟨Nat.le_refl _, hc⟩
  | false =>
   by_cases h2 : (fnd hash).2 = 2
   · rw [goF_missing h1 h2] at h; exact absurd h (by decide)
   · by_cases h20 : (fnd hash).2 = 0
     · cases h3 : (insW over under (fnd hash).1.1 && parW hg par (fnd hash).1.1) with
       | false => rw [goF_place h1 h20 h3] at h; exact absurd h (by decide)
       | true =>
        by_cases h4 : 500 < cnt + 1
        · rw [goF_many h1 h20 h3 h4] at h; exact absurd h (by decide)
        · have e : fnd hash = (((fnd hash).1.1, (fnd hash).1.2.1, (fnd hash).1.2.2.1, (fnd hash).1.2.2.2), 0) := by rw [<- h20]
          rw [goF_node h1 e h3 (by omega) rfl rfl] at h ⊢
          have il := goF_cnt f (fnd hash).1.2.2.1 over (fnd hash).1.1 (fnd hash).1.1 (cnt + 1) (by omega)
          split at h
          · rename_i q; exact absurd h q
          · rename_i q
            have il := il (by simpa using q)
            split at h
            · rename_i q2; exact absurd h q2
            · rename_i q2
              have ir := goF_cnt f (fnd hash).1.2.2.2 (fnd hash).1.1 under (fnd hash).1.1 _ il.2 (by simpa using q2)
              rw [if_neg q, if_neg q2]
              exact ⟨Nat.le_trans (Nat.le_trans (Nat.le_succ _) il.1) ir.1, ir.2⟩
     · rw [goF, if_neg (by rw [h1]; decide), if_neg h2, if_pos h20] at h; exact absurd h (by decide)
end
def BR (b : Nat) (hash over under : ByteArray) (par : Option Addr) (w : World) : Prop := w.heap[b]? = some (.cells #[.string hash, .string over, .string under, .pointer par, .string ⟨#[]⟩, .string ⟨#[]⟩, .string ⟨#[]⟩, .string ⟨#[]⟩, .pointer none, .pointer none] 166)
def BF (b : Nat) (hash over under : ByteArray) (par : Option Addr) (k v l r : ByteArray) (pl pr : Option Addr) (w : World) : Prop := w.heap[b]? = some (.cells #[.string hash, .string over, .string under, .pointer par, .string k, .string v, .string l, .string r, .pointer pl, .pointer pr] 166)
theorem emp_iff (s : ByteArray) : s.toList.isEmpty = emp s := by
 rw [ByteArray.toList_eq]
 unfold emp
 by_cases h : s.size = 0
 · rw [decide_eq_true h]
   have : s.data.toList.length = 0 := h
   rw [List.length_eq_zero_iff.1 this]; rfl
 · rw [decide_eq_false h]
   have : s.data.toList.length ≠ 0 := h
   cases hs : s.data.toList with
   | nil => rw [hs] at this; exact absurd rfl this
   | cons a b => rfl
theorem branchAt_none (over under : ByteArray) (par : Option Addr) (w : World) : Calls prog 151 #[.string ⟨#[]⟩, .agg #[.string over, .string under, .pointer par]] w fun e w' => e = .returned (.pointer none) /\ Below w.heap.size w w' := by
 have hb : Below w.heap.size w (w.alloc (.cells #[.string over, .string under, .pointer par] 164)) := (Below.refl _ _).alloc (Nat.le_refl _) _
 go_enter func151, ntmps151
 go_wp2_with fail
 go_ret
 exact ⟨rfl, hb⟩
theorem branchAt_some (hash over under : ByteArray) (par : Option Addr) (w : World) (hn : emp hash = false) : Calls prog 151 #[.string hash, .agg #[.string over, .string under, .pointer par]] w fun e w' => (∃ b, e = .returned (.pointer (some ⟨b, 0, none⟩)) /\ w.heap.size <= b /\ BR b hash over under par w') /\ Below w.heap.size w w' := by
 have hz : hash.toList.isEmpty = false := (emp_iff hash).trans hn
 have hb : Below w.heap.size w ((w.alloc (.cells #[.string over, .string under, .pointer par] 164)).alloc (.cells #[.string hash, .string over, .string under, .pointer par, .string ⟨#[]⟩, .string ⟨#[]⟩, .string ⟨#[]⟩, .string ⟨#[]⟩, .pointer none, .pointer none] 166)) := ((Below.refl _ _).alloc (Nat.le_refl _) _).alloc (by simp) _
 have nA := heap_alloc_new (w.alloc (.cells #[.string over, .string under, .pointer par] 164)) (.cells #[.string hash, .string over, .string under, .pointer par, .string ⟨#[]⟩, .string ⟨#[]⟩, .string ⟨#[]⟩, .string ⟨#[]⟩, .pointer none, .pointer none] 166)
 rw [World.size_alloc] at nA
 go_enter func151, ntmps151
 go_wp2_with fail
 go_ret
 exact ⟨⟨w.heap.size + 1, rfl, by omega, nA⟩, hb⟩
end Go.Proofs.YtfmpjlpakldheaaGreatDoor
