import Derived.Test.YtfmpjlpakldheaaGreatDoorZsas
import Derived.Test.YtfmpjlpakldheaaGreatDoorZpao
import Derived.Test.YtfmpjlpakldheaaGreatDoorZsac
set_option maxRecDepth 100000
set_option maxHeartbeats 8000000
namespace Go.Proofs.YtfmpjlpakldheaaGreatDoor
open Tryz
open Go.RowKit Go.Proofs.Sha
def DSGot (n : Int) (ss : List ByteArray) (ps : List PairT) (w : World) (e : Ending) (w' : World) : Prop := ∃ ap cp aq cq, e = .returned (.tuple #[.agg #[.int .i64 n, .slice ap ss.length cp], .slice aq ps.length cq]) /\ SArg ap ss w' /\ PArg aq ps w' /\ ps.length <= cq /\ Below w.heap.size w w'
theorem PArg.set37 {a : Option Addr} {ps : List PairT} {W : World} {g : Nat} {n : Int} {v : Option Addr} {m c : Nat} (hS : PArg a ps W) (h : W.heap[g]? = some (.cells #[.int .i64 n, .slice v m c] 37)) (o : Nat) (u : Value) : PArg a ps (W.setCell ⟨g, o, none⟩ u) :=
 hS.grown (grownBy_setCell W g o u) (fun b off e hp q => hS.pool h b off e hp (Option.some.inj q))
theorem AP.fin3 {w : World} {gr gq : Nat} {n : Int} {ss roots : List ByteArray} {ap : Option Addr} {cp : Nat} {ar : Option Addr} {W : World} (h : AP w gr gq n ss roots ap cp ar W) {aq : Option Addr} {cq : Nat} {ps : List PairT} (hp : PArg aq ps W) (hc : ps.length <= cq) : DSGot n ss ps w (.returned (.tuple #[.agg #[.int .i64 n, .slice ap ss.length cp], .slice aq ps.length cq])) ((W.setCell ⟨gr, 0, none⟩ (.int .i64 n)).setCell ⟨gr, 1, none⟩ (.slice ap ss.length cp)) := by
 have m0 := heap_setCell_same W gr 0 _ 37 (.int .i64 n) h.res
 exact ⟨ap, cp, aq, cq, rfl, (h.parg.set37 h.res _).set37 m0 _, (hp.set37 h.res _ _).set37 m0 _ _, hc, (h.bel.setCell (p := ⟨gr, 0, none⟩) h.ge _).setCell (p := ⟨gr, 1, none⟩) h.ge _⟩
theorem ds_low (a : Option Addr) (xs : List Nat) (cap x z zn zm : Nat) (n : Int) (ss roots : List ByteArray) (root : ByteArray) (L1 qs ms : List PairT) (cL : Int)
 (HT : ∀ w, BL a xs w -> Calls prog 41 #[.slice a xs.length cap, .int .i64 0, .int .i64 40] w fun e w' => e = .returned (.tuple #[.int .i64 (x : Int), .int .i64 1]) /\ Below w.heap.size w w')
 (HP : ∀ w, BL a xs w -> Calls prog 71 #[.slice a xs.length cap, .int .i64 1] w (AGot n ss roots root z w)) (hx : x < 30)
 (HL : ∀ w ap cp, SArg ap ss w -> Calls prog 26 #[.agg #[.int .i64 n, .slice ap ss.length cp], .string root] w (RangeAt (L1, cL) w)) (hL1 : SmQ L1 500)
 (HN : ∀ a3 c3 w, BL a xs w -> PArg a3 L1 w -> L1.length <= c3 -> Calls prog 44 #[.slice a xs.length cap, .int .i64 (z : Int), .slice a3 L1.length c3] w (PGot qs L1 zn a3 w))
 (HM : ∀ w, BL a xs w -> Calls prog 43 #[.slice a xs.length cap, .int .i64 (z : Int)] w (MGot ms zm w)) (ps : List PairT) (hps : ps = if x < 25 then qs else ms) :
 ∀ w, BL a xs w -> Calls prog 28 #[.slice a xs.length cap] w (DSGot n ss ps w) := by
 intro w hB
 have HT' : Hid (∀ w', Below w.heap.size w w' -> Calls prog 41 #[.slice a xs.length cap, .int .i64 0, .int .i64 40] w' fun e w'' => e = .returned (.tuple #[.int .i64 (x : Int), .int .i64 1]) /\ Below w'.heap.size w' w'') := fun w' hb => HT w' (hB.below hb)
 have HP' : Hid (∀ w', Below w.heap.size w w' -> Calls prog 71 #[.slice a xs.length cap, .int .i64 1] w' (AGot n ss roots root z w')) := fun w' hb => HP w' (hB.below hb)
 have HN' : Hid (∀ a3 c3 w', Below w.heap.size w w' -> PArg a3 L1 w' -> L1.length <= c3 -> Calls prog 44 #[.slice a xs.length cap, .int .i64 (z : Int), .slice a3 L1.length c3] w' (PGot qs L1 zn a3 w')) := fun a3 c3 w' hb => HN a3 c3 w' (hB.below hb)
 have HM' : Hid (∀ w', Below w.heap.size w w' -> Calls prog 43 #[.slice a xs.length cap, .int .i64 (z : Int)] w' (MGot ms zm w')) := fun w' hb => HM w' (hB.below hb)
 have HL' : Hid (∀ w' ap cp, SArg ap ss w' -> Calls prog 26 #[.agg #[.int .i64 n, .slice ap ss.length cp], .string root] w' fun e w'' => ∃ a' c', e = .returned (.tuple #[.slice a' L1.length c', .int .i64 cL]) /\ PArg a' L1 w'' /\ L1.length <= c' /\ Below w'.heap.size w' w'') := fun w' ap cp h => (HL w' ap cp h).mono (by
  rintro e w'' ⟨⟨a', c', rfl, ho⟩, hb⟩
  exact ⟨a', c', rfl, own_parg ho (hL1.small (by omega)), own2_le ho, hb⟩)
 unfold AGot at HP'
 unfold PGot at HN'
 unfold MGot at HM'
 clear HT HP HN HM HL hB
 obtain ⟨L, hLL⟩ : ∃ L, xs.length = L := ⟨_, rfl⟩
 rw [hLL] at HT' HP' HN' HM' ⊢
 clear hLL
 obtain ⟨N, hN⟩ : ∃ N, ss.length = N := ⟨_, rfl⟩
 rw [hN] at HP' HL'
 obtain ⟨R, hRn⟩ : ∃ R, roots.length = R := ⟨_, rfl⟩
 rw [hRn] at HP'
 obtain ⟨K1, hK1⟩ : ∃ R, L1.length = R := ⟨_, rfl⟩
 rw [hK1] at HL' HN'
 obtain ⟨K2, hK2⟩ : ∃ R, qs.length = R := ⟨_, rfl⟩
 rw [hK2] at HN'
 obtain ⟨K3, hK3⟩ : ∃ R, ms.length = R := ⟨_, rfl⟩
 rw [hK3] at HM'
 have hh : Hid _ := hps
 clear hps
 have hA : Below w.heap.size w (w.alloc (.cells #[.int .i64 0, .slice none 0 0] 37)) := (Below.refl _ _).alloc (Nat.le_refl _) _
 have nA := heap_alloc_new w (.cells #[.int .i64 0, .slice none 0 0] 37)
 have hgw : w.heap.size <= w.heap.size := Nat.le_refl _
 have z39 : ((x : Int) == 39) = false := by simp; omega
 have z30 : decide ((30 : Int) <= (x : Int)) = false := by simp; omega
 have z30' : decide (30 <= x) = false := by simp; omega
 go_enter func28, ntmps28
 go_upto_region 1 with fail
 generalize w.alloc (.cells #[.int .i64 0, .slice none 0 0] 37) = wA at hA nA ⊢
 obtain ⟨gr, hgr⟩ : ∃ g, w.heap.size = g := ⟨_, rfl⟩
 have hgl : w.heap.size <= gr := Nat.le_of_eq hgr
 rw [hgr] at nA
 try rw [hgr]
 clear hgr hgw
 go_upto_region 2 with (first | (go_at_call 41; refine (HT'.out _ hA).mono ?_; rintro e w1 ⟨rfl, hb1⟩; have hbw1 := hA.trans (hb1.mono hA.size)))
 have nB := pblk_below hb1 nA
 go_upto_region 17 with fail
 go_upto_region 18 with (first | (go_at_call 71; refine (HP'.out _ hbw1).mono ?_; rintro e w2 ⟨ap, cp, ar, cr, rfl, hS2, hR2, hb2⟩))
 have al : Below w2.heap.size w2 (w2.alloc (.cells #[.int .i64 n, .slice ap N cp] 37)) := (Below.refl _ _).alloc (Nat.le_refl _) _
 have hbw2 := hbw1.trans (hb2.mono hbw1.size)
 have nC := pblk_below hb2 nB
 have hAP : AP w gr w2.heap.size n ss roots ap cp ar (w2.alloc (.cells #[.int .i64 n, .slice ap N cp] 37)) := by
  refine ⟨pblk_below al nC, by rw [hN]; exact heap_alloc_new w2 _, ?_, hgl, hbw2.size, hS2.below al, hR2.below al, hbw2.trans (al.mono hbw2.size)⟩
  have := (Array.getElem?_eq_some_iff.1 nC).1
  omega
 generalize w2.alloc (.cells #[.int .i64 n, .slice ap N cp] 37) = w3 at hAP ⊢
 obtain ⟨gq, hgq⟩ : ∃ g, w2.heap.size = g := ⟨_, rfl⟩
 rw [hgq] at hAP
 try rw [hgq]
 clear hgq al hS2 hR2 hb2 nC nB nA hb1 hbw1 hbw2 hA HT' HP'
 by_cases h25 : x < 25
 · have z25 : decide ((x : Int) < 25) = true := by simp; omega
   have z25' : decide (x < 25) = true := by simp; omega
   have hps2 : Hid (ps = qs) := by show _ = _; rw [hh.out, if_pos h25]
   clear hx h25 hh
   have c0 := ZC hAP.pool 0
   have c1 := ZC hAP.pool 1
   rw [hN] at c0 c1
   go_upto_region 20 with (first | (go_at_call 26; refine (HL'.out _ _ _ hAP.parg).mono ?_; rintro e w4 ⟨al, cl, rfl, hP4, hc4, hb4⟩))
   have hA4 := hAP.below hb4
   clear hAP c0 c1
   go_upto_region 21 with (first | (go_at_call 44; refine (HN'.out _ _ _ hA4.bel hP4 hc4).mono ?_; rintro e w5 ⟨aq, cq, rfl, hP5, hc5, hnn, hb5⟩))
   have hA5 := hA4.below hb5
   have c0 := ZC hA5.pool 0
   have c1 := ZC hA5.pool 1
   rw [hN] at c0 c1
   have hfin : Hid (DSGot _ ss qs w _ _) := hA5.fin3 hP5 (by rw [hK2]; exact hc5)
   have m1 := hA5.m1
   rw [hN, hK2] at hfin
   rw [hN] at m1
   have e0 := ZC hA5.res 0
   have e1 := ZC hA5.res 1
   have ef : ∀ j, w5.frozen? ⟨gr, j, none⟩ = false := fun j => by rw [World.frozen?, hA5.res]; rfl
   clear hA4 hA5 hb4 hP4 hb5 hP5 hnn
   go_wp2_with fail
   exact retPT2 Tryz.results28 rfl rfl rfl m1 (by rw [hps2.out]; exact hfin.out)
 · have z25 : decide ((x : Int) < 25) = false := by simp; omega
   have z25' : decide (x < 25) = false := by simp; omega
   have hps2 : Hid (ps = ms) := by show _ = _; rw [hh.out, if_neg h25]
   clear hx h25 hh
   go_upto_region 23 with (first | (go_at_call 43; refine (HM'.out _ hAP.bel).mono ?_; rintro e w4 ⟨aq, cq, rfl, hP4, hc4, hb4⟩))
   have hA4 := hAP.below hb4
   have c0 := ZC hA4.pool 0
   have c1 := ZC hA4.pool 1
   rw [hN] at c0 c1
   have hfin : Hid (DSGot _ ss ms w _ _) := hA4.fin3 hP4 (by rw [hK3]; exact hc4)
   have m1 := hA4.m1
   rw [hN, hK3] at hfin
   rw [hN] at m1
   have e0 := ZC hA4.res 0
   have e1 := ZC hA4.res 1
   have ef : ∀ j, w4.frozen? ⟨gr, j, none⟩ = false := fun j => by rw [World.frozen?, hA4.res]; rfl
   clear hA4 hAP hb4 hP4
   go_wp2_with fail
   exact retPT2 Tryz.results28 rfl rfl rfl m1 (by rw [hps2.out]; exact hfin.out)
def junkT (y i : Nat) : ByteArray := (⟨#[106, 117, 110, 107]⟩ : ByteArray) ++ byteS i ++ byteS y
def fillT (f : Nat -> ByteArray) : Nat -> List ByteArray
 | 0 => []
 | k + 1 => fillT f k ++ [f k]
theorem fillT_len (f : Nat -> ByteArray) : ∀ k, (fillT f k).length = k
 | 0 => rfl
 | k + 1 => by rw [fillT, List.length_append, fillT_len f k]; rfl
theorem fillT_sm {f : Nat -> ByteArray} {s : Nat} (h : ∀ i, (f i).size <= s) : ∀ k, SmT (fillT f k) k s
 | 0 => ⟨Nat.le_refl _, fun x hx => by cases hx⟩
 | k + 1 => (fillT_sm h k).app (m := 1) ⟨Nat.le_refl _, fun x hx => by rw [List.mem_singleton.1 hx]; exact h k⟩
theorem junkT_size (y i : Nat) : (junkT y i).size = 6 := by
 unfold junkT
 rw [ByteArray.size_append, ByteArray.size_append]
 rfl
structure FP (w : World) (gr gq : Nat) (n : Int) (ss : List ByteArray) (a : Option Addr) (c : Nat) (W : World) : Prop where
 res : W.heap[gr]? = some (.cells #[.int .i64 0, .slice none 0 0] 37)
 pool : W.heap[gq]? = some (.cells #[.int .i64 n, .slice a ss.length c] 37)
 ne : gr ≠ gq
 ge : w.heap.size <= gr
 ge2 : w.heap.size <= gq
 own : OwnT w ss a ss.length c W
section
variable {w : World} {gr gq : Nat} {n : Int} {ss : List ByteArray} {a : Option Addr} {c : Nat} {W W' : World}
theorem FP.below (h : FP w gr gq n ss a c W) (hb : Below W.heap.size W W') : FP w gr gq n ss a c W' :=
 ⟨pblk_below hb h.res, pblk_below hb h.pool, h.ne, h.ge, h.ge2, h.own.below hb⟩
theorem FP.lt (h : FP w gr gq n ss a c W) : gq < W.heap.size := (Array.getElem?_eq_some_iff.1 h.pool).1
theorem FP.notOwn (h : FP w gr gq n ss a c W) {q : Nat} {cs : Array Value} (hq : W.heap[q]? = some (.cells cs 37)) : some q ≠ (Value.slice a ss.length c).ownBlock := fun e => by
 obtain ⟨_, _, cur, h9⟩ := ownG_cells h.own.own e.symm
 rw [hq] at h9
 simp at h9
theorem FP.ap (h : FP w gr gq n ss a c W) {m s : Nat} (hs : SmT ss m s) (hm : m <= 1048576) (hz : s <= 1048576) : AP w gr gq n ss [] a c none W :=
 ⟨h.res, h.pool, h.ne, h.ge, h.ge2, h.own.sarg hs hm hz, ⟨Nat.zero_le _, fun _ => Nat.zero_le _, fun h => absurd h (Nat.lt_irrefl _)⟩, h.own.bel⟩
theorem FP.more (h : FP w gr gq n ss a c W) {w4 : World} {o : Obj} {g4 c4 : Nat} {v : ByteArray} (hown : w4.ownsRow w.heap.size 9 1 (.slice (some ⟨g4, 0, none⟩) (ss.length + 1) c4) (ss.length + 1) (ss.map Value.string ++ [.string v])) (hgrow : (W.alloc o).grownBy w4 (Value.slice a ss.length c).ownBlock) :
 w4.heap[gq]? = some (.cells #[.int .i64 n, .slice a ss.length c] 37) /\ FP w gr gq n (ss ++ [v]) (some ⟨g4, 0, none⟩) c4 (w4.setCell ⟨gq, 1, none⟩ (.slice (some ⟨g4, 0, none⟩) (ss.length + 1) c4)) := by
 have hlen : (ss ++ [v]).length = ss.length + 1 := by rw [List.length_append]; rfl
 have hblk : ∀ {q : Nat} {cs : Array Value}, W.heap[q]? = some (Obj.cells cs 37) -> w4.heap[q]? = some (Obj.cells cs 37) := fun {q cs} hq => by
  have hl := (Array.getElem?_eq_some_iff.1 hq).1
  exact (hgrow.block q (by simp; omega) (h.notOwn hq)).trans ((Below.heap_alloc W o q hl).trans hq)
 have hT := h.own.more hown hgrow rfl
 refine ⟨hblk h.pool, (Below.heap_setCell _ _ _ _ (by show gr ≠ gq; exact h.ne)).trans (hblk h.res), ?_, h.ne, h.ge, h.ge2, ?_⟩
 · rw [hlen]
   exact heap_setCell_same w4 gq 1 _ 37 _ (hblk h.pool)
 · rw [hlen]
   exact hT.set (hblk h.pool) h.ge2 _
end
theorem ds_junk (a : Option Addr) (xs : List Nat) (cap x y zm : Nat) (ms : List PairT)
 (HT : ∀ w, BL a xs w -> Calls prog 41 #[.slice a xs.length cap, .int .i64 0, .int .i64 40] w fun e w' => e = .returned (.tuple #[.int .i64 (x : Int), .int .i64 1]) /\ Below w.heap.size w w')
 (HT2 : ∀ w, BL a xs w -> Calls prog 41 #[.slice a xs.length cap, .int .i64 1, .int .i64 40] w fun e w' => e = .returned (.tuple #[.int .i64 (y : Int), .int .i64 2]) /\ Below w.heap.size w w') (hx : 30 <= x) (hx2 : x < 39) (hy : y < 40)
 (HM : ∀ w, BL a xs w -> Calls prog 43 #[.slice a xs.length cap, .int .i64 2] w (MGot ms zm w)) :
 ∀ w, BL a xs w -> Calls prog 28 #[.slice a xs.length cap] w (DSGot 1 (fillT (junkT y) (10 + y)) ms w) := by
 intro w hB
 have HT' : Hid (∀ w', Below w.heap.size w w' -> Calls prog 41 #[.slice a xs.length cap, .int .i64 0, .int .i64 40] w' fun e w'' => e = .returned (.tuple #[.int .i64 (x : Int), .int .i64 1]) /\ Below w'.heap.size w' w'') := fun w' hb => HT w' (hB.below hb)
 have HT2' : Hid (∀ w', Below w.heap.size w w' -> Calls prog 41 #[.slice a xs.length cap, .int .i64 1, .int .i64 40] w' fun e w'' => e = .returned (.tuple #[.int .i64 (y : Int), .int .i64 2]) /\ Below w'.heap.size w' w'') := fun w' hb => HT2 w' (hB.below hb)
 have HM' : Hid (∀ w', Below w.heap.size w w' -> Calls prog 43 #[.slice a xs.length cap, .int .i64 2] w' (MGot ms zm w')) := fun w' hb => HM w' (hB.below hb)
 unfold MGot at HM'
 clear HT HT2 HM hB
 obtain ⟨L, hLL⟩ : ∃ L, xs.length = L := ⟨_, rfl⟩
 rw [hLL] at HT' HT2' HM' ⊢
 clear hLL
 obtain ⟨K3, hK3⟩ : ∃ R, ms.length = R := ⟨_, rfl⟩
 rw [hK3] at HM'
 obtain ⟨M, hM⟩ : ∃ M, 10 + y = M := ⟨_, rfl⟩
 rw [hM]
 have y1 : IntKind.i64.wrap ((10 : Int) + (y : Int)) = (M : Int) := by rw [wrap_i64_in _ (by omega) (by omega)]; omega
 have hMl : M <= 50 := by omega
 obtain ⟨i0, hi0, hz0, hz1, hz2⟩ := info_parts2 info9
 have hA : Below w.heap.size w (w.alloc (.cells #[.int .i64 0, .slice none 0 0] 37)) := (Below.refl _ _).alloc (Nat.le_refl _) _
 have nA := heap_alloc_new w (.cells #[.int .i64 0, .slice none 0 0] 37)
 have hgw : w.heap.size <= w.heap.size := Nat.le_refl _
 have z39 : ((x : Int) == 39) = false := by simp; omega
 have z30 : decide ((30 : Int) <= (x : Int)) = true := by simp; omega
 have z30' : decide (30 <= x) = true := by simp; omega
 clear hx hx2 hM
 go_enter func28, ntmps28
 go_upto_region 1 with fail
 generalize w.alloc (.cells #[.int .i64 0, .slice none 0 0] 37) = wA at hA nA ⊢
 obtain ⟨gr, hgr⟩ : ∃ g, w.heap.size = g := ⟨_, rfl⟩
 have hgl : w.heap.size <= gr := Nat.le_of_eq hgr
 rw [hgr] at nA
 try rw [hgr]
 clear hgr hgw
 go_upto_region 2 with (first | (go_at_call 41; refine (HT'.out _ hA).mono ?_; rintro e w1 ⟨rfl, hb1⟩; have hbw1 := hA.trans (hb1.mono hA.size)))
 have nB := pblk_below hb1 nA
 go_upto_region 9 with fail
 go_upto_region 10 with (first | (go_at_call 41; refine (HT2'.out _ hbw1).mono ?_; rintro e w2 ⟨rfl, hb2⟩; have hbw2 := hbw1.trans (hb2.mono hbw1.size)))
 have nC := pblk_below hb2 nB
 go_upto_region 11 with fail
 have al : Below w2.heap.size w2 (w2.alloc (.cells #[.int .i64 1, .slice none 0 0] 37)) := (Below.refl _ _).alloc (Nat.le_refl _) _
 have hbw3 := hbw2.trans (al.mono hbw2.size)
 have hF0 : FP w gr w2.heap.size 1 [] none 0 (w2.alloc (.cells #[.int .i64 1, .slice none 0 0] 37)) := by
  refine ⟨pblk_below al nC, heap_alloc_new w2 _, ?_, hgl, hbw2.size, OwnT.nil hbw3⟩
  have := (Array.getElem?_eq_some_iff.1 nC).1
  omega
 generalize w2.alloc (.cells #[.int .i64 1, .slice none 0 0] 37) = w3 at hF0 ⊢
 obtain ⟨gq, hgq⟩ : ∃ g, w2.heap.size = g := ⟨_, rfl⟩
 rw [hgq] at hF0
 try rw [hgq]
 clear hgq al hbw3 hbw2 hb2 hb1 hbw1 nA nB nC hA HT' HT2'
 go_wp2_with fail
 go_loopw [12] (fun t12 wr => ∃ k : Nat, k <= M /\ t12 = .int .i64 (k : Int) /\ ∃ (a' : Option Addr) (c' : Nat), FP w gr gq 1 (fillT (junkT y) k) a' c' wr) (fun t12 _ => M - (intOf t12).toNat)
 case atStart => exact ⟨0, Nat.zero_le _, rfl, _, _, hF0⟩
 case round =>
  clear hF0
  obtain ⟨k, hk, rfl, a', c', hF⟩ := hrel
  by_cases hlt : k < M
  · have z1 : decide ((k : Int) < (M : Int)) = true := by simp; omega
    have H1 : Hid (∀ w', Calls prog 78 #[.int .i64 (k : Int)] w' fun e w'' => e = .returned (.string (byteS k)) /\ Below w'.heap.size w' w'') := fun w' => byte_any k (by omega) w'
    have H2 : Hid (∀ w', Calls prog 78 #[.int .i64 (y : Int)] w' fun e w'' => e = .returned (.string (byteS y)) /\ Below w'.heap.size w' w'') := fun w' => byte_any y (by omega) w'
    have hcr : Hid (junkT y k = (⟨#[106, 117, 110, 107]⟩ : ByteArray) ++ byteS k ++ byteS y) := rfl
    obtain ⟨t1, ht1⟩ : ∃ t, byteS k = t := ⟨_, rfl⟩
    obtain ⟨t2, ht2⟩ : ∃ t, byteS y = t := ⟨_, rfl⟩
    have hs1 : t1.size = 1 := by rw [<- ht1]; rfl
    have hs2 : t2.size = 1 := by rw [<- ht2]; rfl
    rw [ht1] at H1 hcr
    rw [ht2] at H2 hcr
    have hl4 : (⟨#[106, 117, 110, 107]⟩ : ByteArray).size = 4 := rfl
    have hy1 : ¬ (9223372036854775807 < (⟨#[106, 117, 110, 107]⟩ : ByteArray).size + t1.size) := by omega
    have hy1' : ¬ (9223372036854775807 < 4 + t1.size) := by omega
    have hy2 : ¬ (9223372036854775807 < (⟨#[106, 117, 110, 107]⟩ : ByteArray).size + t1.size + t2.size) := by omega
    have hy2' : ¬ (9223372036854775807 < 4 + t1.size + t2.size) := by omega
    clear ht1 ht2 hs1 hs2 hl4
    have hXl := fillT_len (junkT y) k
    have hXs : Hid (fillT (junkT y) (k + 1) = fillT (junkT y) k ++ [junkT y k]) := rfl
    rw [hcr.out] at hXs
    obtain ⟨X, hX⟩ : ∃ X, fillT (junkT y) k = X := ⟨_, rfl⟩
    rw [hX] at hF hXs hXl
    have hXm : X.length <= 50 := by omega
    clear hX hXl hcr
    go_upto_region 14 with fail
    have hFd := hF.below (Below.refl wr.heap.size wr).drew
    have cd := ZC hFd.pool 1
    clear hF
    go_region_law (first
     | (refine step_append_lies _ (by rfl) (.tmp 79) (.tmp 86) 35 (by rfl) w.heap.size 9 i0 (.string ⟨#[]⟩) 1 16 Tryz.underlying35 hi0 hz0 hz1 hz2 (by rfl) (by decide) (.slice a' X.length c') X.length (X.map Value.string) (by rfl) (own5.alloc _) ⟨w5.heap.size, 0, none⟩ 1 1 [.string ((⟨#[106, 117, 110, 107]⟩ : ByteArray) ++ t1 ++ t2)] (by rfl) (by rfl) (World.news_of_block (heap_alloc_new w5 _)) (by simp [Value.oneCell']) (by decide) (by unfold maxLen; omega) (by omega) (by simp; omega) (w5.heap.size + 1) (by simp) ?_; intro g6 c6 w6 hown6 hgrow6 hat6 hlt6; obtain ⟨hlb6, hF6⟩ := hF5.more hown6 hgrow6; have k1 := ZC hlb6 1; have f1 : w6.frozen? ⟨gq, 1, none⟩ = false := by rw [World.frozen?, hlb6]; rfl)
     | (go_simp; go_at_call_of 78 (Value.int .i64 (k : Int)); refine (H1.out _).mono ?_; rintro e w4 ⟨rfl, hb4⟩; have hF4 := hFd.below hb4; have cd4 := ZC hF4.pool 1)
     | (go_simp; go_at_call_of 78 (Value.int .i64 (y : Int)); refine (H2.out _).mono ?_; rintro e w5 ⟨rfl, hb5⟩; have hF5 := hF4.below hb5; have own5 := hF5.own.own; have hbs5 := hF5.own.bel.size; have hgl5 := hF5.lt; have cd5 := ZC hF5.pool 1; have cd6 : ∀ o, (w5.alloc o).cell? ⟨gq, 1, none⟩ = some (.slice a' X.length c') := fun o => (World.cell?_alloc_lt _ _ _ (by show gq < _; exact hgl5)).trans cd5))
    all_goals
     go_wp2_with fail
     go_roundw
     case rel => exact ⟨k + 1, hlt, by go_num, _, _, by rw [hXs.out]; exact hF6⟩
     case measure => simp [intOf]; omega
  · obtain rfl : k = M := by omega
    have z1 : decide ((k : Int) < (k : Int)) = false := by simp
    have hsm : SmT (fillT (junkT y) k) k 6 := fillT_sm (fun i => Nat.le_of_eq (junkT_size y i)) k
    obtain ⟨X, hX⟩ : ∃ X, fillT (junkT y) k = X := ⟨_, rfl⟩
    rw [hX] at hF hsm
    have hXh : Hid (fillT (junkT y) k = X) := hX
    clear hX
    have hAP := hF.ap hsm (by omega) (by omega)
    clear hF
    go_upto_region 16 with (first | (go_at_call 43; refine (HM'.out _ hAP.bel).mono ?_; rintro e w4 ⟨aq, cq, rfl, hP4, hc4, hb4⟩))
    have hA4 := hAP.below hb4
    have c0 := ZC hA4.pool 0
    have c1 := ZC hA4.pool 1
    have hfin : Hid (DSGot _ X ms w _ _) := hA4.fin3 hP4 (by rw [hK3]; exact hc4)
    have m1 := hA4.m1
    rw [hK3] at hfin
    have e0 := ZC hA4.res 0
    have e1 := ZC hA4.res 1
    have ef : ∀ j, w4.frozen? ⟨gr, j, none⟩ = false := fun j => by rw [World.frozen?, hA4.res]; rfl
    clear hA4 hAP hb4 hP4
    go_wp2_with fail
    exact retPT2 Tryz.results28 rfl rfl rfl m1 (by rw [hXh.out]; exact hfin.out)
def twoT (i : Nat) : ByteArray := byteS (i % 256) ++ byteS (i / 256)
theorem twoT_size (i : Nat) : (twoT i).size = 2 := by
 unfold twoT
 rw [ByteArray.size_append]
 rfl
def lenAt (w : World) (g : Nat) : Nat := match w.cell? ⟨g, 1, none⟩ with
 | some (.slice _ n _) => n
 | _ => 0
theorem FP.lenAt {w : World} {gr gq : Nat} {n : Int} {ss : List ByteArray} {a : Option Addr} {c : Nat} {W : World} (h : FP w gr gq n ss a c W) : lenAt W gq = ss.length := by
 unfold Go.Proofs.YtfmpjlpakldheaaGreatDoor.lenAt
 rw [ZC h.pool 1]
 rfl
theorem ds_full (a : Option Addr) (xs : List Nat) (cap x y : Nat)
 (HT : ∀ w, BL a xs w -> Calls prog 41 #[.slice a xs.length cap, .int .i64 0, .int .i64 40] w fun e w' => e = .returned (.tuple #[.int .i64 (x : Int), .int .i64 1]) /\ Below w.heap.size w w')
 (HT2 : ∀ w, BL a xs w -> Calls prog 41 #[.slice a xs.length cap, .int .i64 1, .int .i64 3] w fun e w' => e = .returned (.tuple #[.int .i64 (y : Int), .int .i64 2]) /\ Below w.heap.size w w') (hx : x = 39) (hy : y < 3) :
 ∀ w, BL a xs w -> Calls prog 28 #[.slice a xs.length cap] w (DSGot 6 (fillT twoT 19999) (crowd (y + 1)) w) := by
 intro w hB
 have HT' : Hid (∀ w', Below w.heap.size w w' -> Calls prog 41 #[.slice a xs.length cap, .int .i64 0, .int .i64 40] w' fun e w'' => e = .returned (.tuple #[.int .i64 (x : Int), .int .i64 1]) /\ Below w'.heap.size w' w'') := fun w' hb => HT w' (hB.below hb)
 have HT2' : Hid (∀ w', Below w.heap.size w w' -> Calls prog 41 #[.slice a xs.length cap, .int .i64 1, .int .i64 3] w' fun e w'' => e = .returned (.tuple #[.int .i64 (y : Int), .int .i64 2]) /\ Below w'.heap.size w' w'') := fun w' hb => HT2 w' (hB.below hb)
 clear HT HT2 hB
 obtain ⟨L, hLL⟩ : ∃ L, xs.length = L := ⟨_, rfl⟩
 rw [hLL] at HT' HT2' ⊢
 clear hLL
 have y1 : IntKind.i64.wrap ((y : Int) + 1) = ((y + 1 : Nat) : Int) := by rw [wrap_i64_in _ (by omega) (by omega)]; omega
 obtain ⟨i0, hi0, hz0, hz1, hz2⟩ := info_parts2 info9
 have hA : Below w.heap.size w (w.alloc (.cells #[.int .i64 0, .slice none 0 0] 37)) := (Below.refl _ _).alloc (Nat.le_refl _) _
 have nA := heap_alloc_new w (.cells #[.int .i64 0, .slice none 0 0] 37)
 have hgw : w.heap.size <= w.heap.size := Nat.le_refl _
 have z39 : ((x : Int) == 39) = true := by simp; omega
 clear hx
 go_enter func28, ntmps28
 go_upto_region 1 with fail
 generalize w.alloc (.cells #[.int .i64 0, .slice none 0 0] 37) = wA at hA nA ⊢
 obtain ⟨gr, hgr⟩ : ∃ g, w.heap.size = g := ⟨_, rfl⟩
 have hgl : w.heap.size <= gr := Nat.le_of_eq hgr
 rw [hgr] at nA
 try rw [hgr]
 clear hgr hgw
 go_upto_region 2 with (first | (go_at_call 41; refine (HT'.out _ hA).mono ?_; rintro e w1 ⟨rfl, hb1⟩; have hbw1 := hA.trans (hb1.mono hA.size)))
 have nB := pblk_below hb1 nA
 go_upto_region 3 with fail
 go_upto_region 4 with (first | (go_at_call 41; refine (HT2'.out _ hbw1).mono ?_; rintro e w2 ⟨rfl, hb2⟩; have hbw2 := hbw1.trans (hb2.mono hbw1.size)))
 have nC := pblk_below hb2 nB
 have al : Below w2.heap.size w2 (w2.alloc (.cells #[.int .i64 6, .slice none 0 0] 37)) := (Below.refl _ _).alloc (Nat.le_refl _) _
 have hbw3 := hbw2.trans (al.mono hbw2.size)
 have hF0 : FP w gr w2.heap.size 6 [] none 0 (w2.alloc (.cells #[.int .i64 6, .slice none 0 0] 37)) := by
  refine ⟨pblk_below al nC, heap_alloc_new w2 _, ?_, hgl, hbw2.size, OwnT.nil hbw3⟩
  have := (Array.getElem?_eq_some_iff.1 nC).1
  omega
 go_wp2_with fail
 generalize w2.alloc (.cells #[.int .i64 6, .slice none 0 0] 37) = w3 at hF0 ⊢
 obtain ⟨gq, hgq⟩ : ∃ g, w2.heap.size = g := ⟨_, rfl⟩
 rw [hgq] at hF0
 try rw [hgq]
 clear hgq al hbw3 hbw2 hb2 hb1 hbw1 nA nB nC hA HT' HT2'
 have HCr : Hid (∀ w', Calls prog 60 #[.int .i64 ((y + 1 : Nat) : Int)] w' fun e w'' => ∃ aq cq, e = .returned (.slice aq (y + 1) cq) /\ PArg aq (crowd (y + 1)) w'' /\ y + 1 <= cq /\ Below w'.heap.size w' w'') := fun w' => (crowd_any (y + 1) (by omega) w').mono (by
  rintro e w'' ⟨aq, cq, rfl, hO⟩
  exact ⟨aq, cq, by rw [crowd_len], ownp_parg hO ((crowd_sm (y + 1)).small (by omega)), by have := own2_le hO.own; rw [crowd_len] at this; exact this, hO.bel⟩)
 have hcl : Hid ((crowd (y + 1)).length = y + 1) := crowd_len (y + 1)
 obtain ⟨Y, hY⟩ : ∃ Y, y + 1 = Y := ⟨_, rfl⟩
 rw [hY] at HCr y1 hcl
 obtain ⟨CR, hCR⟩ : ∃ C, crowd Y = C := ⟨_, rfl⟩
 rw [hCR] at HCr hcl
 have hCRh : Hid (crowd Y = CR) := hCR
 clear hCR
 have hYh : Hid (y + 1 = Y) := hY
 clear hY
 go_loopw [58] (fun _ wr => ∃ (k : Nat) (a' : Option Addr) (c' : Nat), k <= 19999 /\ FP w gr gq 6 (fillT twoT k) a' c' wr) (fun _ wr => 19999 - lenAt wr gq)
 case atStart => exact ⟨0, _, _, Nat.zero_le _, hF0⟩
 case round =>
  clear hF0
  obtain ⟨k, a', c', hk, hF⟩ := hrel
  have hlm := hF.lenAt
  have hXl := fillT_len twoT k
  by_cases hlt : k < 19999
  · have hcr : Hid (twoT k = byteS (k % 256) ++ byteS (k / 256)) := rfl
    have hXs : Hid (fillT twoT (k + 1) = fillT twoT k ++ [twoT k]) := rfl
    rw [hcr.out] at hXs
    obtain ⟨X, hX⟩ : ∃ X, fillT twoT k = X := ⟨_, rfl⟩
    rw [hX] at hF hXs hXl hlm
    clear hX hcr
    subst hXl
    have z1 : decide ((X.length : Int) < 19999) = true := by simp; omega
    have z1' : decide (X.length < 19999) = true := by simp; omega
    have ym : (X.length : Int).tmod 256 = ((X.length % 256 : Nat) : Int) := by rw [Int.tmod_eq_emod_of_nonneg (by omega)]; omega
    have yq : (X.length : Int).tdiv 256 = ((X.length / 256 : Nat) : Int) := by rw [Int.tdiv_eq_ediv_of_nonneg (by omega)]; omega
    have H1 : Hid (∀ w', Calls prog 78 #[.int .i64 ((X.length % 256 : Nat) : Int)] w' fun e w'' => e = .returned (.string (byteS (X.length % 256))) /\ Below w'.heap.size w' w'') := fun w' => byte_any _ (by omega) w'
    have H2 : Hid (∀ w', Calls prog 78 #[.int .i64 ((X.length / 256 : Nat) : Int)] w' fun e w'' => e = .returned (.string (byteS (X.length / 256))) /\ Below w'.heap.size w' w'') := fun w' => byte_any _ (by omega) w'
    have hr2 : X.length / 256 <= 100 := by omega
    obtain ⟨r1, hr1⟩ : ∃ r, X.length % 256 = r := ⟨_, rfl⟩
    obtain ⟨r2, hr2'⟩ : ∃ r, X.length / 256 = r := ⟨_, rfl⟩
    rw [hr1] at ym H1 hXs
    rw [hr2'] at yq H2 hXs hr2
    have yw : IntKind.i64.wrap (r2 : Int) = (r2 : Int) := wrap_i64_in _ (by omega) (by omega)
    clear hr1 hr2'
    obtain ⟨t1, ht1⟩ : ∃ t, byteS r1 = t := ⟨_, rfl⟩
    obtain ⟨t2, ht2⟩ : ∃ t, byteS r2 = t := ⟨_, rfl⟩
    have hs1 : t1.size = 1 := by rw [<- ht1]; rfl
    have hs2 : t2.size = 1 := by rw [<- ht2]; rfl
    rw [ht1] at H1 hXs
    rw [ht2] at H2 hXs
    have hy1 : ¬ (9223372036854775807 < t1.size + t2.size) := by omega
    clear ht1 ht2 hs1 hs2
    have c0 := ZC hF.pool 1
    go_upto_region 6 with fail
    have hFd := hF.below (Below.refl wr.heap.size wr).drew
    have cd := ZC hFd.pool 1
    clear hF c0
    go_region_law (first
     | (refine step_append_lies _ (by rfl) (.tmp 44) (.tmp 56) 35 (by rfl) w.heap.size 9 i0 (.string ⟨#[]⟩) 1 16 Tryz.underlying35 hi0 hz0 hz1 hz2 (by rfl) (by decide) (.slice a' X.length c') X.length (X.map Value.string) (by rfl) (own5.alloc _) ⟨w5.heap.size, 0, none⟩ 1 1 [.string (t1 ++ t2)] (by rfl) (by rfl) (World.news_of_block (heap_alloc_new w5 _)) (by simp [Value.oneCell']) (by decide) (by unfold maxLen; omega) (by omega) (by simp; omega) (w5.heap.size + 1) (by simp) ?_; intro g6 c6 w6 hown6 hgrow6 hat6 hlt6; obtain ⟨hlb6, hF6⟩ := hF5.more hown6 hgrow6; have k1 := ZC hlb6 1; have f1 : w6.frozen? ⟨gq, 1, none⟩ = false := by rw [World.frozen?, hlb6]; rfl)
     | (go_simp; go_at_call_of 78 (Value.int .i64 (r1 : Int)); refine (H1.out _).mono ?_; rintro e w4 ⟨rfl, hb4⟩; have hF4 := hFd.below hb4; have cd4 := ZC hF4.pool 1)
     | (go_simp; go_at_call_of 78 (Value.int .i64 (r2 : Int)); refine (H2.out _).mono ?_; rintro e w5 ⟨rfl, hb5⟩; have hF5 := hF4.below hb5; have own5 := hF5.own.own; have hbs5 := hF5.own.bel.size; have hgl5 := hF5.lt; have cd5 := ZC hF5.pool 1; have cd6 : ∀ o, (w5.alloc o).cell? ⟨gq, 1, none⟩ = some (.slice a' X.length c') := fun o => (World.cell?_alloc_lt _ _ _ (by show gq < _; exact hgl5)).trans cd5))
    all_goals
     have hlm6 := hF6.lenAt
     go_wp2_with fail
     go_roundw
     case rel => exact ⟨X.length + 1, _, _, hlt, by rw [hXs.out]; exact hF6⟩
     case measure =>
      rw [hlm6, hlm, List.length_append]
      show 19999 - (X.length + 1) < 19999 - X.length
      omega
  · obtain rfl : k = 19999 := by omega
    have hsm : SmT (fillT twoT 19999) 19999 2 := fillT_sm (fun i => Nat.le_of_eq (twoT_size i)) 19999
    obtain ⟨X, hX⟩ : ∃ X, fillT twoT 19999 = X := ⟨_, rfl⟩
    rw [hX] at hF hsm hXl
    have hXh : Hid (fillT twoT 19999 = X) := hX
    clear hX hlm
    have z1 : decide ((X.length : Int) < 19999) = false := by simp; omega
    have z1' : decide (X.length < 19999) = false := by simp; omega
    have hAP := hF.ap hsm (by omega) (by omega)
    clear hF
    have hXlh : Hid (X.length = 19999) := hXl
    clear hXl
    have c0 := ZC hAP.pool 0
    have c1 := ZC hAP.pool 1
    clear c0 c1
    have c1 := ZC hAP.pool 1
    go_upto_region 7 with fail
    have hAd := hAP.below (Below.refl wr.heap.size wr).drew
    clear hAP c1
    have c0 := ZC hAd.pool 0
    have c1 := ZC hAd.pool 1
    go_region_law (first
     | (go_simp; go_at_call 60; refine (HCr.out _).mono ?_; rintro e w4 ⟨aq, cq, rfl, hP4, hc4, hb4⟩; have hA4 := hAd.below hb4; have d0 := ZC hA4.pool 0; have d1 := ZC hA4.pool 1; have e0 := ZC hA4.res 0; have e1 := ZC hA4.res 1; have ef : ∀ j, w4.frozen? ⟨gr, j, none⟩ = false := fun j => by rw [World.frozen?, hA4.res]; rfl))
    all_goals
     have hfin : Hid (DSGot _ X CR w _ _) := hA4.fin3 hP4 (by rw [hcl.out]; exact hc4)
     have m1 := hA4.m1
     rw [hcl.out] at hfin
     clear hA4 hAd hb4 hP4
     go_wp2_with fail
     exact retPT2 Tryz.results28 rfl rfl rfl m1 (by rw [hXh.out, hYh.out, hCRh.out]; exact hfin.out)
theorem idig_any (q : ByteArray) (m : Nat) (w : World) (hq : q.size <= 1048576) (h1 : 1 <= m) (h2 : m <= 32) (hK : KT w) :
 Calls prog 31 #[.string q, .int .i64 (m : Int)] w fun e w' => e = .returned (.string ⟨((sha q.data.toList).take m).toArray⟩) /\ Below w.heap.size w w' := by
 have HE : Hid (Calls prog 83 #[.string q] w fun e w'' => e = .returned (.agg ((sha q.data.toList).map B).toArray) /\ Below w.heap.size w w'') := hash_any q w hq hK
 have hw : isW (m : Int) = true := by unfold isW; simp; omega
 have HW : Hid (Calls prog 54 #[.int .i64 (m : Int)] w fun e w' => e = .returned (.bool true) /\ w' = w) := by
  have := isW_any (m : Int) w
  rw [hw] at this
  exact this
 clear hw
 have hln : (sha q.data.toList).length = 32 := sha_len _
 obtain ⟨M, hM⟩ : ∃ M, sha q.data.toList = M := ⟨_, rfl⟩
 rw [hM] at HE hln
 rw [hM]
 clear hM hK
 have hln2 : (M.map B).length = 32 := by rw [List.length_map, hln]
 have h1c : ∀ v ∈ M.map B, v.oneCell' = true := by
  intro v hv
  obtain ⟨x, _, rfl⟩ := List.mem_map.1 hv
  rfl
 obtain ⟨L, hL⟩ : ∃ L, M.map B = L := ⟨_, rfl⟩
 have HL : Hid (M.map B = L) := hL
 rw [hL] at HE hln2 h1c
 clear hL
 have q1 : (1 : Int) <= (m : Int) := by omega
 have q2 : (m : Int) <= 32 := by omega
 have q3 : (0 : Int) <= (m : Int) := by omega
 go_enter func31, ntmps31
 go_wp2_with (first | (go_at_call 54; refine HW.out.mono ?_; rintro e wq ⟨rfl, hwq⟩; subst hwq) | (go_at_call 83; refine HE.out.mono ?_; rintro e w2 ⟨rfl, hb2⟩) | (refine wpList_alloc_row _ rfl (some 5) rfl 116 116 rfl (zeros8.map B) alloc32 ?_; intro g2 w3 hr3 hb3) | (refine wpList_store_whole _ rfl rfl 116 (.tmp 5) (.tmp 10) rfl w2.heap.size g2 32 (zeros8.map B) L rfl rfl hr3 hln2 size32 h1c ?_; intro w4 hr4 hg4) | (refine wpList_string_row _ rfl (.tmp 12) 22 9 5 rfl w2.heap.size g2 m 32 (M.take m) rfl (by rw [List.map_take, HL.out]; exact row_take hr4 m h2) Tryz.underlying22 Tryz.underlying5 Tryz.underlying9 ?_))
 go_ret
 have hw3 : Below wq.heap.size wq w3 := hb2.trans (hb3.mono hb2.size)
 exact ⟨rfl, hw3.trans (below_of_grown hg4 (by have := hr3.ge; have := hb2.size; omega) (by have := hw3.size; omega))⟩
end Go.Proofs.YtfmpjlpakldheaaGreatDoor
