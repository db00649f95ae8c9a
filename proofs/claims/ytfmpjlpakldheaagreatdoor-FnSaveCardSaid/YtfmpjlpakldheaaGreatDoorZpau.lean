import Derived.Test.YtfmpjlpakldheaaGreatDoorZpat
import Derived.Test.YtfmpjlpakldheaaGreatDoorZpae
import Derived.Test.YtfmpjlpakldheaaGreatDoorZpaj
import Derived.Test.YtfmpjlpakldheaaGreatDoorZpaq
import Derived.Test.YtfmpjlpakldheaaGreatDoorZpas
import Derived.Deep.AppendLies
import Derived.Deep.Cut
set_option maxRecDepth 100000
set_option maxHeartbeats 2000000
namespace Go.Proofs.YtfmpjlpakldheaaGreatDoor
open Tryz
open Go.RowKit Go.Proofs.Sha
theorem go_all (fnd : ByteArray -> FN) (wd : Nat) (hfo : FndOk wd fnd) (a : Option Addr) (n c g c' : Nat) (lo hi : ByteArray) (hlo : lo.size <= 1048576) (hhi : hi.size <= 1048576) (w0 : World)
 (HF : Hid (∀ (w' : World) (hash : ByteArray), Below w0.heap.size w0 w' -> Calls prog 116 #[.agg #[.int .i64 (wd : Int), .slice a n c], .slice (some ⟨g, 0, none⟩) n c', .string hash] w' fun e w'' => e = .returned (nodeT (fnd hash)) /\ Below w'.heap.size w' w'')) :
 ∀ (f : Nat) (hash over under par : ByteArray) (cnt : Nat) (w : World), 500 < cnt + f -> cnt <= 500 -> Below w0.heap.size w0 w -> over.size <= 1048576 -> under.size <= 1048576 -> par.size <= 1048576 →
 Calls prog 75 #[.agg #[.int .i64 (wd : Int), .slice a n c], .slice (some ⟨g, 0, none⟩) n c', .string hash, .string par, .agg #[.string over, .string under], .string lo, .string hi, .int .i64 (cnt : Int)] w (GoPost (goF fnd hgW lo hi f hash over under par cnt) w)
 | 0, _, _, _, _, cnt, _, h, hc, _, _, _, _ => by omega
 | f + 1, hash, over, under, par, cnt, w, h, hc, hw, ho, hu, hp =>
  go_step fnd wd hfo a n c g c' lo hi hlo hhi w0 HF f hash over under par cnt (fun hash over under par cnt' w' h1 h2 hb ho hu hp => go_all fnd wd hfo a n c g c' lo hi hlo hhi w0 HF f hash over under par cnt' w' (by omega) h2 hb ho hu hp) w hw hc ho hu hp
def fndD (D : Dec) (wd : Nat) (ss : List ByteArray) (hash : ByteArray) : FN := foundR D ss (firstI (hitB wd ss hash) ss.length)
def DecOk (wd : Nat) (D : Dec) : Prop := ∀ s, D.ok s = true -> okKey (D.k s) = true /\ okVal (D.v s) = true /\ ((D.l s).size = 0 \/ (D.l s).size = wd) /\ ((D.r s).size = 0 \/ (D.r s).size = wd)
theorem fndD_ok (D : Dec) (wd : Nat) (ss : List ByteArray) (h : DecOk wd D) : FndOk wd (fndD D wd ss) := by
 have key : ∀ o, ((foundR D ss o).2 = 0 \/ (foundR D ss o).2 = 2 \/ (foundR D ss o).2 = 3) /\ ((foundR D ss o).2 = 0 -> okKey (foundR D ss o).1.1 = true /\ okVal (foundR D ss o).1.2.1 = true /\ ((foundR D ss o).1.2.2.1.size = 0 \/ (foundR D ss o).1.2.2.1.size = wd) /\ ((foundR D ss o).1.2.2.2.size = 0 \/ (foundR D ss o).1.2.2.2.size = wd)) := by
  intro o
  cases o with
  | none =>
   rw [show foundR D ss none = ((⟨#[]⟩, ⟨#[]⟩, ⟨#[]⟩, ⟨#[]⟩), 2) from rfl]
   exact ⟨.inr (.inl rfl), fun e => absurd e (by decide)⟩
  | some i =>
   by_cases q : D.ok (ss.getD i ⟨#[]⟩) = true
   · rw [show foundR D ss (some i) = _ from if_pos q]
     exact ⟨.inl rfl, fun _ => h _ q⟩
   · rw [show foundR D ss (some i) = _ from if_neg q]
     exact ⟨.inr (.inr rfl), fun e => absurd e (by decide)⟩
 exact ⟨fun hash => (key _).1, fun hash => (key _).2⟩
def rangeM (fnd : ByteArray -> FN) (n : Int) (m : Nat) (root lo hi : ByteArray) : List PairT × Int :=
 if (poolOk n m && hashOk root.size n) = true then
  if (goF fnd hgW lo hi 501 root ⟨#[]⟩ ⟨#[]⟩ ⟨#[]⟩ 0).1 = 0 then ((goF fnd hgW lo hi 501 root ⟨#[]⟩ ⟨#[]⟩ ⟨#[]⟩ 0).2.2, 0) else ([], (goF fnd hgW lo hi 501 root ⟨#[]⟩ ⟨#[]⟩ ⟨#[]⟩ 0).1)
 else ([], 1)
theorem rangeM_bad {fnd : ByteArray -> FN} {n : Int} {m : Nat} {root lo hi : ByteArray} (h : (poolOk n m && hashOk root.size n) = false) : rangeM fnd n m root lo hi = ([], 1) := by unfold rangeM; rw [if_neg (by rw [h]; decide)]
theorem rangeM_ok {fnd : ByteArray -> FN} {n : Int} {m : Nat} {root lo hi : ByteArray} (h : (poolOk n m && hashOk root.size n) = true) {R : Int × Nat × List PairT} (hR : goF fnd hgW lo hi 501 root ⟨#[]⟩ ⟨#[]⟩ ⟨#[]⟩ 0 = R) : rangeM fnd n m root lo hi = if R.1 = 0 then (R.2.2, 0) else ([], R.1) := by unfold rangeM; rw [if_pos h, hR]
def RangeAt (X : List PairT × Int) (w : World) (e : Ending) (w' : World) : Prop :=
 (∃ a c, e = .returned (.tuple #[.slice a X.1.length c, .int .i64 X.2]) /\ w'.ownsRow w.heap.size 34 2 (.slice a X.1.length c) X.1.length (flatP X.1)) /\ Below w.heap.size w w'
structure SR (w : World) (ga gz : Nat) (n : Int) (a : Option Addr) (m c : Nat) (W : World) : Prop where
 sz : w.heap.size = ga
 o1 : ga < gz
 bl : Below w.heap.size w W
 na : W.heap[ga]? = some (.cells #[.int .i64 n, .slice a m c] 37)
 nz : W.heap[gz]? = some (.cells #[] 34)
section
variable {w : World} {ga gz : Nat} {n : Int} {a : Option Addr} {m c : Nat} {W W' : World}
theorem SR.mk0 (w : World) (n : Int) (a : Option Addr) (m c : Nat) : SR w w.heap.size (w.heap.size + 1) n a m c ((w.alloc (.cells #[.int .i64 n, .slice a m c] 37)).alloc (.cells #[] 34)) := by
 have e2 := heap_alloc_new (w.alloc (.cells #[.int .i64 n, .slice a m c] 37)) (.cells #[] 34)
 rw [World.size_alloc] at e2
 exact ⟨rfl, Nat.lt_succ_self _, ((Below.refl _ _).alloc (Nat.le_refl _) _).alloc (by simp) _, by rw [Below.heap_alloc _ _ _ (by simp)]; exact heap_alloc_new w _, e2⟩
theorem SR.lt (h : SR w ga gz n a m c W) : gz < W.heap.size := (Array.getElem?_eq_some_iff.1 h.nz).1
theorem SR.below (h : SR w ga gz n a m c W) (hb : Below W.heap.size W W') : SR w ga gz n a m c W' :=
 ⟨h.sz, h.o1, h.bl.trans (hb.mono h.bl.size), (hb.block _ (Nat.lt_trans h.o1 h.lt)).trans h.na, (hb.block _ h.lt).trans h.nz⟩
theorem SR.nil (h : SR w ga gz n a m c W) (i : Int) : RangeAt ([], i) w (.returned (.tuple #[.slice (some ⟨gz, 0, none⟩) 0 0, .int .i64 i])) W := by
 have h1 := h.sz
 have h2 := h.o1
 exact ⟨⟨some ⟨gz, 0, none⟩, 0, rfl, own2_nil (by omega) h.nz⟩, h.bl⟩
theorem SR.set3 (h : SR w ga gz n a m c W) {gw : Nat} (hg : gz < gw) (x y z : Value) : SR w ga gz n a m c (((W.setCell ⟨gw, 0, none⟩ x).setCell ⟨gw, 1, none⟩ y).setCell ⟨gw, 2, none⟩ z) := by
 have h1 := h.sz
 have h2 := h.o1
 have hb : w.heap.size <= gw := by omega
 refine ⟨h.sz, h.o1, ((h.bl.setCell hb _).setCell hb _).setCell hb _, ?_, ?_⟩
 · rw [Below.heap_setCell _ _ _ _ (by show ga ≠ gw; omega), Below.heap_setCell _ _ _ _ (by show ga ≠ gw; omega), Below.heap_setCell _ _ _ _ (by show ga ≠ gw; omega)]; exact h.na
 · rw [Below.heap_setCell _ _ _ _ (by show gz ≠ gw; omega), Below.heap_setCell _ _ _ _ (by show gz ≠ gw; omega), Below.heap_setCell _ _ _ _ (by show gz ≠ gw; omega)]; exact h.nz
def WB (gw : Nat) (x y z : Value) (W : World) : Prop := W.heap[gw]? = some (.cells #[x, y, z] 102)
theorem WB.below {gw : Nat} {x y z : Value} (h : WB gw x y z W) (hb : Below W.heap.size W W') : WB gw x y z W' := (hb.block _ (Array.getElem?_eq_some_iff.1 h).1).trans h
theorem WB.set3 {gw : Nat} {x y z : Value} (h : WB gw x y z W) (x' y' z' : Value) : WB gw x' y' z' (((W.setCell ⟨gw, 0, none⟩ x').setCell ⟨gw, 1, none⟩ y').setCell ⟨gw, 2, none⟩ z') := heap_setCell_same _ gw 2 _ 102 _ (heap_setCell_same _ gw 1 _ 102 _ (heap_setCell_same _ gw 0 _ 102 _ h))
theorem WB.at {gw : Nat} {x y z : Value} (h : WB gw x y z W) : W.cell? ⟨gw, 0, none⟩ = some x /\ W.cell? ⟨gw, 1, none⟩ = some y /\ W.cell? ⟨gw, 2, none⟩ = some z /\ W.frozen? ⟨gw, 0, none⟩ = false /\ W.frozen? ⟨gw, 1, none⟩ = false /\ W.frozen? ⟨gw, 2, none⟩ = false :=
 ⟨ZC h 0, ZC h 1, ZC h 2, by rw [World.frozen?, h]; rfl, by rw [World.frozen?, h]; rfl, by rw [World.frozen?, h]; rfl⟩
end
theorem srange_bad (n : Int) (a : Option Addr) (m c : Nat) (root lo hi : ByteArray) (w : World) (hm : m <= 1048576) (hr : root.size <= 1048576) (h : (poolOk n m && hashOk root.size n) = false) :
 Calls prog 24 #[.agg #[.int .i64 n, .slice a m c], .string root, .string lo, .string hi] w (RangeAt ([], 1) w) := by
 have HP := fun w' => poolOk_any n a m c w' hm
 have HH := fun w' => hashOk_any root n w' hr
 have hS := SR.mk0 w n a m c
 cases h1 : poolOk n m with
 | false =>
  rw [h1] at HP
  clear h h1
  go_enter func24, ntmps24
  go_upto_region 2 with fail
  generalize (w.alloc (.cells #[.int .i64 n, .slice a m c] 37)).alloc (.cells #[] 34) = W at hS ⊢
  obtain ⟨gz, hgz⟩ : ∃ x, w.heap.size + 1 = x := ⟨_, rfl⟩
  rw [hgz] at hS ⊢
  obtain ⟨ga, hga⟩ : ∃ x, w.heap.size = x := ⟨_, rfl⟩
  rw [show SR w w.heap.size = SR w ga by rw [hga]] at hS
  rw [hga]
  clear hga hgz
  have k0 := ZC hS.na 0
  have k1 := ZC hS.na 1
  go_wp2_with (first | (go_at_call 73; refine (HP _).mono ?_; rintro e w1 ⟨rfl, hb1⟩; have hS1 := hS.below hb1; have k0 := ZC hS1.na 0; have k1 := ZC hS1.na 1) | (go_at_call 74; refine (HH _).mono ?_; rintro e w2 ⟨rfl, rfl⟩))
  go_ret2
  exact hS1.nil 1
 | true =>
  have h2 : hashOk root.size n = false := by rw [h1] at h; exact h
  rw [h1] at HP
  rw [h2] at HH
  clear h h1 h2
  go_enter func24, ntmps24
  go_upto_region 2 with fail
  generalize (w.alloc (.cells #[.int .i64 n, .slice a m c] 37)).alloc (.cells #[] 34) = W at hS ⊢
  obtain ⟨gz, hgz⟩ : ∃ x, w.heap.size + 1 = x := ⟨_, rfl⟩
  rw [hgz] at hS ⊢
  obtain ⟨ga, hga⟩ : ∃ x, w.heap.size = x := ⟨_, rfl⟩
  rw [show SR w w.heap.size = SR w ga by rw [hga]] at hS
  rw [hga]
  clear hga hgz
  have k0 := ZC hS.na 0
  have k1 := ZC hS.na 1
  go_wp2_with (first | (go_at_call 73; refine (HP _).mono ?_; rintro e w1 ⟨rfl, hb1⟩; have hS1 := hS.below hb1; have k0 := ZC hS1.na 0; have k1 := ZC hS1.na 1) | (go_at_call 74; refine (HH _).mono ?_; rintro e w2 ⟨rfl, rfl⟩))
  go_ret2
  exact hS1.nil 1
theorem ku_append : ∀ {a b : List ByteArray}, KeysUp a -> KeysUp b -> (∀ x ∈ a, ∀ y ∈ b, lessB x y = true) -> KeysUp (a ++ b)
 | [], _, _, hb, _ => hb
 | x :: xs, b, ha, hb, h => by
  refine ⟨fun y hy => ?_, ku_append ha.2 hb (fun z hz => h z (List.mem_cons_of_mem _ hz))⟩
  rcases List.mem_append.1 hy with hy | hy
  · exact ha.1 y hy
  · exact h x List.mem_cons_self y hy
theorem ins_parts {over under k : ByteArray} (h : insW over under k = true) : lessB over k = true /\ (emp under = true \/ lessB k under = true) := by
 unfold insW at h
 obtain ⟨h1, h2⟩ := (Bool.and_eq_true _ _).mp h
 exact ⟨h1, (Bool.or_eq_true _ _).mp h2⟩
theorem goF_up {fnd : ByteArray -> FN} {hg : ByteArray -> ByteArray -> Bool} {lo hi : ByteArray} {wd : Nat} (hfo : FndOk wd fnd) : ∀ (f : Nat) (hash over under par : ByteArray) (cnt : Nat), KeysUp (keys (goF fnd hg lo hi f hash over under par cnt).2.2) /\ ∀ x ∈ keys (goF fnd hg lo hi f hash over under par cnt).2.2, lessB over x = true /\ (emp under = true \/ lessB x under = true)
 | 0, _, _, _, _, _ => by rw [goF]; exact ⟨trivial, fun x hx => by simp at hx⟩
 | f + 1, hash, over, under, par, cnt => by
  have hnil : KeysUp (keys ([] : List PairT)) /\ ∀ x ∈ keys ([] : List PairT), lessB over x = true /\ (emp under = true \/ lessB x under = true) := ⟨trivial, fun x hx => by simp at hx⟩
  cases h1 : (emp hash || !canW over under lo hi) with
  | true => rw [goF_skip h1]; exact hnil
  | false =>
   by_cases h2 : (fnd hash).2 = 2
   · rw [goF_missing h1 h2]; exact hnil
   · by_cases h20 : (fnd hash).2 = 0
     · cases h3 : (insW over under (fnd hash).1.1 && parW hg par (fnd hash).1.1) with
       | false => rw [goF_place h1 h20 h3]; exact hnil
       | true =>
        by_cases h4 : 500 < cnt + 1
        · rw [goF_many h1 h20 h3 h4]; exact hnil
        · have e : fnd hash = (((fnd hash).1.1, (fnd hash).1.2.1, (fnd hash).1.2.2.1, (fnd hash).1.2.2.2), 0) := by rw [<- h20]
          rw [goF_node h1 e h3 (by omega) rfl rfl]
          obtain ⟨hk1, hk2⟩ := ins_parts ((Bool.and_eq_true _ _).mp h3).1
          have hke : emp (fnd hash).1.1 = false := by
           have okk := (hfo.node hash h20).1
           have h9 : 1 <= (fnd hash).1.1.size := by
            unfold okKey at okk
            simp at okk
            omega
           unfold emp
           exact decide_eq_false (by omega)
          obtain ⟨l1, l2⟩ := goF_up hfo f (fnd hash).1.2.2.1 over (fnd hash).1.1 (fnd hash).1.1 (cnt + 1)
          obtain ⟨r1, r2⟩ := goF_up hfo f (fnd hash).1.2.2.2 (fnd hash).1.1 under (fnd hash).1.1 (goF fnd hg lo hi f (fnd hash).1.2.2.1 over (fnd hash).1.1 (fnd hash).1.1 (cnt + 1)).2.1
          generalize goF fnd hg lo hi f (fnd hash).1.2.2.2 (fnd hash).1.1 under (fnd hash).1.1 (goF fnd hg lo hi f (fnd hash).1.2.2.1 over (fnd hash).1.1 (fnd hash).1.1 (cnt + 1)).2.1 = R at r1 r2 ⊢
          generalize goF fnd hg lo hi f (fnd hash).1.2.2.1 over (fnd hash).1.1 (fnd hash).1.1 (cnt + 1) = L at l1 l2 ⊢
          generalize (fnd hash).1.1 = k at *
          split
          · exact hnil
          · split
            · exact hnil
            · have hl : ∀ x ∈ keys L.2.2, lessB over x = true /\ lessB x k = true := fun x hx => ⟨(l2 x hx).1, by
               rcases (l2 x hx).2 with h | h
               · rw [hke] at h; cases h
               · exact h⟩
              have hin : ∀ x, x ∈ keys (if hasW lo hi k = true then [(k, (fnd hash).1.2.1)] else []) -> x = k := fun x hx => by
               split at hx
               · simpa using hx
               · simp at hx
              have hiu : KeysUp (keys (if hasW lo hi k = true then [(k, (fnd hash).1.2.1)] else [])) := by
               split
               · exact ⟨fun x hx => by simp at hx, trivial⟩
               · trivial
              have hun : ∀ x, lessB x k = true -> (emp under = true \/ lessB x under = true) := fun x hx => by
               rcases hk2 with h | h
               · exact .inl h
               · exact .inr (lessB_tr hx h)
              generalize (if hasW lo hi k = true then [(k, (fnd hash).1.2.1)] else []) = I at hin hiu ⊢
              have ha : KeysUp (keys L.2.2 ++ keys I) := ku_append l1 hiu (fun x hx y hy => by rw [hin y hy]; exact (hl x hx).2)
              have hb : KeysUp ((keys L.2.2 ++ keys I) ++ keys R.2.2) := ku_append ha r1 (fun x hx y hy => by
               rcases List.mem_append.1 hx with hx | hx
               · exact lessB_tr (hl x hx).2 (r2 y hy).1
               · rw [hin x hx]; exact (r2 y hy).1)
              have e3 : keys (L.2.2 ++ I ++ R.2.2) = (keys L.2.2 ++ keys I) ++ keys R.2.2 := by simp [keys]
              simp only [e3]
              refine ⟨hb, fun x hx => ?_⟩
              rcases List.mem_append.1 hx with hx | hx
              · rcases List.mem_append.1 hx with hx | hx
                · exact ⟨(hl x hx).1, hun x (hl x hx).2⟩
                · rw [hin x hx]; exact ⟨hk1, hk2⟩
              · exact ⟨lessB_tr hk1 (r2 x hx).1, (r2 x hx).2⟩
     · rw [goF, if_neg (by rw [h1]; decide), if_neg h2, if_pos h20]; exact hnil
theorem rangeM_up {fnd : ByteArray -> FN} {wd : Nat} (hfo : FndOk wd fnd) (n : Int) (m : Nat) (root lo hi : ByteArray) : KeysUp (keys (rangeM fnd n m root lo hi).1) := by
 unfold rangeM
 split
 · split
   · exact (goF_up hfo 501 root ⟨#[]⟩ ⟨#[]⟩ ⟨#[]⟩ 0).1
   · trivial
 · trivial
theorem drop_getD (ps : List PairT) (i : Nat) (h : i < ps.length) : ps.drop i = ps.getD i noPair :: ps.drop (i + 1) := by
 rw [List.drop_eq_getElem_cons h]
 congr 1
 simp [List.getD_eq_getElem?_getD, List.getElem?_eq_getElem h]
theorem ba_eq {a b : ByteArray} : (a.toList == b.toList) = decide (a = b) := by
 by_cases e : a = b
 · subst e; simp
 · rw [decide_eq_false e, beq_eq_false_iff_ne]
   intro h
   rw [ByteArray.toList_eq, ByteArray.toList_eq] at h
   exact e (ByteArray.ext (Array.toList_inj.1 h))
structure OwnP (w : World) (xs : List PairT) (a : Option Addr) (m c : Nat) (W : World) : Prop where
 own : W.ownsRow w.heap.size 34 2 (.slice a m c) m (flatP xs)
 bel : Below w.heap.size w W
 len : xs.length = m
theorem OwnP.below {w W W' : World} {xs : List PairT} {a : Option Addr} {m c : Nat} (h : OwnP w xs a m c W) (hb : Below W.heap.size W W') : OwnP w xs a m c W' :=
 ⟨own2_kept h.own (fun q _ hq => hb.block q hq), h.bel.trans (hb.mono h.bel.size), h.len⟩
theorem OwnP.more {w W W' : World} {xs : List PairT} {a : Option Addr} {m c m' g cap : Nat} {y : PairT} {o : Obj} (h : OwnP w xs a m c W) (hown : W'.ownsRow w.heap.size 34 2 (.slice (some ⟨g, 0, none⟩) m' cap) m' (flatP xs ++ [.string y.1, .string y.2])) (hgrow : (W.alloc o).grownBy W' (Value.slice a m c).ownBlock) (hm : m' = m + 1) : OwnP w (xs ++ [y]) (some ⟨g, 0, none⟩) m' cap W' := by
 have ha := h.below ((Below.refl W.heap.size W).alloc (Nat.le_refl _) o)
 refine ⟨by rw [flatP_app]; exact hown, ha.bel.grown hgrow ha.bel.size (fun q hq => (own2_cells ha.own hq).1), by rw [List.length_append, h.len, hm]; rfl⟩
def PairsAt (xs : List PairT) (w : World) (e : Ending) (w' : World) : Prop := ∃ a c, e = .returned (.slice a xs.length c) /\ OwnP w xs a xs.length c w'
theorem take_getD (ps : List PairT) (i : Nat) (h : i < ps.length) : ps.take (i + 1) = ps.take i ++ [ps.getD i noPair] := by
 rw [List.take_add_one, List.getElem?_eq_getElem h]
 simp [List.getD_eq_getElem?_getD, List.getElem?_eq_getElem h]
theorem wout_app (a b : List PairT) (k : ByteArray) : wout (a ++ b) k = wout a k ++ wout b k := List.filter_append ..
theorem wout_le (ps : List PairT) (k : ByteArray) : (wout ps k).length <= ps.length := List.length_filter_le ..
theorem OwnP.nil (w : World) : OwnP w [] (some ⟨w.heap.size, 0, none⟩) 0 0 (w.alloc (.cells #[] 34)) :=
 ⟨own2_nil (Nat.le_refl _) (heap_alloc_new w _), (Below.refl _ _).alloc (Nat.le_refl _) _, rfl⟩
theorem without_any (a : Option Addr) (ps : List PairT) (c : Nat) (key : ByteArray) (w : World) (h : PArg a ps w) : Calls prog 94 #[.slice a ps.length c, .string key] w (PairsAt (wout ps key) w) := by
 obtain ⟨i0, hi0, hz0, hz1, hz2⟩ := info_parts2 info37
 have hn := h.le
 obtain ⟨N, hN⟩ : ∃ N, ps.length = N := ⟨_, rfl⟩
 rw [hN] at hn ⊢
 have hNl : Hid (ps.length = N) := hN
 clear hN
 have hO := OwnP.nil w
 go_enter func94, ntmps94
 go_wp2_with fail
 go_loopw [5, 6] (fun t5 t6 wr => ∃ k : Nat, k <= N /\ t6 = .int .i64 (k : Int) /\ ∃ (a' : Option Addr) (m d' : Nat), t5 = .slice a' m d' /\ OwnP w (wout (ps.take k) key) a' m d' wr) (fun _ t6 _ => N - (intOf t6).toNat)
 case atStart => exact ⟨0, Nat.zero_le _, rfl, _, _, _, rfl, hO⟩
 case round =>
  obtain ⟨k, hk, rfl, a', m, d', rfl, hW⟩ := hrel
  by_cases hlt : k < N
  · have z1 : decide ((k : Int) < (N : Int)) = true := by simp; omega
    have hx0 : (0 : Int) <= (k : Int) := Int.natCast_nonneg _
    have hx1 : (k : Int) < (N : Int) := by omega
    obtain ⟨b1, off1, rfl, hbl1, hc⟩ := (h.below hW.bel).at_ (by rw [hNl.out]; omega)
    obtain ⟨hc1, hc2⟩ := hc k (by rw [hNl.out]; exact hlt)
    have hml : m <= 1048576 := by have := hW.len; have := wout_le (ps.take k) key; rw [List.length_take] at this; omega
    have htk : Hid (wout (ps.take (k + 1)) key = wout (ps.take k) key ++ wout [ps.getD k noPair] key) := by
     show _ = _
     rw [take_getD ps k (by rw [hNl.out]; exact hlt), wout_app]
    generalize ps.getD k noPair = p at hc1 hc2 htk
    obtain ⟨pk, pv⟩ := p
    simp only at hc1 hc2
    have hbs := hW.bel.size
    by_cases e : pk = key
    · have z2 : (pk.toList == key.toList) = true := by rw [ba_eq, decide_eq_true e]
      have hf : Hid (wout [(pk, pv)] key = []) := by show _ = _; simp [wout, e]
      clear e hc
      go_wp2_with fail
      go_roundw
      case rel => exact ⟨k + 1, hlt, by go_num, _, _, _, rfl, by rw [htk.out, hf.out, List.append_nil]; exact hW⟩
      case measure => simp [intOf]; omega
    · have z2 : (pk.toList == key.toList) = false := by rw [ba_eq, decide_eq_false e]
      have hf : Hid (wout [(pk, pv)] key = [(pk, pv)]) := by show _ = _; simp [wout, e]
      have own := hW.own
      clear e hc
      go_wp2_with (at_builtin; refine wpList_append_lies _ rfl (.tmp 21) (.tmp 26) 23 rfl w.heap.size 34 i0 (.agg #[.string ⟨#[]⟩, .string ⟨#[]⟩]) 2 32 Tryz.underlying23 hi0 hz0 hz1 hz2 rfl (by decide) (.slice a' m d') m (flatP (wout (ps.take k) key)) rfl (own.alloc _) ⟨wr.heap.size, 0, none⟩ 1 1 [.string pk, .string pv] rfl rfl (World.news_of_block (heap_alloc_new wr _)) (by simp [Value.oneCell']) (by decide) (by unfold maxLen; omega) (by omega) (by simp; omega) (wr.heap.size + 1) (by simp) ?_; intro g5 c5 w5 hown5 hgrow5 hat5 hlt5)
      go_roundw
      case rel => exact ⟨k + 1, hlt, by go_num, _, _, _, rfl, by rw [htk.out, hf.out]; exact hW.more hown5 hgrow5 rfl⟩
      case measure => simp [intOf]; omega
  · obtain rfl : k = N := by omega
    have z1 : decide ((k : Int) < (k : Int)) = false := by simp
    rw [List.take_of_length_le (by rw [hNl.out]; exact Nat.le_refl _)] at hW
    have hl := hW.len
    subst hl
    go_wp2_with fail
    go_ret
    exact ⟨_, _, rfl, hW⟩
theorem below_draws {B : Nat} {a w : World} (n : Nat) (h : Below B a w) : Below B a (w.drewN n) := ⟨h.os, h.tape, h.output, h.size, h.block⟩
theorem mapOk_any (a : Option Addr) (ps : List PairT) (c : Nat) (w : World) (h : PArg a ps w) :
 Calls prog 45 #[.slice a ps.length c] w fun e w' => e = .returned (.bool (isMapT ps)) /\ Below w.heap.size w w' := by
 have hn := h.le
 obtain ⟨n, hnn⟩ : ∃ n, ps.length = n := ⟨_, rfl⟩
 obtain ⟨B, hB⟩ : ∃ B, isMapT ps = B := ⟨_, rfl⟩
 rw [hB, hnn]
 rw [hnn] at hn
 by_cases hx : 500 < n
 · have hf : Hid (B = false) := by show B = false; rw [<- hB]; unfold isMapT; rw [decide_eq_false (by omega), Bool.false_and]
   have z1 : decide ((500 : Int) < (n : Int)) = true := by rw [decide_eq_true_eq]; omega
   have z2 : decide ((n : Int) > 500) = true := by rw [decide_eq_true_eq]; omega
   clear hB
   go_enter func45, ntmps45
   go_wp2_with fail
   go_ret
   exact ⟨by rw [hf.out]; rfl, Below.refl _ _⟩
 · have hBm : Hid (B = mapTo ps n) := by show B = _; rw [<- hB]; unfold isMapT; rw [decide_eq_true (by omega), Bool.true_and, hnn]
   have z1 : decide ((500 : Int) < (n : Int)) = false := by rw [decide_eq_false_iff_not]; omega
   have z2 : decide ((n : Int) > 500) = false := by rw [decide_eq_false_iff_not]; omega
   have hnl : Hid (ps.length = n) := hnn
   clear hB hnn
   go_enter func45, ntmps45
   go_wp2_with fail
   go_loopw [3] (fun t3 wr => ∃ k : Nat, k <= n /\ t3 = .int .i64 (k : Int) /\ Hid (mapTo ps k = true) /\ Below w.heap.size w wr) (fun t3 _ => n - (intOf t3).toNat)
   case atStart => exact ⟨0, Nat.zero_le _, rfl, rfl, Below.refl _ _⟩
   case round =>
    obtain ⟨k, hk, rfl, hm, hbw⟩ := hrel
    by_cases hlt : k < n
    · have z3 : decide ((k : Int) < (n : Int)) = true := by simp; omega
      have hx0 : (0 : Int) <= (k : Int) := Int.natCast_nonneg _
      have hx1 : (k : Int) < (n : Int) := by omega
      obtain ⟨b, off, rfl, hbl, hc⟩ := (h.below hbw).at_ (by rw [hnl.out]; omega)
      obtain ⟨hc1, hc2⟩ := hc k (by rw [hnl.out]; exact hlt)
      have hgd : Hid (goodAt ps k = (okKey (ps.getD k noPair).1 && (okVal (ps.getD k noPair).2 && Op.bytesLess (lastK ps k).toList (ps.getD k noPair).1.toList))) := rfl
      obtain ⟨hs1, hs2⟩ := h.sz k
      have hkn : ∀ pk : ByteArray, okKey pk = true -> Op.bytesLess (⟨#[]⟩ : ByteArray).toList pk.toList = true := fun pk hok => by
       unfold okKey at hok
       rw [decide_eq_true_eq] at hok
       have : pk.toList ≠ [] := fun e => by
        have hl := congrArg List.length e
        rw [ByteArray.toList_eq] at hl
        have h0 : pk.data.toList.length = pk.size := rfl
        have h1 : pk.size = 0 := h0.symm.trans hl
        omega
       have e0 : (⟨#[]⟩ : ByteArray).toList = [] := by rw [ByteArray.toList_eq]
       rw [e0]
       cases hp : pk.toList with
       | nil => exact absurd hp this
       | cons x y => rfl
      generalize hpk : (ps.getD k noPair).1 = pk at hc1 hgd hs1
      generalize (ps.getD k noPair).2 = pv at hc2 hgd hs2
      have H1 : ∀ w', Calls prog 90 #[.string pk, .string pv] w' fun e w'' => e = .returned (.bool (okKey pk && okVal pv)) /\ w'' = w' := fun w' => pairOk_q pk pv w' hs1 hs2
      cases hk1 : (okKey pk && okVal pv) with
      | false =>
       rw [hk1] at H1
       have hbf : Hid (B = false) := by
        show B = false
        rw [hBm.out]
        exact mapTo_false ps k n hlt (by rw [hgd.out, <- Bool.and_assoc, hk1, Bool.false_and])
       replace H1 : Hid _ := H1
       clear hk1 hgd hm hBm hc hkn hpk
       go_upto_region 6 with fail
       go_quiet ((go_at_call 90; exact Calls.quiet_of_same (H1.out _)))
       go_wp2_with fail
       go_ret
       exact ⟨by rw [hbf.out]; rfl, below_draws nq hbw⟩
      | true =>
       rw [hk1] at H1
       have hok : okKey pk = true := by cases hq : okKey pk with
        | true => rfl
        | false => rw [hq, Bool.false_and] at hk1; cases hk1
       have hg2 : Hid (goodAt ps k = Op.bytesLess (lastK ps k).toList pk.toList) := by show _ = _; rw [hgd.out, <- Bool.and_assoc, hk1, Bool.true_and]
       replace H1 : Hid _ := H1
       by_cases hk0 : k = 0
       · have hm' : Hid (mapTo ps (k + 1) = true) := by
          show _ = _
          rw [mapTo, hm.out, hg2.out, Bool.true_and]
          subst hk0
          exact hkn pk hok
         have y0 : ¬ (0 < (k : Int)) := by omega
         have y1 : decide (0 < (k : Int)) = false := by rw [decide_eq_false_iff_not]; exact y0
         have y2 : ¬ (0 < k) := by omega
         have y3 : decide (0 < k) = false := by rw [decide_eq_false_iff_not]; exact y2
         clear hk1 hgd hm hBm hc hkn hpk hg2 hk0 hok
         go_upto_region 6 with fail
         go_quiet ((go_at_call 90; exact Calls.quiet_of_same (H1.out _)))
         go_wp2_with fail
         go_roundw
         case rel => exact ⟨k + 1, hlt, by go_num, hm', below_draws nq hbw⟩
         case measure => simp [intOf]; omega
       · have y0 : 0 < (k : Int) := by omega
         have y1 : decide (0 < (k : Int)) = true := by rw [decide_eq_true_eq]; exact y0
         have y2 : 0 < k := by omega
         have y3 : decide (0 < k) = true := by rw [decide_eq_true_eq]; exact y2
         obtain ⟨hc3, hc4⟩ := hc (k - 1) (by rw [hnl.out]; omega)
         obtain ⟨hs3, hs4⟩ := h.sz (k - 1)
         have hlk : lastK ps k = (ps.getD (k - 1) noPair).1 := by cases k with | zero => exact absurd rfl hk0 | succ k' => rfl
         rw [hlk] at hg2
         generalize (ps.getD (k - 1) noPair).1 = pl at hc3 hs3 hg2
         have H2 : ∀ w', Calls prog 95 #[.string pl, .string pk] w' fun e w'' => e = .returned (.bool (Op.bytesLess pl.toList pk.toList)) /\ ∃ m, w'' = w'.drewN m := fun w' => by
          rw [ByteArray.toList_eq, ByteArray.toList_eq]
          exact less_q pl pk w' hs3 hs1
         have x0 : (0 : Int) <= (k : Int) - 1 := by omega
         have x1 : (k : Int) - 1 < (n : Int) := by omega
         have x2 : ((k : Int) - 1).toNat = k - 1 := by omega
         have x3 : wrap64 ((k : Int) - 1) = (k : Int) - 1 := by unfold wrap64; omega
         cases hlt2 : Op.bytesLess pl.toList pk.toList with
         | false =>
          rw [hlt2] at H2 hg2
          have hbf : Hid (B = false) := by
           show B = false
           rw [hBm.out]
           exact mapTo_false ps k n hlt hg2.out
          replace H2 : Hid _ := H2
          clear hk1 hgd hm hBm hc hkn hpk hg2 hk0 hok hlt2 hlk hc4 hs4
          go_upto_region 6 with fail
          go_quiet (first | (go_at_call 90; exact Calls.quiet_of_same (H1.out _)) | (go_at_call 95; exact Calls.quiet_of (H2.out _)))
          go_wp2_with fail
          go_ret
          exact ⟨by rw [hbf.out]; rfl, below_draws nq hbw⟩
         | true =>
          rw [hlt2] at H2 hg2
          have hm' : Hid (mapTo ps (k + 1) = true) := by
           show _ = _
           rw [mapTo, hm.out, hg2.out]; rfl
          replace H2 : Hid _ := H2
          clear hk1 hgd hm hBm hc hkn hpk hg2 hk0 hok hlt2 hlk hc4 hs4
          go_upto_region 6 with fail
          go_quiet (first | (go_at_call 90; exact Calls.quiet_of_same (H1.out _)) | (go_at_call 95; exact Calls.quiet_of (H2.out _)))
          go_wp2_with fail
          go_roundw
          case rel => exact ⟨k + 1, hlt, by go_num, hm', below_draws nq hbw⟩
          case measure => simp [intOf]; omega
    · obtain rfl : k = n := by omega
      have z3 : decide ((k : Int) < (k : Int)) = false := by simp
      have hbt : Hid (B = true) := by show B = true; rw [hBm.out, hm.out]
      clear hBm hm
      go_wp2_with fail
      go_ret
      exact ⟨by rw [hbt.out]; rfl, hbw⟩
end Go.Proofs.YtfmpjlpakldheaaGreatDoor
