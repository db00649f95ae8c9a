import Derived.Test.YtfmpjlpakldheaaGreatDoorZral
import Derived.Laws.MakeOwn
import Derived.Laws.OwnMore
import Derived.Test.YtfmpjlpakldheaaGreatDoorZrab
import Derived.Test.YtfmpjlpakldheaaGreatDoorZrak
set_option maxRecDepth 100000
set_option maxHeartbeats 2000000
namespace Go.Proofs.YtfmpjlpakldheaaGreatDoor
open Go.RowKit Go.Proofs.Sha Tryz
def hashT (wd : Nat) (s : ByteArray) : ByteArray := ⟨((sha (78 :: s.data.toList)).take wd).toArray⟩
theorem info9 : (prog.info? 9).map (fun i => (i.zero, i.size, i.bytes)) = some (some (.string ⟨#[]⟩), 1, 16) := by kernel_rfl
section
variable {w : World} {ga : Nat} {n : Int} {a : Option Addr} {m c : Nat} {W W' : World}
end
theorem firstI_step_yes {p : Nat -> Bool} {k : Nat} (h : firstI p k = none) (h1 : p k = true) : firstI p (k + 1) = some k := by
 rw [firstI, h, h1]; rfl
theorem firstI_up {p : Nat -> Bool} {k i : Nat} (h : firstI p k = some i) (m : Nat) : firstI p (k + m) = some i := by
 induction m with
 | zero => exact h
 | succ m ih => rw [<- Nat.add_assoc, firstI, ih]
theorem firstI_congr {p q : Nat -> Bool} {k : Nat} (h : ∀ j, j < k -> p j = q j) : firstI p k = firstI q k := by
 induction k with
 | zero => rfl
 | succ k ih => rw [firstI, firstI, ih (fun j hj => h j (by omega)), h k (Nat.lt_succ_self k)]
def PRow (w : World) (base : Nat) (a : Option Addr) (n _c : Nat) (xs : List Value) : Prop := n = 0 \/ ∃ g, a = some ⟨g, 0, none⟩ /\ Row w base g (n * 2) (n * 2) xs
theorem own_prow {w : World} {base n c : Nat} {a : Option Addr} {xs : List Value} (h : w.ownsRow base 34 2 (.slice a n c) n xs) : PRow w base a n c xs := by
 by_cases hn : n = 0
 · exact .inl hn
 · right
   rcases h.2 with ⟨e, h0⟩ | ⟨g, cap, cur, e, hb, hg, q1, q2, q3, q4⟩
   · omega
   · simp only [Value.slice.injEq, true_and] at e
     obtain ⟨rfl, rfl⟩ := e
     refine ⟨g, rfl, hb, (Array.getElem?_eq_some_iff.1 hg).1, by have := h.1; omega, Nat.le_refl _, fun j hj => ?_, fun j hj => ?_, fun j _ => ?_⟩
     · rw [cell_of_row w g j cur 34 (0, 0) hg, <- q4, List.getElem?_take, if_pos (by omega)]; simp
     · rw [cell_of_row w g j cur 34 (0, 0) hg, Array.getElem?_eq_getElem (by omega)]; rfl
     · rw [World.frozen?, hg]; rfl
theorem pblk_below {g : Nat} {o : Obj} {w w' : World} (hb : Below w.heap.size w w') (h : w.heap[g]? = some o) : w'.heap[g]? = some o := (hb.block g (Array.getElem?_eq_some_iff.1 h).1).trans h
theorem retP {fn : Func} {R : Ending -> World -> Prop} {A : Act} {p : Tmp} {gb : Nat} {n : Int} {a : Option Addr} {m c : Nat} {W : World} (hres : fn.results = #[.cell p 37]) (hp : A.tmps.getD p undef = .pointer (some ⟨gb, 0, none⟩)) (hd : A.defers = []) (hn : W.heap[gb]? = some (.cells #[.int .i64 n, .slice a m c] 37))
 (h : R (.returned (.agg #[.int .i64 n, .slice a m c])) W) : bodyPost prog fn R Exit.ret A W := by
 have c0 := ZC hn 0
 have c1 := ZC hn 1
 have hp' : A.tmps[p]?.getD undef = .pointer (some ⟨gb, 0, none⟩) := by simpa using hp
 refine bodyPost_ret (v := .agg #[.int .i64 n, .slice a m c]) ?_ hd h
 simp [results, hres, go_sem, asAddr, hp', c0, c1]
section
variable {fnd : ByteArray -> FN} {hg : ByteArray -> ByteArray -> Bool} {lo hi : ByteArray}
theorem goF_len : ∀ (f : Nat) (hash over under par : ByteArray) (cnt : Nat), (goF fnd hg lo hi f hash over under par cnt).1 = 0 -> cnt + (goF fnd hg lo hi f hash over under par cnt).2.2.length <= (goF fnd hg lo hi f hash over under par cnt).2.1
 | 0, _, _, _, _, _, h => by rw [goF] at h; exact absurd h (by decide)
 | f + 1, hash, over, under, par, cnt, h => by
  cases h1 : (emp hash || !canW over under lo hi) with
  | true => rw [goF_skip h1]; exact Nat.le_refl _
  | false =>
   by_cases h2 : (fnd hash).2 = 2
   · rw [goF_missing h1 h2] at h; exact absurd h (by decide)
   · by_cases h20 : (fnd hash).2 = 0
     · cases h3 : (insW over under (fnd hash).1.1 && parW hg par (fnd hash).1.1) with
       | false => rw [goF_place h1 h20 h3] at h; exact absurd h (by decide)
       | true =>
        by_cases h4 : 500 < cnt + 1
        · rw [goF_many h1 h20 h3 h4] at h; exact absurd h (by decide)
        · have e : fnd hash = (((fnd hash).1.1, (fnd hash).1.2.1, (fnd hash).1.2.2.1, (fnd hash).1.2.2.2), 0) := by rw [<- h20]
          rw [goF_node h1 e h3 (by omega) rfl rfl] at h ⊢
          have il := goF_len f (fnd hash).1.2.2.1 over (fnd hash).1.1 (fnd hash).1.1 (cnt + 1)
          split at h
          · rename_i q; exact absurd h q
          · rename_i q
            have il := il (by simpa using q)
            split at h
            · rename_i q2; exact absurd h q2
            · rename_i q2
              have ir := goF_len f (fnd hash).1.2.2.2 (fnd hash).1.1 under (fnd hash).1.1 _ (by simpa using q2)
              rw [if_neg q, if_neg q2]
              simp only [List.length_append]
              have : (if hasW lo hi (fnd hash).1.1 = true then [((fnd hash).1.1, (fnd hash).1.2.1)] else []).length <= 1 := by split <;> simp
              omega
     · rw [goF, if_neg (by rw [h1]; decide), if_neg h2, if_pos h20] at h; exact absurd h (by decide)
end
section
variable {w : World} {g8 g12 g16 gz g17 : Nat} {wd : Nat} {a : Option Addr} {n c : Nat} {over under : ByteArray} {cnt : Nat} {gn gr : Nat} {k v l r : ByteArray} {a2 : Option Addr} {rn d2 Qn : Nat} {Qp : List PairT} {W W' : World}
end
def fndD (D : Dec) (wd : Nat) (ss : List ByteArray) (hash : ByteArray) : FN := foundR D ss (firstI (hitB wd ss hash) ss.length)
def DecOk (wd : Nat) (D : Dec) : Prop := ∀ s, D.ok s = true -> okKey (D.k s) = true /\ okVal (D.v s) = true /\ ((D.l s).size = 0 \/ (D.l s).size = wd) /\ ((D.r s).size = 0 \/ (D.r s).size = wd)
theorem fndD_ok (D : Dec) (wd : Nat) (ss : List ByteArray) (h : DecOk wd D) : FndOk wd (fndD D wd ss) := by
 have key : ∀ o, ((foundR D ss o).2 = 0 \/ (foundR D ss o).2 = 2 \/ (foundR D ss o).2 = 3) /\ ((foundR D ss o).2 = 0 -> okKey (foundR D ss o).1.1 = true /\ okVal (foundR D ss o).1.2.1 = true /\ ((foundR D ss o).1.2.2.1.size = 0 \/ (foundR D ss o).1.2.2.1.size = wd) /\ ((foundR D ss o).1.2.2.2.size = 0 \/ (foundR D ss o).1.2.2.2.size = wd)) := by
  intro o
  cases o with
  | none =>
   rw [show foundR D ss none = ((⟨#[]⟩, ⟨#[]⟩, ⟨#[]⟩, ⟨#[]⟩), 2) from rfl]
   exact ⟨.inr (.inl rfl), fun e => absurd e (by decide)⟩
  | some i =>
   by_cases q : D.ok (ss.getD i ⟨#[]⟩) = true
   · rw [show foundR D ss (some i) = _ from if_pos q]
     exact ⟨.inl rfl, fun _ => h _ q⟩
   · rw [show foundR D ss (some i) = _ from if_neg q]
     exact ⟨.inr (.inr rfl), fun e => absurd e (by decide)⟩
 exact ⟨fun hash => (key _).1, fun hash => (key _).2⟩
def rangeM (fnd : ByteArray -> FN) (n : Int) (m : Nat) (root lo hi : ByteArray) : List PairT × Int :=
 if (poolOk n m && hashOk root.size n) = true then
  if (goF fnd hgW lo hi 501 root ⟨#[]⟩ ⟨#[]⟩ ⟨#[]⟩ 0).1 = 0 then ((goF fnd hgW lo hi 501 root ⟨#[]⟩ ⟨#[]⟩ ⟨#[]⟩ 0).2.2, 0) else ([], (goF fnd hgW lo hi 501 root ⟨#[]⟩ ⟨#[]⟩ ⟨#[]⟩ 0).1)
 else ([], 1)
theorem rangeM_bad {fnd : ByteArray -> FN} {n : Int} {m : Nat} {root lo hi : ByteArray} (h : (poolOk n m && hashOk root.size n) = false) : rangeM fnd n m root lo hi = ([], 1) := by unfold rangeM; rw [if_neg (by rw [h]; decide)]
theorem rangeM_ok {fnd : ByteArray -> FN} {n : Int} {m : Nat} {root lo hi : ByteArray} (h : (poolOk n m && hashOk root.size n) = true) {R : Int × Nat × List PairT} (hR : goF fnd hgW lo hi 501 root ⟨#[]⟩ ⟨#[]⟩ ⟨#[]⟩ 0 = R) : rangeM fnd n m root lo hi = if R.1 = 0 then (R.2.2, 0) else ([], R.1) := by unfold rangeM; rw [if_pos h, hR]
def RangeAt (X : List PairT × Int) (w : World) (e : Ending) (w' : World) : Prop :=
 (∃ a c, e = .returned (.tuple #[.slice a X.1.length c, .int .i64 X.2]) /\ w'.ownsRow w.heap.size 34 2 (.slice a X.1.length c) X.1.length (flatP X.1)) /\ Below w.heap.size w w'
section
variable {w : World} {ga gz : Nat} {n : Int} {a : Option Addr} {m c : Nat} {W W' : World}
end
theorem PArg.grown {a : Option Addr} {ps : List PairT} {w w' : World} {row : Option Nat} (h : PArg a ps w) (hg : w.grownBy w' row) (hn : ∀ b off, a = some ⟨b, off, none⟩ -> 0 < ps.length -> some b ≠ row) : PArg a ps w' := by
 refine ⟨h.le, h.sz, fun h0 => ?_⟩
 obtain ⟨b, off, ha, hlt, hc⟩ := h.at_ h0
 have hne := hn b off ha h0
 exact ⟨b, off, ha, Nat.lt_of_lt_of_le hlt hg.size, fun j hj => ⟨(hg.cell_far ⟨b, off + j * 2, none⟩ hlt hne).trans (hc j hj).1, (hg.cell_far ⟨b, off + j * 2 + 1, none⟩ hlt hne).trans (hc j hj).2⟩⟩
theorem own_parg {w : World} {base c : Nat} {a : Option Addr} {ps : List PairT} (h : w.ownsRow base 34 2 (.slice a ps.length c) ps.length (flatP ps)) (hs : SmallP ps) : PArg a ps w := by
 rcases own_prow h with h0 | ⟨g, rfl, hr⟩
 · exact ⟨hs.1, hs.2, fun q => by omega⟩
 · exact Row.parg hr hs
def Mid (rest : List PairT) (key val : ByteArray) (k : Nat) (out : List PairT) : Bool -> Prop
 | true => out ++ rest.drop k = ins key val rest
 | false => out = rest.take k /\ ins key val rest = rest.take k ++ ins key val (rest.drop k)
theorem drewN_below (w : World) (q : Nat) : Below w.heap.size w (w.drewN q) := draws_below _ (Below.refl _ _)
theorem Mid.start (rest : List PairT) (key val : ByteArray) : Mid rest key val 0 [] false := ⟨rfl, rfl⟩
theorem Mid.done {rest : List PairT} {key val : ByteArray} {k : Nat} {out : List PairT} (h : Mid rest key val k out true) (hk : k < rest.length) : Mid rest key val (k + 1) (out ++ [rest.getD k noPair]) true := by
 unfold Mid at h ⊢
 rw [<- h, drop_getD rest k hk]
 simp
theorem Mid.now {rest : List PairT} {key val : ByteArray} {k : Nat} {out : List PairT} (h : Mid rest key val k out false) (hk : k < rest.length) (hl : lessB key (rest.getD k noPair).1 = true) : Mid rest key val (k + 1) (out ++ [(key, val)] ++ [rest.getD k noPair]) true := by
 unfold Mid at h ⊢
 obtain ⟨h1, h2⟩ := h
 rw [h2, drop_getD rest k hk, ins, if_pos hl, h1]
 simp
theorem Mid.past {rest : List PairT} {key val : ByteArray} {k : Nat} {out : List PairT} (h : Mid rest key val k out false) (hk : k < rest.length) (hl : lessB key (rest.getD k noPair).1 = false) : Mid rest key val (k + 1) (out ++ [rest.getD k noPair]) false := by
 unfold Mid at h ⊢
 obtain ⟨h1, h2⟩ := h
 rw [take_getD rest k hk, h1]
 refine ⟨rfl, ?_⟩
 rw [h2, drop_getD rest k hk, ins, if_neg (by rw [hl]; decide)]
 simp
theorem OwnP.up {w w1 W : World} {xs : List PairT} {a : Option Addr} {m c : Nat} (h : OwnP w1 xs a m c W) (hb : Below w.heap.size w w1) : OwnP w xs a m c W :=
 ⟨own2_mono h.own hb.size, hb.trans (h.bel.mono hb.size), h.len⟩
theorem ownp_parg {w W : World} {c m : Nat} {a : Option Addr} {ps : List PairT} (h : OwnP w ps a m c W) (hs : SmallP ps) : PArg a ps W := by
 have hl := h.len
 subst hl
 exact own_parg h.own hs
theorem Mid.len {rest : List PairT} {key val : ByteArray} {k : Nat} {out : List PairT} {d : Bool} (h : Mid rest key val k out d) : out.length <= rest.length + 1 := by
 have hi : ∀ l : List PairT, (ins key val l).length = l.length + 1 := fun l => by
  induction l with
  | nil => rfl
  | cons p l ih => rw [ins]; split <;> simp [ih]
 cases d with
 | true =>
  have := congrArg List.length h
  rw [List.length_append, hi] at this
  omega
 | false =>
  rw [h.1, List.length_take]
  omega
theorem with_any (a : Option Addr) (ps : List PairT) (c : Nat) (key val : ByteArray) (w : World) (h : PArg a ps w) (hks : key.size <= 1048576) (hpl : ps.length <= 100000) : Calls prog 91 #[.slice a ps.length c, .string key, .string val] w (PairsAt (wth ps key val) w) := by
 obtain ⟨i0, hi0, hz0, hz1, hz2⟩ := info_parts2 info37
 have HO := without_any a ps c key w h
 have hrs : SmallP (wout ps key) := by
  refine ⟨Nat.le_trans (wout_le ps key) h.le, fun j => ?_⟩
  by_cases hj : j < (wout ps key).length
  · have hm : (wout ps key)[j] ∈ ps := (List.mem_filter.1 (List.getElem_mem hj)).1
    obtain ⟨i, hi, e⟩ := List.getElem_of_mem hm
    have := h.sz i
    rw [List.getD_eq_getElem?_getD, List.getElem?_eq_getElem hi, Option.getD_some, e] at this
    rw [List.getD_eq_getElem?_getD, List.getElem?_eq_getElem hj, Option.getD_some]
    exact this
  · rw [pget_out _ _ (by omega)]
    exact ⟨Nat.zero_le _, Nat.zero_le _⟩
 have hrl : (wout ps key).length <= 100000 := Nat.le_trans (wout_le ps key) hpl
 unfold wth
 generalize wout ps key = rest at HO hrs hrl ⊢
 go_enter func91, ntmps91
 go_upto_region 2 with (first | (go_at_call 94; refine HO.mono ?_; rintro e w1 ⟨a1, c1, rfl, hO1⟩))
 have hb1 := hO1.bel
 have hp1 := ownp_parg hO1 hrs
 have hO2 := OwnP.nil w1
 obtain ⟨N, hN⟩ : ∃ N, rest.length = N := ⟨_, rfl⟩
 rw [hN] at hrl ⊢
 have hNl : Hid (rest.length = N) := hN
 clear hN hO1 HO
 go_wp2_with fail
 go_loopw [8, 9, 10] (fun t8 t9 t10 wr => ∃ k : Nat, k <= N /\ t10 = .int .i64 (k : Int) /\ ∃ (d : Bool) (a' : Option Addr) (m d' : Nat) (out : List PairT), t9 = .bool d /\ t8 = .slice a' m d' /\ OwnP w1 out a' m d' wr /\ Hid (Mid rest key val k out d)) (fun _ _ t10 _ => N - (intOf t10).toNat)
 case atStart => exact ⟨0, Nat.zero_le _, rfl, false, _, _, _, [], rfl, rfl, hO2, Mid.start rest key val⟩
 case round =>
  obtain ⟨k, hk, rfl, d, a', m, d', out, rfl, rfl, hW, hM⟩ := hrel
  have hml : m <= 100001 := by have := hW.len; have := hM.out.len; rw [hNl.out] at this; omega
  have hbs := hW.bel.size
  have own := hW.own
  by_cases hlt : k < N
  · have z1 : decide ((k : Int) < (N : Int)) = true := by simp; omega
    have hx0 : (0 : Int) <= (k : Int) := Int.natCast_nonneg _
    have hx1 : (k : Int) < (N : Int) := by omega
    have hkr : Hid (k < rest.length) := by show _ < _; rw [hNl.out]; exact hlt
    obtain ⟨b1, off1, rfl, hbl1, hc⟩ := (hp1.below hW.bel).at_ (by rw [hNl.out]; omega)
    obtain ⟨hc1, hc2⟩ := hc k hkr.out
    have hsz := (hrs.2 k).1
    have Mdone : Hid (d = true -> Mid rest key val (k + 1) (out ++ [rest.getD k noPair]) true) := fun e => by subst e; exact hM.out.done hkr.out
    have Mnow : Hid (d = false -> lessB key (rest.getD k noPair).1 = true -> Mid rest key val (k + 1) (out ++ [(key, val)] ++ [rest.getD k noPair]) true) := fun e => by subst e; exact hM.out.now hkr.out
    have Mpast : Hid (d = false -> lessB key (rest.getD k noPair).1 = false -> Mid rest key val (k + 1) (out ++ [rest.getD k noPair]) false) := fun e => by subst e; exact hM.out.past hkr.out
    obtain ⟨p, hpp⟩ : ∃ p, rest.getD k noPair = p := ⟨_, rfl⟩
    have hpe : Hid (rest.getD k noPair = p) := hpp
    rw [hpp] at hc1 hc2 hsz Mdone Mnow Mpast
    clear hpp
    obtain ⟨pk, pv⟩ := p
    simp only at hc1 hc2 hsz
    have hbl2 : b1 < wr.heap.size := hbl1
    clear hc hM
    cases d with
    | true =>
     go_wp2_with (at_builtin; refine wpList_append_lies _ rfl (.tmp 38) (.tmp 43) 23 rfl w1.heap.size 34 i0 (.agg #[.string ⟨#[]⟩, .string ⟨#[]⟩]) 2 32 Tryz.underlying23 hi0 hz0 hz1 hz2 rfl (by decide) (.slice a' m d') m (flatP out) rfl (own.alloc _) ⟨wr.heap.size, 0, none⟩ 1 1 [.string pk, .string pv] rfl rfl (World.news_of_block (heap_alloc_new wr _)) (by simp [Value.oneCell']) (by decide) (by unfold maxLen; omega) (by omega) (by simp; omega) (wr.heap.size + 1) (by simp) ?_; intro g5 c5 w5 hown5 hgrow5 hat5 hlt5)
     go_roundw
     case rel => exact ⟨k + 1, hlt, by go_num, true, _, _, _, _, rfl, rfl, hW.more hown5 hgrow5 rfl, Mdone.out (by first | rfl | trivial)⟩
     case measure => simp [intOf]; omega
    | false =>
     have HL := lessS_q key pk wr hks hsz
     cases hl : lessB key pk with
     | false =>
      rw [hl] at HL
      go_upto_region 10 with (first | (go_at_call 95; refine HL.mono ?_; rintro e w3 ⟨rfl, q, rfl⟩))
      have hW3 := hW.below (drewN_below wr q)
      have own3 := hW3.own
      have hd1 := ((drewN_below wr q).cell (p := ⟨b1, off1 + k * 2, none⟩) hbl2).trans hc1
      have hd2 := ((drewN_below wr q).cell (p := ⟨b1, off1 + k * 2 + 1, none⟩) hbl2).trans hc2
      have hbs3 := hW3.bel.size
      clear own hc1 hc2 HL
      generalize wr.drewN q = w3 at *
      go_wp2_with (at_builtin; refine wpList_append_lies _ rfl (.tmp 38) (.tmp 43) 23 rfl w1.heap.size 34 i0 (.agg #[.string ⟨#[]⟩, .string ⟨#[]⟩]) 2 32 Tryz.underlying23 hi0 hz0 hz1 hz2 rfl (by decide) (.slice a' m d') m (flatP out) rfl (own3.alloc _) ⟨w3.heap.size, 0, none⟩ 1 1 [.string pk, .string pv] rfl rfl (World.news_of_block (heap_alloc_new w3 _)) (by simp [Value.oneCell']) (by decide) (by unfold maxLen; omega) (by omega) (by simp; omega) (w3.heap.size + 1) (by simp) ?_; intro g5 c5 w5 hown5 hgrow5 hat5 hlt5)
      go_roundw
      case rel => exact ⟨k + 1, hlt, by go_num, false, _, _, _, _, rfl, rfl, hW3.more hown5 hgrow5 rfl, Mpast.out (by first | rfl | trivial) hl⟩
      case measure => simp [intOf]; omega
     | true =>
      rw [hl] at HL
      go_upto_region 8 with (first | (go_at_call 95; refine HL.mono ?_; rintro e w3 ⟨rfl, q, rfl⟩))
      have hW3 := hW.below (drewN_below wr q)
      have own3 := hW3.own
      have hd1 := ((drewN_below wr q).cell (p := ⟨b1, off1 + k * 2, none⟩) hbl2).trans hc1
      have hd2 := ((drewN_below wr q).cell (p := ⟨b1, off1 + k * 2 + 1, none⟩) hbl2).trans hc2
      have hbs3 := hW3.bel.size
      clear own hc1 hc2 HL
      generalize wr.drewN q = w3 at *
      go_upto_region 9 with (at_builtin; refine wpList_append_lies _ rfl (.tmp 32) (.tmp 36) 23 rfl w1.heap.size 34 i0 (.agg #[.string ⟨#[]⟩, .string ⟨#[]⟩]) 2 32 Tryz.underlying23 hi0 hz0 hz1 hz2 rfl (by decide) (.slice a' m d') m (flatP out) rfl (own3.alloc _) ⟨w3.heap.size, 0, none⟩ 1 1 [.string key, .string val] rfl rfl (World.news_of_block (heap_alloc_new w3 _)) (by simp [Value.oneCell']) (by decide) (by unfold maxLen; omega) (by omega) (by simp; omega) (w3.heap.size + 1) (by simp) ?_; intro g5 c5 w5 hown5 hgrow5 hat5 hlt5)
      have hW5 := hW3.more (y := (key, val)) hown5 hgrow5 rfl
      have hp5 := hp1.below hW5.bel
      have own5 := hW5.own
      have hbs5 := hW5.bel.size
      obtain ⟨b2, off2, e2, hbl5, hc5⟩ := hp5.at_ (by rw [hNl.out]; omega)
      cases e2
      obtain ⟨hd1, hd2⟩ := hc5 k hkr.out
      have Mn := Mnow.out (by first | rfl | trivial) hl
      replace Mn : Hid _ := Mn
      have hgd : (rest.getD k noPair) = (pk, pv) := hpe.out
      rw [hgd] at hd1 hd2
      simp only at hd1 hd2
      clear own3 hc5 hgd
      go_wp2_with (at_builtin; refine wpList_append_lies _ rfl (.tmp 38) (.tmp 43) 23 rfl w1.heap.size 34 i0 (.agg #[.string ⟨#[]⟩, .string ⟨#[]⟩]) 2 32 Tryz.underlying23 hi0 hz0 hz1 hz2 rfl (by decide) (.slice (some ⟨g5, 0, none⟩) (m + 1) c5) (m + 1) (flatP (out ++ [(key, val)])) rfl (own5.alloc _) ⟨w5.heap.size, 0, none⟩ 1 1 [.string pk, .string pv] rfl rfl (World.news_of_block (heap_alloc_new w5 _)) (by simp [Value.oneCell']) (by decide) (by unfold maxLen; omega) (by omega) (by simp; omega) (w5.heap.size + 1) (by simp) ?_; intro g6 c6 w6 hown6 hgrow6 hat6 hlt6)
      go_roundw
      case rel => exact ⟨k + 1, hlt, by go_num, true, _, _, _, _, rfl, rfl, hW5.more hown6 hgrow6 rfl, Mn.out⟩
      case measure => simp [intOf]; omega
  · obtain rfl : k = N := by omega
    have z1 : decide ((k : Int) < (k : Int)) = false := by simp
    cases d with
    | true =>
     have hfin : Hid (out = ins key val rest) := by
      have := hM.out
      unfold Mid at this
      rw [List.drop_of_length_le (by rw [hNl.out]; exact Nat.le_refl _), List.append_nil] at this
      exact this
     have HF : Hid (PairsAt (ins key val rest) w (.returned (.slice a' m d')) wr) := by
      have hl := hW.len
      subst hl
      rw [<- hfin.out]
      exact ⟨_, _, rfl, hW.up hb1⟩
     clear hM hfin own
     go_wp2_with fail
     go_ret
     exact HF.out
    | false =>
     have hfin : Hid (out ++ [(key, val)] = ins key val rest) := by
      have := hM.out
      unfold Mid at this
      obtain ⟨h1, h2⟩ := this
      rw [List.drop_of_length_le (by rw [hNl.out]; exact Nat.le_refl _), ins] at h2
      show _ = _
      rw [h2, h1]
     clear hM
     go_wp2_with (at_builtin; refine wpList_append_lies _ rfl (.tmp 47) (.tmp 51) 23 rfl w1.heap.size 34 i0 (.agg #[.string ⟨#[]⟩, .string ⟨#[]⟩]) 2 32 Tryz.underlying23 hi0 hz0 hz1 hz2 rfl (by decide) (.slice a' m d') m (flatP out) rfl (own.alloc _) ⟨wr.heap.size, 0, none⟩ 1 1 [.string key, .string val] rfl rfl (World.news_of_block (heap_alloc_new wr _)) (by simp [Value.oneCell']) (by decide) (by unfold maxLen; omega) (by omega) (by simp; omega) (wr.heap.size + 1) (by simp) ?_; intro g5 c5 w5 hown5 hgrow5 hat5 hlt5)
     go_ret
     have hW5 := hW.more (y := (key, val)) hown5 hgrow5 rfl
     rw [hfin.out] at hW5
     have hl := hW5.len
     exact ⟨some ⟨g5, 0, none⟩, c5, by rw [hl]; rfl, by rw [hl]; exact hW5.up hb1⟩
theorem ku_append : ∀ {a b : List ByteArray}, KeysUp a -> KeysUp b -> (∀ x ∈ a, ∀ y ∈ b, lessB x y = true) -> KeysUp (a ++ b)
 | [], _, _, hb, _ => hb
 | x :: xs, b, ha, hb, h => by
  refine ⟨fun y hy => ?_, ku_append ha.2 hb (fun z hz => h z (List.mem_cons_of_mem _ hz))⟩
  rcases List.mem_append.1 hy with hy | hy
  · exact ha.1 y hy
  · exact h x List.mem_cons_self y hy
theorem ins_parts {over under k : ByteArray} (h : insW over under k = true) : lessB over k = true /\ (emp under = true \/ lessB k under = true) := by
 unfold insW at h
 obtain ⟨h1, h2⟩ := (Bool.and_eq_true _ _).mp h
 exact ⟨h1, (Bool.or_eq_true _ _).mp h2⟩
theorem goF_up {fnd : ByteArray -> FN} {hg : ByteArray -> ByteArray -> Bool} {lo hi : ByteArray} {wd : Nat} (hfo : FndOk wd fnd) : ∀ (f : Nat) (hash over under par : ByteArray) (cnt : Nat), KeysUp (keys (goF fnd hg lo hi f hash over under par cnt).2.2) /\ ∀ x ∈ keys (goF fnd hg lo hi f hash over under par cnt).2.2, lessB over x = true /\ (emp under = true \/ lessB x under = true)
 | 0, _, _, _, _, _ => by rw [goF]; exact ⟨trivial, fun x hx => by simp at hx⟩
 | f + 1, hash, over, under, par, cnt => by
  have hnil : KeysUp (keys ([] : List PairT)) /\ ∀ x ∈ keys ([] : List PairT), lessB over x = true /\ (emp under = true \/ lessB x under = true) := ⟨trivial, fun x hx => by simp at hx⟩
  cases h1 : (emp hash || !canW over under lo hi) with
  | true => rw [goF_skip h1]; exact hnil
  | false =>
   by_cases h2 : (fnd hash).2 = 2
   · rw [goF_missing h1 h2]; exact hnil
   · by_cases h20 : (fnd hash).2 = 0
     · cases h3 : (insW over under (fnd hash).1.1 && parW hg par (fnd hash).1.1) with
       | false => rw [goF_place h1 h20 h3]; exact hnil
       | true =>
        by_cases h4 : 500 < cnt + 1
        · rw [goF_many h1 h20 h3 h4]; exact hnil
        · have e : fnd hash = (((fnd hash).1.1, (fnd hash).1.2.1, (fnd hash).1.2.2.1, (fnd hash).1.2.2.2), 0) := by rw [<- h20]
          rw [goF_node h1 e h3 (by omega) rfl rfl]
          obtain ⟨hk1, hk2⟩ := ins_parts ((Bool.and_eq_true _ _).mp h3).1
          have hke : emp (fnd hash).1.1 = false := by
           have okk := (hfo.node hash h20).1
           have h9 : 1 <= (fnd hash).1.1.size := by
            unfold okKey at okk
            simp at okk
            omega
           unfold emp
           exact decide_eq_false (by omega)
          obtain ⟨l1, l2⟩ := goF_up hfo f (fnd hash).1.2.2.1 over (fnd hash).1.1 (fnd hash).1.1 (cnt + 1)
          obtain ⟨r1, r2⟩ := goF_up hfo f (fnd hash).1.2.2.2 (fnd hash).1.1 under (fnd hash).1.1 (goF fnd hg lo hi f (fnd hash).1.2.2.1 over (fnd hash).1.1 (fnd hash).1.1 (cnt + 1)).2.1
          generalize goF fnd hg lo hi f (fnd hash).1.2.2.2 (fnd hash).1.1 under (fnd hash).1.1 (goF fnd hg lo hi f (fnd hash).1.2.2.1 over (fnd hash).1.1 (fnd hash).1.1 (cnt + 1)).2.1 = R at r1 r2 ⊢
          generalize goF fnd hg lo hi f (fnd hash).1.2.2.1 over (fnd hash).1.1 (fnd hash).1.1 (cnt + 1) = L at l1 l2 ⊢
          generalize (fnd hash).1.1 = k at *
          split
          · exact hnil
          · split
            · exact hnil
            · have hl : ∀ x ∈ keys L.2.2, lessB over x = true /\ lessB x k = true := fun x hx => ⟨(l2 x hx).1, by
               rcases (l2 x hx).2 with h | h
               · rw [hke] at h; cases h
               · exact h⟩
              have hin : ∀ x, x ∈ keys (if hasW lo hi k = true then [(k, (fnd hash).1.2.1)] else []) -> x = k := fun x hx => by
               split at hx
               · simpa using hx
               · simp at hx
              have hiu : KeysUp (keys (if hasW lo hi k = true then [(k, (fnd hash).1.2.1)] else [])) := by
               split
               · exact ⟨fun x hx => by simp at hx, trivial⟩
               · trivial
              have hun : ∀ x, lessB x k = true -> (emp under = true \/ lessB x under = true) := fun x hx => by
               rcases hk2 with h | h
               · exact .inl h
               · exact .inr (lessB_tr hx h)
              generalize (if hasW lo hi k = true then [(k, (fnd hash).1.2.1)] else []) = I at hin hiu ⊢
              have ha : KeysUp (keys L.2.2 ++ keys I) := ku_append l1 hiu (fun x hx y hy => by rw [hin y hy]; exact (hl x hx).2)
              have hb : KeysUp ((keys L.2.2 ++ keys I) ++ keys R.2.2) := ku_append ha r1 (fun x hx y hy => by
               rcases List.mem_append.1 hx with hx | hx
               · exact lessB_tr (hl x hx).2 (r2 y hy).1
               · rw [hin x hx]; exact (r2 y hy).1)
              have e3 : keys (L.2.2 ++ I ++ R.2.2) = (keys L.2.2 ++ keys I) ++ keys R.2.2 := by simp [keys]
              simp only [e3]
              refine ⟨hb, fun x hx => ?_⟩
              rcases List.mem_append.1 hx with hx | hx
              · rcases List.mem_append.1 hx with hx | hx
                · exact ⟨(hl x hx).1, hun x (hl x hx).2⟩
                · rw [hin x hx]; exact ⟨hk1, hk2⟩
              · exact ⟨lessB_tr hk1 (r2 x hx).1, (r2 x hx).2⟩
     · rw [goF, if_neg (by rw [h1]; decide), if_neg h2, if_pos h20]; exact hnil
theorem rangeM_up {fnd : ByteArray -> FN} {wd : Nat} (hfo : FndOk wd fnd) (n : Int) (m : Nat) (root lo hi : ByteArray) : KeysUp (keys (rangeM fnd n m root lo hi).1) := by
 unfold rangeM
 split
 · split
   · exact (goF_up hfo 501 root ⟨#[]⟩ ⟨#[]⟩ ⟨#[]⟩ 0).1
   · trivial
 · trivial
end Go.Proofs.YtfmpjlpakldheaaGreatDoor
