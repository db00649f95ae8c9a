import Derived.Test.YtfmpjlpakldheaaGreatDoorZpao
import Derived.Test.YtfmpjlpakldheaaGreatDoorZpas
import Derived.Test.YtfmpjlpakldheaaGreatDoorZpav
import Derived.Test.YtfmpjlpakldheaaGreatDoorZpba
import Derived.Test.YtfmpjlpakldheaaGreatDoorZpau
import Derived.Test.YtfmpjlpakldheaaGreatDoorZpaa
import Derived.Test.YtfmpjlpakldheaaGreatDoorProg
import Derived.Deep.MidRow
import Derived.Test.YtfmpjlpakldheaaGreatDoorZpar
import Derived.Deep.RegionHeld3
import Derived.Deep.Cut
import Derived.Lib.Builder
set_option maxRecDepth 100000
set_option maxHeartbeats 1000000
namespace Go.Proofs.YtfmpjlpakldheaaGreatDoor
open Tryz
open Go.RowKit Go.Proofs.Sha
theorem isMap_any (a : Option Addr) (ps : List PairT) (c : Nat) (w : World) (h : PArg a ps w) :
 Calls prog 53 #[.slice a ps.length c] w fun e w' => e = .returned (.bool (isMapT ps)) /\ Below w.heap.size w w' := by
 have hn := h.le
 obtain ⟨n, hnn⟩ : ∃ n, ps.length = n := ⟨_, rfl⟩
 obtain ⟨B, hB⟩ : ∃ B, isMapT ps = B := ⟨_, rfl⟩
 rw [hB, hnn]
 rw [hnn] at hn
 by_cases hx : 500 < n
 · have hf : Hid (B = false) := by show B = false; rw [<- hB]; unfold isMapT; rw [decide_eq_false (by omega), Bool.false_and]
   have z1 : decide ((500 : Int) < (n : Int)) = true := by rw [decide_eq_true_eq]; omega
   have z2 : decide ((n : Int) > 500) = true := by rw [decide_eq_true_eq]; omega
   clear hB
   go_enter func53, ntmps53
   go_wp2_with fail
   go_ret
   exact ⟨by rw [hf.out]; rfl, Below.refl _ _⟩
 · have hBm : Hid (B = mapTo ps n) := by show B = _; rw [<- hB]; unfold isMapT; rw [decide_eq_true (by omega), Bool.true_and, hnn]
   have z1 : decide ((500 : Int) < (n : Int)) = false := by rw [decide_eq_false_iff_not]; omega
   have z2 : decide ((n : Int) > 500) = false := by rw [decide_eq_false_iff_not]; omega
   have hnl : Hid (ps.length = n) := hnn
   clear hB hnn
   go_enter func53, ntmps53
   go_wp2_with fail
   go_loopw [3, 11] (fun t3 t11 wr => ∃ k : Nat, k <= n /\ t3 = .string (lastK ps k) /\ t11 = .int .i64 (k : Int) /\ Hid (mapTo ps k = true) /\ Below w.heap.size w wr) (fun _ t11 _ => n - (intOf t11).toNat)
   case atStart => exact ⟨0, Nat.zero_le _, rfl, rfl, rfl, Below.refl _ _⟩
   case round =>
    obtain ⟨k, hk, rfl, rfl, hm, hbw⟩ := hrel
    by_cases hlt : k < n
    · have z3 : decide ((k : Int) < (n : Int)) = true := by simp; omega
      have hx0 : (0 : Int) <= (k : Int) := Int.natCast_nonneg _
      have hx1 : (k : Int) < (n : Int) := by omega
      obtain ⟨b, off, rfl, hbl, hc⟩ := (h.below hbw).at_ (by rw [hnl.out]; omega)
      obtain ⟨hc1, hc2⟩ := hc k (by rw [hnl.out]; exact hlt)
      have hgd : Hid (goodAt ps k = (okKey (ps.getD k noPair).1 && (okVal (ps.getD k noPair).2 && Op.bytesLess (lastK ps k).toList (ps.getD k noPair).1.toList))) := rfl
      have hlk : Hid (lastK ps (k + 1) = (ps.getD k noPair).1) := rfl
      obtain ⟨hs1, hs2⟩ := h.sz k
      generalize (ps.getD k noPair).1 = pk at hc1 hgd hlk hs1
      generalize (ps.getD k noPair).2 = pv at hc2 hgd hs2
      generalize lastK ps k = lk at hgd ⊢
      have H1 : Hid (∀ w', Calls prog 63 #[.string pk] w' fun e w'' => e = .returned (.bool (okKey pk)) /\ w' = w'') := fun w' => vkey_any pk w' hs1
      have H2 : Hid (∀ w', Calls prog 64 #[.string pv] w' fun e w'' => e = .returned (.bool (okVal pv)) /\ w' = w'') := fun w' => vval_any pv w' hs2
      clear hc
      cases hk1 : okKey pk with
      | false =>
       rw [hk1] at H1
       have hbf : Hid (B = false) := by
        show B = false
        rw [hBm.out]
        exact mapTo_false ps k n hlt (by rw [hgd.out, hk1, Bool.false_and])
       clear hk1 hgd hm hBm
       have hbA : Below w.heap.size w (wr.alloc (.cells #[.string pk, .string pv] 34)) := hbw.alloc hbw.size _
       go_wp2_with (first | (go_at_call 63; refine (H1.out _).mono ?_; rintro e w1 ⟨rfl, rfl⟩))
       go_ret
       exact ⟨by rw [hbf.out]; rfl, hbA⟩
      | true =>
       rw [hk1] at H1
       cases hv1 : okVal pv with
       | false =>
        rw [hv1] at H2
        have hbf : Hid (B = false) := by
         show B = false
         rw [hBm.out]
         exact mapTo_false ps k n hlt (by rw [hgd.out, hk1, hv1]; rfl)
        clear hk1 hv1 hgd hm hBm
        have hbA : Below w.heap.size w (wr.alloc (.cells #[.string pk, .string pv] 34)) := hbw.alloc hbw.size _
        go_wp2_with (first | (go_at_call 63; refine (H1.out _).mono ?_; rintro e w1 ⟨rfl, rfl⟩) | (go_at_call 64; refine (H2.out _).mono ?_; rintro e w1 ⟨rfl, rfl⟩))
        go_ret
        exact ⟨by rw [hbf.out]; rfl, hbA⟩
       | true =>
        rw [hv1] at H2
        have hg2 : Hid (goodAt ps k = Op.bytesLess lk.toList pk.toList) := by show _ = _; rw [hgd.out, hk1, hv1]; rfl
        have hbA : Below w.heap.size w (wr.alloc (.cells #[.string pk, .string pv] 34)) := hbw.alloc hbw.size _
        clear hk1 hv1 hgd
        cases hls : Op.bytesLess lk.toList pk.toList with
        | false =>
         have hbf : Hid (B = false) := by
          show B = false
          rw [hBm.out]
          exact mapTo_false ps k n hlt (by rw [hg2.out, hls])
         have hor := less_tri lk.toList pk.toList
         rw [hls] at hor
         have hor2 : (Op.bytesLess pk.toList lk.toList || (pk.toList == lk.toList)) = true := by
          cases hq : (Op.bytesLess pk.toList lk.toList || (pk.toList == lk.toList)) with
          | true => rfl
          | false => rw [hq] at hor; cases hor
         clear hg2 hm hBm hor hls
         cases hq1 : Op.bytesLess pk.toList lk.toList with
         | true =>
          clear hor2
          go_wp2_with (first | (go_at_call 63; refine (H1.out _).mono ?_; rintro e w1 ⟨rfl, rfl⟩) | (go_at_call 64; refine (H2.out _).mono ?_; rintro e w1 ⟨rfl, rfl⟩))
          go_ret
          exact ⟨by rw [hbf.out]; rfl, hbA⟩
         | false =>
          rw [hq1, Bool.false_or] at hor2
          go_wp2_with (first | (go_at_call 63; refine (H1.out _).mono ?_; rintro e w1 ⟨rfl, rfl⟩) | (go_at_call 64; refine (H2.out _).mono ?_; rintro e w1 ⟨rfl, rfl⟩))
          go_ret
          exact ⟨by rw [hbf.out]; rfl, hbA⟩
        | true =>
         have hm' : Hid (mapTo ps (k + 1) = true) := by show _ = _; rw [mapTo, hm.out, hg2.out, hls]; rfl
         have hor := less_tri lk.toList pk.toList
         rw [hls] at hor
         have hq1 : Op.bytesLess pk.toList lk.toList = false := by
          cases hq : Op.bytesLess pk.toList lk.toList with
          | false => rfl
          | true => rw [hq, Bool.true_or] at hor; cases hor
         have hq2 : (pk.toList == lk.toList) = false := by
          cases hq : (pk.toList == lk.toList) with
          | false => rfl
          | true => rw [hq, Bool.or_true] at hor; cases hor
         clear hg2 hm hor hls
         go_wp2_with (first | (go_at_call 63; refine (H1.out _).mono ?_; rintro e w1 ⟨rfl, rfl⟩) | (go_at_call 64; refine (H2.out _).mono ?_; rintro e w1 ⟨rfl, rfl⟩))
         go_roundw
         case rel => exact ⟨k + 1, hlt, by rw [hlk.out], by go_num, hm', hbA⟩
         case measure => simp [intOf]; omega
    · obtain rfl : k = n := by omega
      have z3 : decide ((k : Int) < (k : Int)) = false := by simp
      have hbt : Hid (B = true) := by show B = true; rw [hBm.out, hm.out]
      clear hBm hm
      go_wp2_with fail
      go_ret
      exact ⟨by rw [hbt.out]; rfl, hbw⟩
theorem flatP_set : ∀ (l : List PairT) (k : Nat) (x y : ByteArray), k < l.length -> ((flatP l).set (k * 2) (.string x)).set (k * 2 + 1) (.string y) = flatP (l.set k (x, y))
 | [], k, _, _, h => absurd h (Nat.not_lt_zero _)
 | p :: l, 0, _, _, _ => rfl
 | p :: l, k + 1, x, y, h => by
  have := flatP_set l k x y (by simpa using h)
  rw [show (k + 1) * 2 = k * 2 + 2 by omega]
  simpa [flatP] using this
theorem isMapT_apart (ps : List PairT) (h : isMapT ps = true) : Apart ps := by
 unfold isMapT at h
 rw [Bool.and_eq_true] at h
 refine List.pairwise_iff_getElem.2 fun i j hi hj hij e => ?_
 have hl := mapTo_less ps ps.length h.2 i j hij hj
 have hk : keyAt ps i = keyAt ps j := by
  unfold keyAt
  rw [getD_lt _ _ hi, getD_lt _ _ hj, e]
 rw [hk, less_irr] at hl
 cases hl
theorem srange_good (HD : Hid DigSaid) (D : Dec) (wd : Nat) (HDd : Hid (DecSaid 148 wd D)) (hdo : DecOk wd D) (a : Option Addr) (ss : List ByteArray) (c : Nat) (root lo hi : ByteArray) (w : World) (h : SArg a ss w) (hq : Hid (∀ j, (ss.getD j ⟨#[]⟩).size <= 1048575)) (h1 : 1 <= wd) (h2 : wd <= 32)
 (hr : root.size <= 1048576) (hlo : lo.size <= 1048576) (hhi : hi.size <= 1048576) (hp : poolOk (wd : Int) ss.length = true) (hk : hashOk root.size (wd : Int) = true) :
 Calls prog 24 #[.agg #[.int .i64 (wd : Int), .slice a ss.length c], .string root, .string lo, .string hi] w (RangeAt (rangeM (fndD D wd ss) (wd : Int) ss.length root lo hi) w) := by
 by_cases hR0 : (goF (fndD D wd ss) hgW lo hi 501 root ⟨#[]⟩ ⟨#[]⟩ ⟨#[]⟩ 0).1 = 0
 · exact srange_yes HD D wd HDd hdo a ss c root lo hi w h hq h1 h2 hr hlo hhi hp hk hR0
 · exact srange_err HD D wd HDd hdo a ss c root lo hi w h hq h1 h2 hr hlo hhi hp hk hR0
theorem goF_ok {fnd : ByteArray -> FN} {hg : ByteArray -> ByteArray -> Bool} {lo hi : ByteArray} {wd : Nat} (hfo : FndOk wd fnd) : ∀ (f : Nat) (hash over under par : ByteArray) (cnt : Nat), ∀ p ∈ (goF fnd hg lo hi f hash over under par cnt).2.2, okKey p.1 = true /\ okVal p.2 = true
 | 0, _, _, _, _, _, p, hp => by rw [goF] at hp; cases hp
 | f + 1, hash, over, under, par, cnt, p, hp => by
  cases h1 : (emp hash || !canW over under lo hi) with
  | true => rw [goF_skip h1] at hp; cases hp
  | false =>
   by_cases h2 : (fnd hash).2 = 2
   · rw [goF_missing h1 h2] at hp; cases hp
   · by_cases h20 : (fnd hash).2 = 0
     · cases h3 : (insW over under (fnd hash).1.1 && parW hg par (fnd hash).1.1) with
       | false => rw [goF_place h1 h20 h3] at hp; cases hp
       | true =>
        by_cases h4 : 500 < cnt + 1
        · rw [goF_many h1 h20 h3 h4] at hp; cases hp
        · have e : fnd hash = (((fnd hash).1.1, (fnd hash).1.2.1, (fnd hash).1.2.2.1, (fnd hash).1.2.2.2), 0) := by rw [<- h20]
          rw [goF_node h1 e h3 (by omega) rfl rfl] at hp
          split at hp
          · cases hp
          · split at hp
            · cases hp
            · rcases List.mem_append.1 hp with hp | hp
              · rcases List.mem_append.1 hp with hp | hp
                · exact goF_ok hfo f _ _ _ _ _ p hp
                · split at hp
                  · rw [List.mem_singleton] at hp
                    subst hp
                    exact ⟨(hfo.node hash h20).1, (hfo.node hash h20).2.1⟩
                  · cases hp
              · exact goF_ok hfo f _ _ _ _ _ p hp
     · rw [goF, if_neg (by rw [h1]; decide), if_neg h2, if_pos h20] at hp; cases hp
theorem noP_small : noPair.1.size <= 1048576 /\ noPair.2.size <= 1048576 := ⟨Nat.zero_le _, Nat.zero_le _⟩
theorem nil_small : SmallP [] := ⟨by decide, fun j => by rw [pget_out _ _ (Nat.zero_le _)]; exact noP_small⟩
theorem rangeM_small {fnd : ByteArray -> FN} {wd : Nat} (hfo : FndOk wd fnd) (n : Int) (m : Nat) (root lo hi : ByteArray) : (rangeM fnd n m root lo hi).1.length <= 500 /\ SmallP (rangeM fnd n m root lo hi).1 := by
 have hnil : ([] : List PairT).length <= 500 /\ SmallP [] := ⟨by decide, nil_small⟩
 unfold rangeM
 split
 · split
   · rename_i h0
     have h1 := goF_cnt 501 root ⟨#[]⟩ ⟨#[]⟩ ⟨#[]⟩ 0 (by decide) h0
     have h2 := goF_len 501 root ⟨#[]⟩ ⟨#[]⟩ ⟨#[]⟩ 0 h0
     have h3 := goF_ok hfo 501 root ⟨#[]⟩ ⟨#[]⟩ ⟨#[]⟩ 0 (hg := hgW) (lo := lo) (hi := hi)
     generalize goF fnd hgW lo hi 501 root ⟨#[]⟩ ⟨#[]⟩ ⟨#[]⟩ 0 = R at h0 h1 h2 h3 ⊢
     refine ⟨by simp only; omega, by simp only; omega, fun j => ?_⟩
     by_cases hj : j < R.2.2.length
     · obtain ⟨q1, q2⟩ := h3 _ (List.getElem_mem hj)
       simp only [List.getD_eq_getElem?_getD, List.getElem?_eq_getElem hj, Option.getD_some]
       unfold okKey at q1
       unfold okVal at q2
       have q1 := of_decide_eq_true q1
       have q2 := of_decide_eq_true q2
       omega
     · rw [pget_out _ _ (by simp only; omega)]
       exact noP_small
   · exact hnil
 · exact hnil
theorem decOk_of {n : Int} {s k v l r : ByteArray} (h : decPost s n (.returned (.tuple #[nodeV k v l r, .bool true]))) : nodeOk k.size v.size l.size r.size n = true := by
 rcases h with ⟨k', v', l', r', hE, e⟩ | ⟨_, e⟩
 · simp only [nodeV, Ending.returned.injEq, Value.tuple.injEq, Array.mk.injEq, List.cons.injEq, Value.agg.injEq, Value.string.injEq] at e
   obtain ⟨⟨rfl, rfl, rfl, rfl, _⟩, _⟩ := e
   exact hE.1
 · simp at e
theorem ku_app {a b : List ByteArray} (h : KeysUp (a ++ b)) : KeysUp a /\ KeysUp b /\ ∀ x ∈ a, ∀ y ∈ b, lessB x y = true := by
 induction a with
 | nil => exact ⟨trivial, h, fun x hx => by cases hx⟩
 | cons k ks ih =>
  obtain ⟨h1, h2⟩ := h
  obtain ⟨q1, q2, q3⟩ := ih h2
  refine ⟨⟨fun x hx => h1 x (List.mem_append_left _ hx), q1⟩, q2, fun x hx y hy => ?_⟩
  rcases List.mem_cons.1 hx with rfl | hx
  · exact h1 y (List.mem_append_right _ hy)
  · exact q3 x hx y hy
theorem mem_keys {p : PairT} {l : List PairT} (h : p ∈ l) : p.1 ∈ keys l := List.mem_map.2 ⟨p, h, rfl⟩
theorem ku_apart : ∀ {ps : List PairT}, KeysUp (keys ps) -> Apart ps
 | [], _ => List.Pairwise.nil
 | x :: xs, h => List.Pairwise.cons (fun y hy e => by have := h.1 _ (mem_keys hy); rw [e, lessB_irr] at this; cases this) (ku_apart h.2)
def rankL (X : List UInt8) (k : ByteArray) : List Value := X.map B ++ [Value.string k]
def treeL (X : List UInt8) (k v : ByteArray) (l r : Option Addr) (enc h : ByteArray) : List Value := [.string k, .string v] ++ rankL X k ++ [.pointer l, .pointer r, .string enc, .string h]
theorem built4_e (x0 x1 x2 x3 x4 x5 x6 x7 x8 x9 x10 x11 x12 x13 x14 x15 x16 x17 x18 x19 x20 x21 x22 x23 x24 x25 x26 x27 x28 x29 x30 x31 : UInt8) (k v : ByteArray) (l r : Option Addr) : prog.built 133 [(0, .agg #[.string k, .string v]), (1, .agg ([x0, x1, x2, x3, x4, x5, x6, x7, x8, x9, x10, x11, x12, x13, x14, x15, x16, x17, x18, x19, x20, x21, x22, x23, x24, x25, x26, x27, x28, x29, x30, x31].map B ++ [Value.string k]).toArray), (2, .pointer l), (3, .pointer r)] = some (treeL [x0, x1, x2, x3, x4, x5, x6, x7, x8, x9, x10, x11, x12, x13, x14, x15, x16, x17, x18, x19, x20, x21, x22, x23, x24, x25, x26, x27, x28, x29, x30, x31] k v l r ⟨#[]⟩ ⟨#[]⟩).toArray := by kernel_rfl
theorem list32 (X : List UInt8) (h : X.length = 32) : ∃ x0 x1 x2 x3 x4 x5 x6 x7 x8 x9 x10 x11 x12 x13 x14 x15 x16 x17 x18 x19 x20 x21 x22 x23 x24 x25 x26 x27 x28 x29 x30 x31 : UInt8, X = [x0, x1, x2, x3, x4, x5, x6, x7, x8, x9, x10, x11, x12, x13, x14, x15, x16, x17, x18, x19, x20, x21, x22, x23, x24, x25, x26, x27, x28, x29, x30, x31] := by
 match X, h with
 | [x0, x1, x2, x3, x4, x5, x6, x7, x8, x9, x10, x11, x12, x13, x14, x15, x16, x17, x18, x19, x20, x21, x22, x23, x24, x25, x26, x27, x28, x29, x30, x31], _ => exact ⟨_, _, _, _, _, _, _, _, _, _, _, _, _, _, _, _, _, _, _, _, _, _, _, _, _, _, _, _, _, _, _, _, rfl⟩
theorem built4 (X : List UInt8) (h : X.length = 32) (k v : ByteArray) (l r : Option Addr) : prog.built 133 [(0, .agg #[.string k, .string v]), (1, .agg (rankL X k).toArray), (2, .pointer l), (3, .pointer r)] = some (treeL X k v l r ⟨#[]⟩ ⟨#[]⟩).toArray := by
 obtain ⟨x0, x1, x2, x3, x4, x5, x6, x7, x8, x9, x10, x11, x12, x13, x14, x15, x16, x17, x18, x19, x20, x21, x22, x23, x24, x25, x26, x27, x28, x29, x30, x31, rfl⟩ := list32 X h
 exact built4_e x0 x1 x2 x3 x4 x5 x6 x7 x8 x9 x10 x11 x12 x13 x14 x15 x16 x17 x18 x19 x20 x21 x22 x23 x24 x25 x26 x27 x28 x29 x30 x31 k v l r
def PtrT (p : Option Addr) (w : World) : Prop := p = none \/ ∃ (x : Nat) (cs : Array Value) (u : TypeId), p = some ⟨x, 0, none⟩ /\ w.heap[x]? = some (.cells cs u (0, 0))
theorem size52 : (prog.info? 131).map (·.size) = some 33 := by kernel_rfl
theorem size37 : (prog.info? 34).map (·.size) = some 2 := by kernel_rfl
theorem size54 : (prog.info? 133).map (·.size) = some 39 := by kernel_rfl
theorem info54 : ∃ j, prog.info? 133 = some j /\ j.size ≠ 0 := by
 obtain ⟨j, h1, h2⟩ := Option.map_eq_some_iff.1 size54
 exact ⟨j, h1, by rw [h2]; decide⟩
theorem yieldsIf_build {P : Program} {ops : Array Oper} {S : World -> Prop} {o : Oper} {a : Act} (hw : Region.wanted o (yielded ops a.tmps) = true) (t : TypeId) (parts : Array (Nat × Operand)) (ho : o.op = .build t parts) (cells : Array Value)
 (hb : P.built t (parts.toList.map fun (i, x) => (i, a.eval x)) = some cells) : YieldsIf P ops S o (.agg cells) a := by
 refine .inl ⟨hw, fun w _ => ?_⟩
 rw [<- Array.toList_map] at hb
 unfold execOp
 simp only [ho, Sem.run_bind, run_build w t _ cells hb, Result.andThen_ok, Sem.run_pure]
theorem wp_box_row {P : Program} {o : Oper} {a : Act} {w : World} {K : Act -> World -> Prop} {Q : Exit -> Act -> World -> Prop} (ty : TypeId) (x : Operand) (ho : o.op = .box ty x) (cs : Array Value) (hx : a.eval x = .agg cs)
 (h : K (a.put o.dst (.pointer (some ⟨w.heap.size, 0, none⟩))) (w.alloc (.cells cs ty))) : o.wp P a w K Q := by
 unfold Oper.wp execOp
 simp only [ho, hx]
 exact h
theorem rank_size (X : List UInt8) (h : X.length = 32) (k : ByteArray) : (prog.info? 131).map (·.size) = some (rankL X k).length := by
 have e : (rankL X k).length = 33 := by unfold rankL; rw [List.length_append, List.length_map, h]; rfl
 rw [e]; exact size52
theorem ptr_eql (a b : Option Addr) (w : World) (ha : PtrT a w) (hb : PtrT b w) : (binOp .eql 79 (.pointer a) (.pointer b)).run prog w = .ok (.bool (decide (a = b))) w := by
 obtain ⟨j, h1, h2⟩ := info54
 exact run_eql_ptr 79 133 j Tryz.underlying79 h1 h2 a b w ha hb
theorem tree_get (X : List UInt8) (hX : X.length = 32) (k v : ByteArray) (pl pr : Option Addr) (enc h : ByteArray) :
 (treeL X k v pl pr enc h)[35]? = some (.pointer pl) /\ (treeL X k v pl pr enc h)[36]? = some (.pointer pr) /\ (treeL X k v pl pr enc h)[37]? = some (.string enc) /\ (treeL X k v pl pr enc h)[38]? = some (.string h) /\ (treeL X k v pl pr enc h)[0]? = some (.string k) /\ (treeL X k v pl pr enc h)[1]? = some (.string v) := by
 have hl : (X.map B).length = 32 := by rw [List.length_map, hX]
 have e : treeL X k v pl pr enc h = ([.string k, .string v] ++ (X.map B ++ [Value.string k])) ++ [.pointer pl, .pointer pr, .string enc, .string h] := by unfold treeL rankL; simp
 have hl2 : ([Value.string k, .string v] ++ (X.map B ++ [Value.string k])).length = 35 := by simp [hX]
 refine ⟨?_, ?_, ?_, ?_, rfl, rfl⟩ <;> (rw [e, List.getElem?_append_right (by omega), hl2]; rfl)
theorem tree_rank (X : List UInt8) (_hX : X.length = 32) (k v : ByteArray) (pl pr : Option Addr) (enc h : ByteArray) (j : Nat) (u : Value) (hj : (rankL X k)[j]? = some u) : (treeL X k v pl pr enc h)[2 + j]? = some u := by
 have hlt : j < (rankL X k).length := (List.getElem?_eq_some_iff.1 hj).1
 have e : treeL X k v pl pr enc h = [.string k, .string v] ++ (rankL X k ++ [.pointer pl, .pointer pr, .string enc, .string h]) := by unfold treeL; simp
 rw [e, List.getElem?_append_right (by simp), List.getElem?_append_left (by simpa using hlt)]
 simpa using hj
theorem withT_any (b : Nat) (X : List UInt8) (hX : X.length = 32) (k v : ByteArray) (pl pr l r : Option Addr) (enc h : ByteArray) (w : World) (hb : w.heap[b]? = some (.cells (treeL X k v pl pr enc h).toArray 133))
 (p1 : PtrT pl w) (p2 : PtrT pr w) (p3 : PtrT l w) (p4 : PtrT r w) (hne : ¬ (l = pl /\ r = pr)) :
 Calls prog 143 #[.pointer (some ⟨b, 0, none⟩), .pointer l, .pointer r] w fun e w' => ∃ g, e = .returned (.pointer (some ⟨g, 0, none⟩)) /\ w.heap.size <= g /\ w'.heap[g]? = some (.cells (treeL X k v l r ⟨#[]⟩ ⟨#[]⟩).toArray 133) /\ Below w.heap.size w w' := by
 have q1 := ptr_eql l pl w p3 p1
 have q2 := ptr_eql r pr w p4 p2
 have hlen : (X.map B).length = 32 := by rw [List.length_map, hX]
 obtain ⟨g35, g36, g37, g38, g0, g1⟩ := tree_get X hX k v pl pr enc h
 have c35 : w.cell? ⟨b, 35, none⟩ = some (.pointer pl) := (ZC hb 35).trans (by simpa using g35)
 have c36 : w.cell? ⟨b, 36, none⟩ = some (.pointer pr) := (ZC hb 36).trans (by simpa using g36)
 have hr2 : w.rangeAt b 2 (rankL X k) := fun j u hj => (ZC hb (2 + j)).trans (by simpa using tree_rank X hX k v pl pr enc h j u hj)
 have hr0 : w.rangeAt b 0 [.string k, .string v] := fun j u hj => (ZC hb (0 + j)).trans (by
  match j, hj with
  | 0, hj => simpa using g0.trans hj
  | 1, hj => simpa using g1.trans hj)
 clear g35 g36 g37 g38 g0 g1 hlen
 clear p1 p2 p3 p4
 have hd : decide (l = pl) = false \/ (decide (l = pl) = true /\ decide (r = pr) = false) := by
  by_cases e1 : l = pl
  · exact .inr ⟨decide_eq_true e1, decide_eq_false fun e2 => hne ⟨e1, e2⟩⟩
  · exact .inl (decide_eq_false e1)
 have nT := heap_alloc_new w.drew (.cells (treeL X k v l r ⟨#[]⟩ ⟨#[]⟩).toArray 133)
 have hT : Below w.heap.size w (w.drew.alloc (.cells (treeL X k v l r ⟨#[]⟩ ⟨#[]⟩).toArray 133)) := ((Below.refl _ _).drew).alloc (Nat.le_refl _) _
 clear hne
 rcases hd with d1 | ⟨d1, d2⟩
 · rw [d1] at q1
   clear d1 q2
   go_enter func143, ntmps143
   go_upto_region 3 with fail
   refine wp_region_held_drew (S := fun W => W.rangeAt b 0 [.string k, .string v] /\ W.rangeAt b 2 (rankL X k)) (by kernel_rfl) ⟨hr0, hr2⟩ (fun hHeld => ?_)
   refine tkI 0 ?_
   simp only [Act.put, zq]
   refine tkI 1 ?_
   simp only [Act.put, zq]
   refine tkI 2 ?_
   simp only [Act.put, zq]
   refine tkH (i := 3) (v := _) rfl (yieldsIf_load_mid (by rfl) _ _ rfl _ _ rfl _ _ (fun w h => h.1) Tryz.underlying34 rfl size37) ?_
   simp only [Act.put, zq]
   refine tkI 4 ?_
   simp only [Act.put, zq]
   refine tkI 5 ?_
   simp only [Act.put, zq]
   refine tkI 6 ?_
   simp only [Act.put, zq]
   refine tkH (i := 7) (v := _) rfl (yieldsIf_load_mid (by rfl) _ _ rfl _ _ rfl _ _ (fun w h => h.2) Tryz.underlying131 rfl (rank_size X hX k)) ?_
   simp only [Act.put, zq]
   refine tkI 8 ?_
   simp only [Act.put, zq]
   refine tkI 9 ?_
   simp only [Act.put, zq]
   refine tkH (i := 10) (v := _) rfl (yieldsIf_build (by rfl) 133 #[(0, .tmp 25), (1, .tmp 29), (2, .tmp 30), (3, .tmp 31)] rfl (treeL X k v l r ⟨#[]⟩ ⟨#[]⟩).toArray (by exact built4 X hX k v l r)) ?_
   simp only [Act.put, zq]
   refine rdH 11 (fun K hK => ?_)
   rw [if_pos (by rfl)]
   refine wp_box_row 133 _ rfl _ rfl ?_
   refine hK.out _ _ ⟨(World.rangeAt_alloc hHeld.1 _), (World.rangeAt_alloc hHeld.2 _)⟩ (fun hHeld => ?_)
   clear hK K
   simp only [Act.put, zq]
   refine tkI 12 ?_
   simp only [Act.put, zq]
   refine wpAnyH_done (by kernel_rfl) ?_ _
   go_wp2_with fail
   go_ret
   exact ⟨w.heap.size, rfl, Nat.le_refl _, nT, hT⟩
 · rw [d1] at q1
   rw [d2] at q2
   clear d1 d2
   go_enter func143, ntmps143
   go_upto_region 3 with fail
   refine wp_region_held_drew (S := fun W => W.rangeAt b 0 [.string k, .string v] /\ W.rangeAt b 2 (rankL X k)) (by kernel_rfl) ⟨hr0, hr2⟩ (fun hHeld => ?_)
   refine tkI 0 ?_
   simp only [Act.put, zq]
   refine tkI 1 ?_
   simp only [Act.put, zq]
   refine tkI 2 ?_
   simp only [Act.put, zq]
   refine tkH (i := 3) (v := _) rfl (yieldsIf_load_mid (by rfl) _ _ rfl _ _ rfl _ _ (fun w h => h.1) Tryz.underlying34 rfl size37) ?_
   simp only [Act.put, zq]
   refine tkI 4 ?_
   simp only [Act.put, zq]
   refine tkI 5 ?_
   simp only [Act.put, zq]
   refine tkI 6 ?_
   simp only [Act.put, zq]
   refine tkH (i := 7) (v := _) rfl (yieldsIf_load_mid (by rfl) _ _ rfl _ _ rfl _ _ (fun w h => h.2) Tryz.underlying131 rfl (rank_size X hX k)) ?_
   simp only [Act.put, zq]
   refine tkI 8 ?_
   simp only [Act.put, zq]
   refine tkI 9 ?_
   simp only [Act.put, zq]
   refine tkH (i := 10) (v := _) rfl (yieldsIf_build (by rfl) 133 #[(0, .tmp 25), (1, .tmp 29), (2, .tmp 30), (3, .tmp 31)] rfl (treeL X k v l r ⟨#[]⟩ ⟨#[]⟩).toArray (by exact built4 X hX k v l r)) ?_
   simp only [Act.put, zq]
   refine rdH 11 (fun K hK => ?_)
   rw [if_pos (by rfl)]
   refine wp_box_row 133 _ rfl _ rfl ?_
   refine hK.out _ _ ⟨(World.rangeAt_alloc hHeld.1 _), (World.rangeAt_alloc hHeld.2 _)⟩ (fun hHeld => ?_)
   clear hK K
   simp only [Act.put, zq]
   refine tkI 12 ?_
   simp only [Act.put, zq]
   refine wpAnyH_done (by kernel_rfl) ?_ _
   go_wp2_with fail
   go_ret
   exact ⟨w.heap.size, rfl, Nat.le_refl _, nT, hT⟩
theorem with_same (b : Nat) (X : List UInt8) (hX : X.length = 32) (k v : ByteArray) (pl pr : Option Addr) (enc h : ByteArray) (w : World) (hb : w.heap[b]? = some (.cells (treeL X k v pl pr enc h).toArray 133))
 (p1 : PtrT pl w) (p2 : PtrT pr w) :
 Calls prog 143 #[.pointer (some ⟨b, 0, none⟩), .pointer pl, .pointer pr] w fun e w' => e = .returned (.pointer (some ⟨b, 0, none⟩)) /\ w' = w := by
 have q1 := ptr_eql pl pl w p1 p1
 have q2 := ptr_eql pr pr w p2 p2
 rw [decide_eq_true rfl] at q1 q2
 obtain ⟨g35, g36, g37, g38, g0, g1⟩ := tree_get X hX k v pl pr enc h
 have c35 : w.cell? ⟨b, 35, none⟩ = some (.pointer pl) := (ZC hb 35).trans (by simpa using g35)
 have c36 : w.cell? ⟨b, 36, none⟩ = some (.pointer pr) := (ZC hb 36).trans (by simpa using g36)
 clear g35 g36 g37 g38 g0 g1 hb p1 p2
 go_enter func143, ntmps143
 go_wp2_with fail
 go_ret
 exact ⟨rfl, rfl⟩
end Go.Proofs.YtfmpjlpakldheaaGreatDoor
