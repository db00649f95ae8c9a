import Derived.Test.YtfmpjlpakldheaaGreatDoorZcbb
import Derived.Test.YtfmpjlpakldheaaGreatDoorZcax
import Derived.Test.YtfmpjlpakldheaaGreatDoorZcay
import Derived.Test.YtfmpjlpakldheaaGreatDoorZcao
import Derived.Test.YtfmpjlpakldheaaGreatDoorZcat
import Derived.Test.YtfmpjlpakldheaaGreatDoorZcap
import Derived.Test.YtfmpjlpakldheaaGreatDoorZcar
namespace Go.Proofs.YtfmpjlpakldheaaGreatDoor
open Go.RowKit Go.Proofs.Sha

theorem own2_parg {w : World} {base cap : Nat} {a : Option Addr} {ps : List PairT} (h : w.ownsRow base 34 2 (.slice a ps.length cap) ps.length (flatP ps)) (hs : SmallP ps) : PArg a ps w := by
  refine ⟨hs.1, hs.2, fun hn => ?_⟩
  rcases h.2 with ⟨e, h0⟩ | ⟨g, cap', cur, e, hb, hg, q1, q2, q3, q4⟩
  · omega
  · simp only [Value.slice.injEq] at e
    obtain ⟨rfl, _, _⟩ := e
    refine ⟨g, 0, rfl, (Array.getElem?_eq_some_iff.1 hg).1, fun j hj => ?_⟩
    obtain ⟨e0, e1⟩ := flatP_get ps j hj
    rw [← q4] at e0 e1
    rw [List.getElem?_take, if_pos (by omega)] at e0 e1
    rw [Nat.zero_add]
    exact ⟨(Lib.cell_of_heap hg _).trans (by simpa using e0), (Lib.cell_of_heap hg _).trans (by simpa using e1)⟩
theorem pairsOf_any (f : Tr PairT → ByteArray × ByteArray) (t : Tr PairT) (p : Option Addr) (w : World) (ht : TA 0 f t p w) (hn : t.size ≤ 100000) (hsm : SmallP t.inord) :
    Calls Tryz.prog 104 #[.pointer p] w fun e w' => (∃ a cap, e = .returned (.slice a t.inord.length cap) ∧ PArg a t.inord w') ∧ Below w.heap.size w w' := by
  obtain ⟨bs, hb⟩ := ht.list
  have hlt := fun k hk => hb.lt k hk
  have hbA : Below w.heap.size w (w.alloc (.cells #[.slice none 0 0] 23)) := (Below.refl _ _).alloc (Nat.le_refl _) _
  have hP : PS w.heap.size (w.heap.size + 1) [] none 0 (w.alloc (.cells #[.slice none 0 0] 23)) := ⟨heap_alloc_new w _, ⟨rfl, .inl ⟨rfl, rfl⟩⟩, Nat.lt_succ_self _, by simp⟩
  have hT : TAb (w.heap.size + 1) w.heap.size f t p (w.alloc (.cells #[.slice none 0 0] 23)) := ⟨bs, hb.upd (M := fun _ => False) (Upd.of_below hbA) (fun _ _ q => q), fun k hk => by have := hlt k hk; omega⟩
  have HW := walk_pairs f w.heap.size (w.heap.size + 1) t p [] none 0 _ hT hP (by simp; omega)
  rw [List.nil_append] at HW
  have hmf : ∀ (fn : Fn) (first cap : Array Value) (w : World), (Instr.makeFunc fn first cap).run Tryz.prog w = .ok (.func fn first cap) w := fun _ _ _ _ => rfl
  clear hlt hb ht hP hT
  go_enter Tryz.func104, Tryz.ntmps104
  go_wp2_with (go_at_call 134; refine HW.mono ?_; rintro e w1 ⟨rfl, ⟨a1, c1, hp1⟩, hu1⟩; have hcell := Lib.cell_of_heap hp1.blk 0)
  go_ret
  exact ⟨⟨a1, c1, rfl, own2_parg hp1.own hsm⟩, hbA.trans (hu1.below (by simp) (fun k hk => by omega))⟩
set_option maxRecDepth 100000 in
set_option maxHeartbeats 1000000 in
theorem equal_any (a b : Option Addr) (ps qs : List PairT) (c d : Nat) (w : World) (h : PArg a ps w) (h' : PArg b qs w) :
    Calls Tryz.prog 103 #[.slice a ps.length c, .slice b qs.length d] w fun e w' => e = .returned (.bool (decide (ps = qs))) ∧ Below w.heap.size w w' := by
  have hn := h.le
  have hm := h'.le
  obtain ⟨R, hR⟩ : ∃ R, decide (ps = qs) = R := ⟨_, rfl⟩
  rw [hR]
  have HR : Hid (decide (ps = qs) = R) := hR
  clear hR
  obtain ⟨N, hN⟩ : ∃ N, ps.length = N := ⟨_, rfl⟩
  obtain ⟨M, hM⟩ : ∃ M, qs.length = M := ⟨_, rfl⟩
  rw [hN] at hn ⊢
  rw [hM] at hm ⊢
  by_cases hNM : N = M
  · subst hNM
    have hNl : Hid (ps.length = N) := hN
    have hMl : Hid (qs.length = N) := hM
    clear hN hM
    go_enter Tryz.func103, Tryz.ntmps103
    go_wp2_with fail
    go_loopw [13] (fun t wr => ∃ k : Nat, k ≤ N ∧ t = .int .i64 (k : Int) ∧ Hid (ps.take k = qs.take k) ∧ Below w.heap.size w wr) (fun t _ => N - (intOf t).toNat)
    case atStart => exact ⟨0, Nat.zero_le _, rfl, rfl, Below.refl _ _⟩
    case round =>
      obtain ⟨k, hk, rfl, hsame, hbw⟩ := hrel
      by_cases hlt : k < N
      · have z1 : decide ((k : Int) < (N : Int)) = true := by simp; omega
        have hx0 : (0 : Int) ≤ (k : Int) := Int.natCast_nonneg _
        have hx1 : (k : Int) < (N : Int) := by omega
        obtain ⟨b1, off1, rfl, hbl1, hc⟩ := (h.below hbw).at_ (by rw [hNl.out]; omega)
        obtain ⟨b2, off2, rfl, hbl2, hd⟩ := (h'.below hbw).at_ (by rw [hMl.out]; omega)
        obtain ⟨hc1, hc2⟩ := hc k (by rw [hNl.out]; exact hlt)
        obtain ⟨hd1, hd2⟩ := hd k (by rw [hMl.out]; exact hlt)
        have hkl : k < ps.length := by rw [hNl.out]; exact hlt
        have hkm : k < qs.length := by rw [hMl.out]; exact hlt
        have g1 := getD_lt ps k hkl
        have g2 := getD_lt qs k hkm
        have hstep : ps.getD k noPair = qs.getD k noPair → ps.take (k + 1) = qs.take (k + 1) := fun e => by
          rw [List.take_succ_eq_append_getElem hkl, List.take_succ_eq_append_getElem hkm, hsame.out, ← g1, ← g2, e]
        have hneq : ps.getD k noPair ≠ qs.getD k noPair → R = false := fun e => by
          rw [← HR.out]
          exact decide_eq_false fun q => e (by rw [q])
        clear g1 g2 hkl hkm hc hd
        obtain ⟨x, hx⟩ : ∃ x, ps.getD k noPair = x := ⟨_, rfl⟩
        obtain ⟨y, hy⟩ : ∃ y, qs.getD k noPair = y := ⟨_, rfl⟩
        rw [hx] at hc1 hc2
        rw [hy] at hd1 hd2
        rw [hx, hy] at hstep hneq
        clear hx hy
        obtain ⟨xk, xv⟩ := x
        obtain ⟨yk, yv⟩ := y
        dsimp only at hc1 hc2 hd1 hd2
        replace hstep : Hid _ := hstep
        replace hneq : Hid _ := hneq
        cases v1 : (xk.toList == yk.toList) with
        | false =>
          have hRf : Hid (R = false) := hneq.out (fun e => by
            have : xk = yk := congrArg Prod.fst e
            subst this
            rw [beq_self_eq_true] at v1
            cases v1)
          clear hstep hneq HR hsame
          go_wp2_with fail
          go_region_held3 (fun W => W.cell? ⟨b1, off1 + k * 2, none⟩ = some (.string xk) ∧ W.cell? ⟨b1, off1 + k * 2 + 1, none⟩ = some (.string xv) ∧ W.cell? ⟨b2, off2 + k * 2, none⟩ = some (.string yk) ∧ W.cell? ⟨b2, off2 + k * 2 + 1, none⟩ = some (.string yv)) (exact ⟨hc1, hc2, hd1, hd2⟩) (fail)
          go_wp2_with fail
          go_ret
          exact ⟨by rw [hRf.out]; rfl, hbw.drew⟩
        | true =>
          cases v2 : (xv.toList == yv.toList) with
          | false =>
            have hRf : Hid (R = false) := hneq.out (fun e => by
              have : xv = yv := congrArg Prod.snd e
              subst this
              rw [beq_self_eq_true] at v2
              cases v2)
            clear hstep hneq HR hsame
            go_wp2_with fail
            go_region_held3 (fun W => W.cell? ⟨b1, off1 + k * 2, none⟩ = some (.string xk) ∧ W.cell? ⟨b1, off1 + k * 2 + 1, none⟩ = some (.string xv) ∧ W.cell? ⟨b2, off2 + k * 2, none⟩ = some (.string yk) ∧ W.cell? ⟨b2, off2 + k * 2 + 1, none⟩ = some (.string yv)) (exact ⟨hc1, hc2, hd1, hd2⟩) (fail)
            go_wp2_with fail
            go_ret
            exact ⟨by rw [hRf.out]; rfl, hbw.drew⟩
          | true =>
            have e1 : xk = yk := ByteArray.ext (Array.toList_inj.1 (by rw [beq_iff_eq, ByteArray.toList_eq, ByteArray.toList_eq] at v1; exact v1))
            have e2 : xv = yv := ByteArray.ext (Array.toList_inj.1 (by rw [beq_iff_eq, ByteArray.toList_eq, ByteArray.toList_eq] at v2; exact v2))
            have hs' : Hid (ps.take (k + 1) = qs.take (k + 1)) := hstep.out (by rw [e1, e2])
            clear hstep hneq HR hsame e1 e2
            go_wp2_with fail
            go_region_held3 (fun W => W.cell? ⟨b1, off1 + k * 2, none⟩ = some (.string xk) ∧ W.cell? ⟨b1, off1 + k * 2 + 1, none⟩ = some (.string xv) ∧ W.cell? ⟨b2, off2 + k * 2, none⟩ = some (.string yk) ∧ W.cell? ⟨b2, off2 + k * 2 + 1, none⟩ = some (.string yv)) (exact ⟨hc1, hc2, hd1, hd2⟩) (fail)
            go_wp2_with fail
            go_roundw
            case rel => exact ⟨k + 1, hlt, by go_num, hs', hbw.drew⟩
            case measure => simp [intOf]; omega
      · obtain rfl : k = N := by omega
        have z1 : decide ((k : Int) < (k : Int)) = false := by simp
        have hRt : Hid (R = true) := by
          show R = true
          rw [← HR.out, decide_eq_true_eq]
          have e := hsame.out
          rw [List.take_of_length_le (by rw [hNl.out]; exact Nat.le_refl _), List.take_of_length_le (by rw [hMl.out]; exact Nat.le_refl _)] at e
          exact e
        clear hsame HR
        go_wp2_with fail
        go_ret
        exact ⟨by rw [hRt.out]; rfl, hbw⟩
  · have z0 : ((N : Int) != (M : Int)) = true := by rw [bne_iff_ne]; omega
    have hRf : Hid (R = false) := by
      show R = false
      rw [← HR.out]
      exact decide_eq_false fun e => hNM (by rw [← hN, ← hM, e])
    clear HR hN hM
    go_enter Tryz.func103, Tryz.ntmps103
    go_wp2_with fail
    go_ret
    exact ⟨by rw [hRf.out]; rfl, Below.refl _ _⟩
end Go.Proofs.YtfmpjlpakldheaaGreatDoor
namespace Go.Proofs.YtfmpjlpakldheaaGreatDoor
open Go.RowKit Go.Proofs.Sha

end Go.Proofs.YtfmpjlpakldheaaGreatDoor
namespace Go.Proofs.YtfmpjlpakldheaaGreatDoor
open Go.RowKit Go.Proofs.Sha

/-- What a saving holds after some encodings: what is added, or what is wrong. -/
inductive SvR
  | go (added : List ByteArray)
  | full
  | clash (first enc : ByteArray)
end Go.Proofs.YtfmpjlpakldheaaGreatDoor
namespace Go.Proofs.YtfmpjlpakldheaaGreatDoor
open Go.RowKit Go.Proofs.Sha

end Go.Proofs.YtfmpjlpakldheaaGreatDoor
namespace Go.Proofs.YtfmpjlpakldheaaGreatDoor
open Go.RowKit Go.Proofs.Sha

/-- Pairs whose texts are in bounds. -/
def Bd (L : List PairT) : Prop := ∀ p ∈ L, p.1.size ≤ 1048576 ∧ p.2.size ≤ 1048576
theorem Bd.small {L : List PairT} (h : Bd L) (hl : L.length ≤ 1048576) : SmallP L := by
  refine ⟨hl, fun j => ?_⟩
  by_cases hj : j < L.length
  · rw [List.getD_eq_getElem?_getD, List.getElem?_eq_getElem hj, Option.getD_some]
    exact h _ (List.getElem_mem hj)
  · rw [pget_out _ _ (by omega)]
    exact ⟨Nat.zero_le _, Nat.zero_le _⟩
theorem mem_ins' {k v : ByteArray} {x : PairT} : ∀ {ps : List PairT}, x ∈ ins k v ps → x = (k, v) ∨ x ∈ ps
  | [], h => by simpa [ins] using h
  | p :: ps, h => by
    rw [ins] at h
    split at h
    · simpa using h
    · rcases List.mem_cons.1 h with h | h
      · exact .inr (by rw [h]; exact List.mem_cons_self)
      · rcases mem_ins' h with h | h
        · exact .inl h
        · exact .inr (List.mem_cons_of_mem _ h)
theorem Bd.wth {L : List PairT} (h : Bd L) {k v : ByteArray} (hk : k.size ≤ 1048576) (hv : v.size ≤ 1048576) : Bd (wth L k v) := fun p hp => by
  rcases mem_ins' hp with e | e
  · rw [e]; exact ⟨hk, hv⟩
  · exact h p (List.mem_filter.1 e).1
theorem wth_len (L : List PairT) (k v : ByteArray) : (wth L k v).length ≤ L.length + 1 := by
  have hi : ∀ l : List PairT, (ins k v l).length = l.length + 1 := fun l => by
    induction l with
    | nil => rfl
    | cons p l ih => rw [ins]; split <;> simp [ih]
  unfold Proofs.YtfmpjlpakldheaaGreatDoor.wth
  rw [hi]
  have := wout_le L k
  omega
end Go.Proofs.YtfmpjlpakldheaaGreatDoor
namespace Go.Proofs.YtfmpjlpakldheaaGreatDoor
open Go.RowKit Go.Proofs.Sha

end Go.Proofs.YtfmpjlpakldheaaGreatDoor
namespace Go.Proofs.YtfmpjlpakldheaaGreatDoor
open Go.RowKit Go.Proofs.Sha

end Go.Proofs.YtfmpjlpakldheaaGreatDoor
namespace Go.Proofs.YtfmpjlpakldheaaGreatDoor
open Go.RowKit Go.Proofs.Sha

/-- What Save answers, as a value. -/
abbrev svV (cd n : Int) (a : Option Addr) (m c : Nat) (root x y : ByteArray) : Value := .agg #[.int .i64 cd, .int .i64 n, .slice a m c, .string root, .string x, .string y]
end Go.Proofs.YtfmpjlpakldheaaGreatDoor
namespace Go.Proofs.YtfmpjlpakldheaaGreatDoor
open Go.RowKit Go.Proofs.Sha

end Go.Proofs.YtfmpjlpakldheaaGreatDoor
namespace Go.Proofs.YtfmpjlpakldheaaGreatDoor
open Go.RowKit Go.Proofs.Sha

end Go.Proofs.YtfmpjlpakldheaaGreatDoor
namespace Go.Proofs.YtfmpjlpakldheaaGreatDoor
open Go.RowKit Go.Proofs.Sha

end Go.Proofs.YtfmpjlpakldheaaGreatDoor
namespace Go.Proofs.YtfmpjlpakldheaaGreatDoor
open Go.RowKit Go.Proofs.Sha

end Go.Proofs.YtfmpjlpakldheaaGreatDoor
namespace Go.Proofs.YtfmpjlpakldheaaGreatDoor
open Go.RowKit Go.Proofs.Sha

end Go.Proofs.YtfmpjlpakldheaaGreatDoor
namespace Go.Proofs.YtfmpjlpakldheaaGreatDoor
open Go.RowKit Go.Proofs.Sha

set_option maxRecDepth 100000 in
set_option maxHeartbeats 1000000 in
theorem differ_any (f : Tr PairT → ByteArray × ByteArray) (s t : Tr PairT) (p q : Option Addr) (w : World) (hs : TA 0 f s p w) (ht : TA 0 f t q w) (hn : s.size ≤ 100000) (hm : t.size ≤ 100000) (ss : SmallP s.inord) (st : SmallP t.inord) :
    Calls Tryz.prog 58 #[.agg #[.pointer p, .pointer q]] w fun e w' => e = .returned (.bool (!decide (s.inord = t.inord))) ∧ Below w.heap.size w w' := by
  have hbA : Below w.heap.size w (w.alloc (.cells #[.pointer p, .pointer q] 82)) := (Below.refl _ _).alloc (Nat.le_refl _) _
  have nA := heap_alloc_new w (.cells #[.pointer p, .pointer q] 82)
  have HP : Hid (∀ w', Below w.heap.size w w' → Calls Tryz.prog 104 #[.pointer p] w' fun e w'' => (∃ a cap, e = .returned (.slice a s.inord.length cap) ∧ PArg a s.inord w'') ∧ Below w'.heap.size w' w'') := fun w' hb => pairsOf_any f s p w' (hs.below hb (Nat.le_refl _)) hn ss
  have HQ : Hid (∀ w', Below w.heap.size w w' → Calls Tryz.prog 104 #[.pointer q] w' fun e w'' => (∃ a cap, e = .returned (.slice a t.inord.length cap) ∧ PArg a t.inord w'') ∧ Below w'.heap.size w' w'') := fun w' hb => pairsOf_any f t q w' (ht.below hb (Nat.le_refl _)) hm st
  have HE : Hid (∀ w' a c b d, PArg a s.inord w' → PArg b t.inord w' → Calls Tryz.prog 103 #[.slice a s.inord.length c, .slice b t.inord.length d] w' fun e w'' => e = .returned (.bool (decide (s.inord = t.inord))) ∧ Below w'.heap.size w' w'') := fun w' a c b d h1 h2 => equal_any a b _ _ c d w' h1 h2
  clear hs ht hn hm ss st
  generalize hI : s.inord = I at HP HE
  generalize hJ : t.inord = J at HQ HE
  clear hI hJ
  generalize decide (I = J) = D at HE
  generalize I.length = n1 at HP HE
  generalize J.length = n2 at HQ HE
  obtain ⟨ga, hga⟩ : ∃ ga, w.heap.size = ga := ⟨_, rfl⟩
  rw [hga] at nA
  go_enter Tryz.func58, Tryz.ntmps58
  go_upto_region 1 with fail
  try rw [hga]
  have HS : Hid (∀ W : World, Below (w.heap.size + 1) (w.alloc (.cells #[.pointer p, .pointer q] 82)) W → W.cell? ⟨ga, 0, none⟩ = some (.pointer p) ∧ W.cell? ⟨ga, 1, none⟩ = some (.pointer q)) := fun W hW => by
    have e := (hW.block ga (by omega)).trans nA
    exact ⟨Lib.cell_of_heap e 0, Lib.cell_of_heap e 1⟩
  have hsz : (w.alloc (.cells #[.pointer p, .pointer q] 82)).heap.size = w.heap.size + 1 := by simp
  generalize w.alloc (.cells #[.pointer p, .pointer q] 82) = wa at hbA nA HS hsz ⊢
  rw [← hsz] at HS
  go_region_held3 (fun W => W.cell? ⟨ga, 0, none⟩ = some (.pointer p) ∧ W.cell? ⟨ga, 1, none⟩ = some (.pointer q)) (first | exact HS.out _ (Below.refl _ _).drew | exact HS.out _ hb1 | exact HS.out _ hb2 | exact HS.out _ hb3) (first | (go_at_call_of 104 (Value.pointer p); refine (HP.out _ hbA.drew).mono ?_; rintro e w1 ⟨⟨a1, c1, rfl, hp1⟩, hb1'⟩; have hb1 : Below wa.heap.size wa w1 := (Below.refl wa.heap.size wa).drew.trans hb1'; have hw1 : Below w.heap.size w w1 := hbA.trans (hb1.mono hbA.size)) | (go_at_call_of 104 (Value.pointer q); refine (HQ.out _ hw1).mono ?_; rintro e w2 ⟨⟨a2, c2, rfl, hp2⟩, hb2'⟩; have hb2 : Below wa.heap.size wa w2 := hb1.trans (hb2'.mono hb1.size)) | (go_at_call 103; refine (HE.out _ _ _ _ _ (hp1.below hb2') hp2).mono ?_; rintro e w3 ⟨rfl, hb3'⟩; have hb3 : Below wa.heap.size wa w3 := hb2.trans (hb3'.mono hb2.size)))
  go_wp2_with fail
  go_ret
  exact ⟨rfl, hbA.trans (hb3.mono hbA.size)⟩
theorem encOf_any (b : Nat) (x : PairT) (l r : Option Addr) (e : ByteArray × ByteArray) (w : World) (h : TB b x l r e w) : Calls Tryz.prog 203 #[.pointer (some ⟨b, 0, none⟩)] w fun y w' => y = .returned (.string e.1) ∧ w' = w := by
  have c := h.c37
  clear h
  go_enter Tryz.func203, Tryz.ntmps203
  go_wp2_with fail
  go_ret
  exact ⟨rfl, rfl⟩
/-- What is hashed of an encoding. -/
def txt (e : ByteArray) : ByteArray := ⟨#[78]⟩ ++ e
theorem textOf_any (e : ByteArray) (w : World) (he : e.size ≤ 1048576) : Calls Tryz.prog 102 #[.string e] w fun y w' => y = .returned (.string (txt e)) ∧ w' = w := by
  have z : ¬ (9223372036854775807 < (⟨#[78]⟩ : ByteArray).size + e.size) := by show ¬ _ < 1 + e.size; omega
  have z' : ¬ (9223372036854775807 < 1 + e.size) := by omega
  unfold txt
  go_enter Tryz.func102, Tryz.ntmps102
  go_wp2_with fail
  go_ret
  exact ⟨rfl, rfl⟩
set_option maxRecDepth 100000 in
set_option maxHeartbeats 1000000 in
theorem bsubs_any (b1 b2 : Nat) (x y : PairT) (l1 r1 l2 r2 : Option Addr) (e1 e2 : ByteArray × ByteArray) (w : World) (h1 : TB b1 x l1 r1 e1 w) (h2 : TB b2 y l2 r2 e2 w) :
    Calls Tryz.prog 205 #[.agg #[.pointer (some ⟨b1, 0, none⟩), .pointer (some ⟨b2, 0, none⟩)]] w fun e w' => e = .returned (.tuple #[.agg #[.pointer l1, .pointer l2], .agg #[.pointer r1, .pointer r2]]) ∧ Below w.heap.size w w' := by
  have hm1 : ∀ w' : World, (method 388 79 (.pointer (some ⟨b1, 0, none⟩)) "loop.example/s03048/impl.subtrees").run Tryz.prog w' = .ok (204, .pointer (some ⟨b1, 0, none⟩)) w' := fun _ => by kernel_rfl
  have hm2 : ∀ w' : World, (method 388 79 (.pointer (some ⟨b2, 0, none⟩)) "loop.example/s03048/impl.subtrees").run Tryz.prog w' = .ok (204, .pointer (some ⟨b2, 0, none⟩)) w' := fun _ => by kernel_rfl
  have H1 : Hid (∀ w', Below w.heap.size w w' → Calls Tryz.prog 204 #[.pointer (some ⟨b1, 0, none⟩)] w' fun e w'' => e = .returned (.tuple #[.pointer l1, .pointer r1]) ∧ Below w'.heap.size w' w'') := fun w' h => subs_any b1 x l1 r1 e1 w' (h1.below h (Nat.le_refl _))
  have H2 : Hid (∀ w', Below w.heap.size w w' → Calls Tryz.prog 204 #[.pointer (some ⟨b2, 0, none⟩)] w' fun e w'' => e = .returned (.tuple #[.pointer l2, .pointer r2]) ∧ Below w'.heap.size w' w'') := fun w' h => subs_any b2 y l2 r2 e2 w' (h2.below h (Nat.le_refl _))
  clear h1 h2
  obtain ⟨W, hW⟩ : ∃ W, ((w.alloc (.cells #[.pointer (some ⟨b1, 0, none⟩), .pointer (some ⟨b2, 0, none⟩)] 82)).alloc (.cells #[.pointer none, .pointer none] 82)).alloc (.cells #[.pointer none, .pointer none] 82) = W := ⟨_, rfl⟩
  have hbA : Below w.heap.size w W := by rw [← hW]; exact (((Below.refl _ _).alloc (Nat.le_refl _) _).alloc (by simp) _).alloc (by simp; omega) _
  have n0 : W.heap[w.heap.size]? = some (.cells #[.pointer (some ⟨b1, 0, none⟩), .pointer (some ⟨b2, 0, none⟩)] 82) := by
    rw [← hW, Below.heap_alloc _ _ _ (by simp; omega), Below.heap_alloc _ _ _ (by simp)]; exact heap_alloc_new w _
  have n1 : W.heap[w.heap.size + 1]? = some (.cells #[.pointer none, .pointer none] 82) := by
    have := heap_alloc_new (w.alloc (.cells #[.pointer (some ⟨b1, 0, none⟩), .pointer (some ⟨b2, 0, none⟩)] 82)) (.cells #[.pointer none, .pointer none] 82)
    rw [← hW, Below.heap_alloc _ _ _ (by simp)]; simpa using this
  have n2 : W.heap[w.heap.size + 1 + 1]? = some (.cells #[.pointer none, .pointer none] 82) := by
    have := heap_alloc_new ((w.alloc (.cells #[.pointer (some ⟨b1, 0, none⟩), .pointer (some ⟨b2, 0, none⟩)] 82)).alloc (.cells #[.pointer none, .pointer none] 82)) (.cells #[.pointer none, .pointer none] 82)
    rw [← hW]; simpa using this
  have hsz : W.heap.size = w.heap.size + 1 + 1 + 1 := by rw [← hW]; simp
  go_enter Tryz.func205, Tryz.ntmps205
  go_upto_region 1 with fail
  try rw [hW]
  clear hW
  obtain ⟨ga, hga⟩ : ∃ ga, w.heap.size = ga := ⟨_, rfl⟩
  rw [hga] at n0 n1 n2 hsz ⊢
  have k0 := Lib.cell_of_heap n0 0
  go_wp2_with (first | (go_at_call_of 204 (Value.pointer (some ⟨b1, 0, none⟩)); refine (H1.out _ hbA).mono ?_; rintro e w1 ⟨rfl, hb1'⟩; have k1 := Lib.cell_of_heap ((hb1'.block ga (by omega)).trans n0) 1) | (go_at_call_of 204 (Value.pointer (some ⟨b2, 0, none⟩)); refine (H2.out _ (hbA.trans (hb1'.mono hbA.size))).mono ?_; rintro e w2 ⟨rfl, hb2'⟩; have hb2 : Below W.heap.size W w2 := hb1'.trans (hb2'.mono hb1'.size); have m1 := (hb2.block (ga + 1) (by omega)).trans n1; have m2 := (hb2.block (ga + 1 + 1) (by omega)).trans n2; have d10 := Lib.cell_of_heap m1 0; have d11 := Lib.cell_of_heap m1 1; have d20 := Lib.cell_of_heap m2 0; have d21 := Lib.cell_of_heap m2 1; have f10 : ∀ j, w2.frozen? ⟨ga + 1, j, none⟩ = false := fun j => by { rw [World.frozen?, m1]; rfl }; have f20 : ∀ j, w2.frozen? ⟨ga + 1 + 1, j, none⟩ = false := fun j => by { rw [World.frozen?, m2]; rfl }))
  have hb3 : Below ga w ((((w2.setCell ⟨ga + 1, 0, none⟩ (.pointer l1)).setCell ⟨ga + 1, 1, none⟩ (.pointer l2)).setCell ⟨ga + 1 + 1, 0, none⟩ (.pointer r1)).setCell ⟨ga + 1 + 1, 1, none⟩ (.pointer r2)) := ((((hbA.trans (hb2.mono hbA.size)).mono (by omega)).setCell (by show ga ≤ ga + 1; omega) _).setCell (by show ga ≤ ga + 1; omega) _).setCell (by show ga ≤ ga + 1 + 1; omega) _ |>.setCell (by show ga ≤ ga + 1 + 1; omega) _
  have e1 : ((((w2.setCell ⟨ga + 1, 0, none⟩ (.pointer l1)).setCell ⟨ga + 1, 1, none⟩ (.pointer l2)).setCell ⟨ga + 1 + 1, 0, none⟩ (.pointer r1)).setCell ⟨ga + 1 + 1, 1, none⟩ (.pointer r2)).heap[ga + 1]? = some (.cells #[.pointer l1, .pointer l2] 82) := by
    rw [Below.heap_setCell _ _ _ _ (by show ga + 1 ≠ ga + 1 + 1; omega), Below.heap_setCell _ _ _ _ (by show ga + 1 ≠ ga + 1 + 1; omega)]
    exact heap_setCell_same _ (ga + 1) 1 _ 82 _ (heap_setCell_same w2 (ga + 1) 0 _ 82 (.pointer l1) m1)
  have e2 : ((((w2.setCell ⟨ga + 1, 0, none⟩ (.pointer l1)).setCell ⟨ga + 1, 1, none⟩ (.pointer l2)).setCell ⟨ga + 1 + 1, 0, none⟩ (.pointer r1)).setCell ⟨ga + 1 + 1, 1, none⟩ (.pointer r2)).heap[ga + 1 + 1]? = some (.cells #[.pointer r1, .pointer r2] 82) := by
    refine heap_setCell_same _ (ga + 1 + 1) 1 _ 82 _ (heap_setCell_same _ (ga + 1 + 1) 0 #[.pointer none, .pointer none] 82 (.pointer r1) ?_)
    rw [Below.heap_setCell _ _ _ _ (by show ga + 1 + 1 ≠ ga + 1; omega), Below.heap_setCell _ _ _ _ (by show ga + 1 + 1 ≠ ga + 1; omega)]
    exact m2
  generalize (((w2.setCell ⟨ga + 1, 0, none⟩ (.pointer l1)).setCell ⟨ga + 1, 1, none⟩ (.pointer l2)).setCell ⟨ga + 1 + 1, 0, none⟩ (.pointer r1)).setCell ⟨ga + 1 + 1, 1, none⟩ (.pointer r2) = w5 at hb3 e1 e2 ⊢
  have q1 := Lib.cell_of_heap e1 0
  have q2 := Lib.cell_of_heap e1 1
  have q3 := Lib.cell_of_heap e2 0
  have q4 := Lib.cell_of_heap e2 1
  refine bodyPost_ret (v := .tuple #[.agg #[.pointer l1, .pointer l2], .agg #[.pointer r1, .pointer r2]]) ?_ rfl ⟨rfl, ?_⟩
  · simp [results, Tryz.results205, go_sem, q1, q2, q3, q4]
  · rw [hga]; exact hb3
end Go.Proofs.YtfmpjlpakldheaaGreatDoor
namespace Go.Proofs.YtfmpjlpakldheaaGreatDoor
open Go.RowKit Go.Proofs.Sha

end Go.Proofs.YtfmpjlpakldheaaGreatDoor
namespace Go.Proofs.YtfmpjlpakldheaaGreatDoor
open Go.RowKit Go.Proofs.Sha

end Go.Proofs.YtfmpjlpakldheaaGreatDoor
