import Derived.Test.YthklibioolnggaaGreatDoorAi
namespace Go.Proofs.YthklibioolnggaaGreatDoor
open Go.RowKit Go.Proofs.Sha

theorem dN {B : Nat} {a w : World} (h : Below B a w) (n : Nat) : Below B a (w.drewN n) := ⟨h.os, h.tape, h.output, h.size, h.block⟩
theorem targ_alloc (w : World) (ss : List ByteArray) : TArg (some ⟨w.heap.size, 0, none⟩) ss (w.alloc (.cells (ss.map Value.string).toArray 9)) := by
  refine ⟨fun _ => ⟨_, _, rfl, by simp, fun j hj => ?_⟩⟩
  rw [Nat.zero_add, Lib.cell_of_heap (heap_alloc_new w _) j]
  simp [List.getElem?_map, List.getElem?_eq_getElem hj, List.getD_eq_getElem?_getD]
/-- strings.Split, told by what can be read. -/
theorem isplit_any2 (b : UInt8) (s : ByteArray) (w : World) (h : Env w) (hs : s.size ≤ 1048576) :
    Calls Tryz.prog 23 #[.string s, .string ⟨#[b]⟩] w fun e w' => ∃ a, e = .returned (.slice a (cutB b s).length (cutB b s).length) ∧ TArg a (cutB b s) w' ∧ Below w.heap.size w w' := by
  refine (isplit_any b s w h hs).mono ?_
  rintro e w' ⟨rfl, rfl⟩
  exact ⟨_, rfl, targ_alloc w _, (Below.refl _ _).alloc (Nat.le_refl _) _⟩

set_option maxRecDepth 100000 in
set_option maxHeartbeats 1000000 in
theorem ilines_any (s : ByteArray) (w : World) (h : Env w) (hs : s.size ≤ 1048576) :
    Calls Tryz.prog 13 #[.string s] w fun e w' => ∃ a c, e = .returned (.slice a (linesV s).length c) ∧ TArg a (linesV s) w' ∧ Below w.heap.size w w' := by
  have HC : Hid (∀ W, Env W → Calls Tryz.prog 23 #[.string s, .string ⟨#[10]⟩] W fun e w' => ∃ a, e = .returned (.slice a (cutB 10 s).length (cutB 10 s).length) ∧ TArg a (cutB 10 s) w' ∧ Below W.heap.size W w') := fun W hW => isplit_any2 10 s W hW hs
  have hlv : Hid (linesV s = if ((cutB 10 s).getLast?.getD ⟨#[]⟩).size = 0 then (cutB 10 s).dropLast else cutB 10 s) := rfl
  have hne := cutB_ne 10 s
  have hsz := cutB_size 10 s
  obtain ⟨L, hL⟩ : ∃ L, linesV s = L := ⟨_, rfl⟩
  rw [hL] at hlv ⊢
  clear hL
  obtain ⟨P, hP⟩ : ∃ P, cutB 10 s = P := ⟨_, rfl⟩
  rw [hP] at HC hlv hne hsz
  clear hP
  have hx := getD_size hsz.2 (P.length - 1)
  have hlv : Hid (L = if (P.getD (P.length - 1) ⟨#[]⟩).size = 0 then P.take (P.length - 1) else P) := by
    show _ = _
    rw [hlv.out, last_get P hne, List.dropLast_eq_take]
  obtain ⟨n, hn⟩ : ∃ n, P.length = n + 1 := ⟨P.length - 1, by omega⟩
  have hPn : Hid (P.length = n + 1) := hn
  rw [hn] at HC hlv hsz hx
  rw [Nat.add_sub_cancel] at hx hlv
  have hn2 := hsz.1
  clear hsz hn hne
  have z1 : (0 : Int) ≤ (n : Int) := by omega
  have z2 : (n : Int) < (n : Int) + 1 := by omega
  have z4 : (n : Int) ≤ (n : Int) + 1 := by omega
  go_enter Tryz.func13, Tryz.ntmps13
  go_upto_region 2 with (first | (go_at_call 23; refine (HC.out _ h).mono ?_; rintro e w1 ⟨a, rfl, hT, hb1⟩))
  obtain ⟨b, off, rfl, hlt, hc⟩ := hT.at_ (by rw [hPn.out]; omega)
  have c1 := hc n (by rw [hPn.out]; omega)
  generalize P.getD n ⟨#[]⟩ = x at c1 hx hlv
  clear hc HC
  by_cases hx0 : x.size = 0
  · have hlv' : Hid (L = P.take n) := by show _ = _; rw [hlv.out, if_pos hx0]
    have hlen : Hid (L.length = n) := by show _ = _; rw [hlv'.out, List.length_take, hPn.out]; omega
    have hT' := hT.init n (by rw [hPn.out]; omega)
    rw [← hlv'.out] at hT'
    have e0 : x = ⟨#[]⟩ := ByteArray.ext (Array.eq_empty_of_size_eq_zero hx0)
    subst e0
    clear hlv hlv' hx0 hT
    go_wp2_with fail
    go_ret
    exact ⟨some ⟨b, off, none⟩, _, by rw [hlen.out]; rfl, hT', hb1⟩
  · have hlv' : Hid (L = P) := by show _ = _; rw [hlv.out, if_neg hx0]
    have hlen : Hid (L.length = n + 1) := by show _ = _; rw [hlv'.out, hPn.out]
    have e0 : x.toList.isEmpty = false := by
      rw [tl_eq, ← Bool.not_eq_true, List.isEmpty_iff]; intro h
      have : x.data.toList.length = x.size := rfl
      rw [h] at this; simp at this; omega
    rw [← hlv'.out] at hT
    clear hlv hlv' hx0
    go_wp2_with fail
    go_ret
    exact ⟨some ⟨b, off, none⟩, _, by rw [hlen.out]; rfl, hT, hb1⟩

theorem fit_none (n : Int) : fitV 110 n = true := rfl
/-- The model's head: what it gives, and whether. -/
theorem okT_num (c : UInt8) (t : ByteArray) (hc : c ≠ 119) : okT c t = ((numI t.data.toList).2 && fitV c (numI t.data.toList).1) := by rw [okT, if_neg hc]

def headS (word : List UInt8) (l : Option ByteArray) : Int × Bool :=
  match l with
  | none => (0, false)
  | some l => if (cutB 32 l).length = 2 ∧ ((cutB 32 l).getD 0 ⟨#[]⟩).data.toList = word then numS ((cutB 32 l).getD 1 ⟨#[]⟩).data.toList else (0, false)

set_option maxRecDepth 100000 in
set_option maxHeartbeats 1000000 in
theorem lhead_any (a : Option Addr) (ls : List ByteArray) (c : Nat) (i : Nat) (word : ByteArray) (w : World) (hT : TArg a ls w) (hl : ls.length ≤ 1048577) (hs : ∀ x ∈ ls, x.size ≤ 1048576) (hi : i < 2) :
    Calls Tryz.prog 10 #[.slice a ls.length c, .int .i64 (i : Int), .string word] w fun e w' => e = .returned (.tuple #[.int .i64 (headS word.data.toList ls[i]?).1, .bool (headS word.data.toList ls[i]?).2]) ∧ Below w.heap.size w w' := by
  obtain ⟨N, hN⟩ : ∃ N, ls.length = N := ⟨_, rfl⟩
  have hNl : Hid (ls.length = N) := hN
  rw [hN] at hl ⊢
  clear hN
  obtain ⟨r1, hr1⟩ : ∃ r1, (headS word.data.toList ls[i]?).1 = r1 := ⟨_, rfl⟩
  obtain ⟨r2, hr2⟩ : ∃ r2, (headS word.data.toList ls[i]?).2 = r2 := ⟨_, rfl⟩
  have hr : Hid (headS word.data.toList ls[i]? = (r1, r2)) := by show _ = _; rw [← hr1, ← hr2]
  rw [hr1, hr2]
  clear hr1 hr2
  by_cases hlt : N ≤ i
  · have z1 : (i : Int) ≥ (N : Int) := by omega
    have e1 : Hid (r1 = 0 ∧ r2 = false) := by
      have := hr.out
      rw [List.getElem?_eq_none (by rw [hNl.out]; exact hlt)] at this
      simp only [headS, Prod.mk.injEq] at this
      exact ⟨this.1.symm, this.2.symm⟩
    clear hr
    go_enter Tryz.func10, Tryz.ntmps10
    go_wp2_with fail
    go_ret2
    exact ⟨by rw [e1.out.1, e1.out.2]; rfl, Below.refl _ _⟩
  · have z1 : ¬ ((i : Int) ≥ (N : Int)) := by omega
    have z2 : (0 : Int) ≤ (i : Int) := by omega
    have z3 : (i : Int) < (N : Int) := by omega
    obtain ⟨b, off, rfl, hbl, hc⟩ := hT.at_ (by rw [hNl.out]; omega)
    have c1 := hc i (by rw [hNl.out]; omega)
    have hx := getD_size hs i
    have hg : ls[i]? = some (ls.getD i ⟨#[]⟩) := by
      rw [List.getD_eq_getElem?_getD, List.getElem?_eq_getElem (by rw [hNl.out]; omega)]; rfl
    have hr' : Hid (headS word.data.toList (some (ls.getD i ⟨#[]⟩)) = (r1, r2)) := by show _ = _; rw [← hg]; exact hr.out
    generalize ls.getD i ⟨#[]⟩ = x at c1 hx hr'
    clear hr hg hc hT hs
    have HC : Hid (∀ W, Calls Tryz.prog 19 #[.string x, .int .u8 32] W fun e w' => ∃ a c, e = .returned (.slice a (cutB 32 x).length c) ∧ (cutB 32 x).length ≤ c ∧ TArg a (cutB 32 x) w' ∧ Below W.heap.size W w') := fun W => cut_any x 32 W hx
    have hps := cutB_size 32 x
    have hr2 : Hid ((if (cutB 32 x).length = 2 ∧ ((cutB 32 x).getD 0 ⟨#[]⟩).data.toList = word.data.toList then numS ((cutB 32 x).getD 1 ⟨#[]⟩).data.toList else (0, false)) = (r1, r2)) := hr'.out
    clear hr'
    generalize cutB 32 x = P at HC hps hr2
    obtain ⟨n, hn⟩ : ∃ n, P.length = n := ⟨_, rfl⟩
    have hPn : Hid (P.length = n) := hn
    rw [hn] at HC hps hr2
    clear hn
    go_enter Tryz.func10, Tryz.ntmps10
    go_upto_region 4 with (first | (go_at_call 19; refine (HC.out _).mono ?_; rintro e w1 ⟨a1, c1, rfl, hcap, hT1, hb1⟩))
    by_cases hn2 : n = 2
    · subst hn2
      obtain ⟨b1, off1, rfl, hbl1, hc1⟩ := hT1.at_ (by rw [hPn.out]; omega)
      have d0 := hc1 0 (by rw [hPn.out]; omega)
      have d1 := hc1 1 (by rw [hPn.out]; omega)
      rw [Nat.add_zero] at d0
      have hy := getD_size hps.2 1
      generalize P.getD 0 ⟨#[]⟩ = y0 at d0 hr2
      generalize P.getD 1 ⟨#[]⟩ = y1 at d1 hr2 hy
      clear hc1 hT1 HC
      by_cases he : y0.data.toList = word.data.toList
      · have e0 : y0 = word := bs_eq.1 he
        subst e0
        have hr3 : numS y1.data.toList = (r1, r2) := by have := hr2.out; rwa [if_pos ⟨rfl, rfl⟩] at this
        have HN : Hid (∀ W, Calls Tryz.prog 20 #[.string y1] W fun e w' => e = .returned (.tuple #[.int .i64 r1, .bool r2]) ∧ ∃ m, w' = W.drewN m) := fun W => by
          have := lnumber_any y1 W (by omega)
          rwa [hr3] at this
        clear hr2 hr3 he
        go_wp2_with (first | (go_at_call 20; refine (HN.out _).mono ?_; rintro e w2 ⟨rfl, m2, rfl⟩))
        go_ret2
        exact ⟨rfl, dN hb1 _⟩
      · have e0 : (y0.toList == word.toList) = false := by rw [tl_eq, tl_eq, beq_eq_false_iff_ne]; exact he
        have e1 : Hid (r1 = 0 ∧ r2 = false) := by
          have := hr2.out
          rw [if_neg (fun h => he h.2), Prod.mk.injEq] at this
          exact ⟨this.1.symm, this.2.symm⟩
        clear hr2 he
        go_wp2_with fail
        go_ret2
        exact ⟨by rw [e1.out.1, e1.out.2]; rfl, hb1⟩
    · have e0 : ((n : Int) != 2) = true := by rw [bne_iff_ne]; omega
      have e1 : Hid (r1 = 0 ∧ r2 = false) := by
        have := hr2.out
        rw [if_neg (fun h => hn2 h.1), Prod.mk.injEq] at this
        exact ⟨this.1.symm, this.2.symm⟩
      clear hr2 hn2 HC hps
      go_wp2_with fail
      go_ret2
      exact ⟨by rw [e1.out.1, e1.out.2]; rfl, hb1⟩
end Go.Proofs.YthklibioolnggaaGreatDoor
