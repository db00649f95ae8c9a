import Derived.Test.YtdnbhejacpjgfaaGreatDoorZl
import Derived.Test.YtdnbhejacpjgfaaGreatDoorZm
import Derived.Test.YtdnbhejacpjgfaaGreatDoorZj
import Derived.Test.YtdnbhejacpjgfaaGreatDoorZb
import Derived.Test.YtdnbhejacpjgfaaGreatDoorZc
import Derived.Deep.AppendLies
namespace Go.Proofs.YtdnbhejacpjgfaaGreatDoor
open Go.RowKit Go.Proofs.Sha

abbrev at37 (gb c : Nat) : Value := .func (.func 37) #[] #[.pointer (some ⟨gb, 0, none⟩), .pointer (some ⟨c, 0, none⟩)]
theorem gt_bad (sb gb c wd : Nat) (lo hi root : ByteArray) (v0 v2 : Value) (w : World) (hb : w.heap[sb]? = some (.cells #[v0, .int .i64 (wd : Int), v2] 87)) (hr : root.size ≤ 1048576) (hk : hashOk root.size (wd : Int) = false) :
    Calls Tryz.prog 35 #[.pointer (some ⟨sb, 0, none⟩), .string root, intoV lo hi, at37 gb c] w fun e w' => e = .returned (.int .i64 1) ∧ Below w.heap.size w w' := by
  have HV := fun w' => vlink_any root (wd : Int) w' hr
  rw [hk] at HV
  have hA : Below w.heap.size w (w.alloc (.cells #[at37 gb c] 77)) := (Below.refl _ _).alloc (Nat.le_refl _) _
  have c1 : (w.alloc (.cells #[at37 gb c] 77)).cell? ⟨sb, 1, none⟩ = some (.int .i64 (wd : Int)) := Lib.cell_of_heap ((hA.block sb (Array.getElem?_eq_some_iff.1 hb).1).trans hb) 1
  go_enter Tryz.func35, Tryz.ntmps35
  go_wp2_with (first | (go_at_call 44; refine (HV _).mono ?_; rintro e w2 ⟨rfl, rfl⟩))
  go_ret
  exact ⟨rfl, hA⟩
set_option maxRecDepth 100000 in
set_option maxHeartbeats 1000000 in
theorem gt_ok (fnd : ByteArray → FN) (wd : Nat) (hfo : FndOk wd fnd) (wg : World) (B0 sb gb c : Nat) (lo hi root : ByteArray) (v0 v2 : Value) (w : World) (hb : w.heap[sb]? = some (.cells #[v0, .int .i64 (wd : Int), v2] 87)) (hr : root.size ≤ 1048576) (hk : hashOk root.size (wd : Int) = true) (hsz : root.size = 0 ∨ root.size = wd)
    (hbw : Below B0 wg w) (hBc : B0 ≤ c) (hBs : B0 ≤ w.heap.size) (hgb : w.heap[gb]? = some (.cells #[.string lo, .string hi] 50)) (hcb : w.heap[c]? = some (.cells #[.slice none 0 0] 26))
    (HF : Hid (∀ (hash : ByteArray) w', hash.size = wd → Below B0 wg w' → Calls Tryz.prog 64 #[.pointer (some ⟨sb, 0, none⟩), .string hash] w' fun e w'' => e = .returned (nodeT (fnd hash)) ∧ Below w'.heap.size w' w''))
    (HR : Hid (∀ (k : ByteArray) w', okKey k = true → Below B0 wg w' → Calls Tryz.prog 71 #[Value.string k] w' fun e w'' => e = .returned (.agg (rkL k).toArray) ∧ Below w'.heap.size w' w'')) (R : Int × Nat × List PairT) (hRe : goF fnd hgW lo hi 501 root ⟨#[]⟩ ⟨#[]⟩ ⟨#[]⟩ 0 = R) :
    Calls Tryz.prog 35 #[.pointer (some ⟨sb, 0, none⟩), .string root, intoV lo hi, at37 gb c] w fun e w' => e = .returned (.int .i64 R.1) ∧ Fr w.heap.size (fun q => q = c) w w' ∧ (R.1 = 0 → ∃ base a cap, w.heap.size ≤ base ∧ LS c base R.2.2 a cap w') := by
  have HV := fun w' => vlink_any root (wd : Int) w' hr
  rw [hk] at HV
  have hA : Below w.heap.size w (w.alloc (.cells #[at37 gb c] 77)) := (Below.refl _ _).alloc (Nat.le_refl _) _
  have c1 : (w.alloc (.cells #[at37 gb c] 77)).cell? ⟨sb, 1, none⟩ = some (.int .i64 (wd : Int)) := Lib.cell_of_heap ((hA.block sb (Array.getElem?_eq_some_iff.1 hb).1).trans hb) 1
  go_enter Tryz.func35, Tryz.ntmps35
  go_upto_region 4 with (first | (go_at_call 44; refine (HV _).mono ?_; rintro e w2 ⟨rfl, rfl⟩))
  have hgl := (Array.getElem?_eq_some_iff.1 hgb).1
  have hcl := (Array.getElem?_eq_some_iff.1 hcb).1
  have hW : Below w.heap.size w (((w.alloc (.cells #[at37 gb c] 77)).alloc (.cells #[.pointer (some ⟨sb, 0, none⟩), .int .i64 0, .int .i64 0] 90)).alloc (.cells #[.pointer (some ⟨w.heap.size + 1, 0, none⟩)] 88)) := (((Below.refl _ _).alloc (Nat.le_refl _) _).alloc (by simp) _).alloc (by simp; omega) _
  have nX := heap_alloc_new ((w.alloc (.cells #[at37 gb c] 77)).alloc (.cells #[.pointer (some ⟨sb, 0, none⟩), .int .i64 0, .int .i64 0] 90)) (.cells #[.pointer (some ⟨w.heap.size + 1, 0, none⟩)] 88)
  have nL0 : ((w.alloc (.cells #[at37 gb c] 77)).alloc (.cells #[.pointer (some ⟨sb, 0, none⟩), .int .i64 0, .int .i64 0] 90)).heap[w.heap.size + 1]? = some (.cells #[.pointer (some ⟨sb, 0, none⟩), .int .i64 0, .int .i64 0] 90) := by
    have := heap_alloc_new (w.alloc (.cells #[at37 gb c] 77)) (.cells #[.pointer (some ⟨sb, 0, none⟩), .int .i64 0, .int .i64 0] 90)
    rw [World.size_alloc] at this
    exact this
  have nL := (Below.heap_alloc ((w.alloc (.cells #[at37 gb c] 77)).alloc (.cells #[.pointer (some ⟨sb, 0, none⟩), .int .i64 0, .int .i64 0] 90)) (.cells #[.pointer (some ⟨w.heap.size + 1, 0, none⟩)] 88) (w.heap.size + 1) (by simp)).trans nL0
  clear nL0
  have nA := (Below.heap_alloc ((w.alloc (.cells #[at37 gb c] 77)).alloc (.cells #[.pointer (some ⟨sb, 0, none⟩), .int .i64 0, .int .i64 0] 90)) (.cells #[.pointer (some ⟨w.heap.size + 1, 0, none⟩)] 88) w.heap.size (by simp; omega)).trans ((Below.heap_alloc (w.alloc (.cells #[at37 gb c] 77)) (.cells #[.pointer (some ⟨sb, 0, none⟩), .int .i64 0, .int .i64 0] 90) w.heap.size (by simp)).trans (heap_alloc_new w (.cells #[at37 gb c] 77)))
  have hzW : (((w.alloc (.cells #[at37 gb c] 77)).alloc (.cells #[.pointer (some ⟨sb, 0, none⟩), .int .i64 0, .int .i64 0] 90)).alloc (.cells #[.pointer (some ⟨w.heap.size + 1, 0, none⟩)] 88)).heap.size = w.heap.size + 3 := by simp
  rw [World.size_alloc, World.size_alloc] at nX
  generalize ((w.alloc (.cells #[at37 gb c] 77)).alloc (.cells #[.pointer (some ⟨sb, 0, none⟩), .int .i64 0, .int .i64 0] 90)).alloc (.cells #[.pointer (some ⟨w.heap.size + 1, 0, none⟩)] 88) = W at hW nX nL nA hzW ⊢
  obtain ⟨S, hS⟩ : ∃ S, w.heap.size = S := ⟨_, rfl⟩
  have nc : W.heap[c]? = some (.cells #[.slice none 0 0] 26) := (hW.block c hcl).trans hcb
  have ng : W.heap[gb]? = some (.cells #[.string lo, .string hi] 50) := (hW.block gb hgl).trans hgb
  have hst : Stc B0 (S + 3) (S + 1) c gb (S + 1 + 1) S := by
    rw [hS] at hgl hcl hBs
    have hne : gb ≠ c := ne_of_type ng nc (by decide)
    exact ⟨by omega, by omega, by omega, by omega, by omega, by omega, by omega, by omega, by omega, by omega, by omega, by omega, by omega, hne, by omega⟩
  have hbW : Below B0 wg W := hbw.trans (hW.mono hBs)
  rw [hS] at nX nL nA hzW
  have hEn : Env wg B0 (S + 3) (S + 1) c gb (S + 1 + 1) S lo hi W := ⟨nX, nA, ng, hbW, by omega⟩
  have hLn : LD (S + 1) sb 0 0 W := nL
  have hSn : LS c (S + 3) [] none 0 W := ⟨nc, ⟨rfl, .inl ⟨rfl, rfl⟩⟩, by omega⟩
  have HB := branchAt_any root ⟨#[]⟩ ⟨#[]⟩ none W
  have HW : Hid (∀ p w3, LinkAt root ⟨#[]⟩ ⟨#[]⟩ none p w3 → (∀ q, p = some q → W.heap.size ≤ q.block) → Below W.heap.size W w3 → Calls Tryz.prog 45 #[.pointer p, intoV lo hi, atV (S + 1 + 1) S] w3 fun e w' => (∃ x, e = .returned (.bool x)) ∧ w'.cell? ⟨S + 1 + 1, 0, none⟩ = some (.pointer (some ⟨S + 1, 0, none⟩)) ∧ w'.cell? ⟨S + 1, 2, none⟩ = some (.int .i64 R.1) ∧ Fr w.heap.size (fun q => q = c) w w' ∧ (R.1 = 0 → ∃ base a cap, w.heap.size ≤ base ∧ LS c base R.2.2 a cap w')) := fun p w3 hl hp hb3 => by
    refine (walk_any fnd wd hfo wg B0 (S + 3) (S + 1) sb c gb (S + 1 + 1) S lo hi hst HF HR 501 root ⟨#[]⟩ ⟨#[]⟩ ⟨#[]⟩ none p 0 [] none 0 w3 (hEn.below hst hb3) hl (.inl ⟨rfl, rfl⟩) (hLn.below hb3) (hSn.below hb3) (fun q hq => by have := hp q hq; omega) hsz (by omega) (by omega) (Nat.le_refl _)).mono ?_
    rw [hRe]
    rintro e w' ⟨rfl, f', g', n'⟩
    have hE' := (hEn.below hst hb3).fr hst f' (fun q hq => by
      rcases hq with ⟨x, hx, e⟩ | e | e
      · have := hp x hx; exact .inr (.inr (by omega))
      · exact .inl e
      · exact .inr (.inl e))
    have hld : ∃ m, LD (S + 1) sb m R.1 w' := by
      by_cases h0 : R.1 = 0
      · rw [h0]; exact ⟨_, (g' h0).1⟩
      · exact n' h0
    obtain ⟨m, hld⟩ := hld
    refine ⟨⟨_, rfl⟩, Lib.cell_of_heap hE'.bx 0, Lib.cell_of_heap hld 2, ?_, fun h0 => ?_⟩
    · refine ((Fr.of_below (base := w.heap.size) (N := fun q => q = c) hW).trans (Fr.of_below (N := fun q => q = c) hb3) (fun _ _ x => x)).trans (f'.base (by omega)) (fun q hq hx => ?_)
      rcases hx with ⟨x, hx, e⟩ | e | e
      · have := hp x hx; omega
      · omega
      · exact e
    · obtain ⟨a', cap', h'⟩ := (g' h0).2
      exact ⟨S + 3, a', cap', by omega, by simpa using h'⟩
  clear hEn hLn hSn nX nL nA nc ng hgl hcl hbW HF HR
  go_wp2_with (first | (go_at_call 46; refine HB.mono ?_; rintro e w3 ⟨p, rfl, hl3, hp3, hb3⟩) | (go_at_call 45; refine (HW.out _ _ hl3 hp3 hb3).mono ?_; rintro e w4 ⟨⟨x, rfl⟩, d1, d2, d3⟩))
  go_ret
  exact ⟨rfl, d3⟩
end Go.Proofs.YtdnbhejacpjgfaaGreatDoor
namespace Go.Proofs.YtdnbhejacpjgfaaGreatDoor
open Go.RowKit Go.Proofs.Sha

set_option maxRecDepth 100000 in
set_option maxHeartbeats 1000000 in
theorem pw_any (fnd : ByteArray → FN) (wd : Nat) (hfo : FndOk wd fnd) (sb : Nat) (lo hi root : ByteArray) (v0 v2 : Value) (w : World) (hb : w.heap[sb]? = some (.cells #[v0, .int .i64 (wd : Int), v2] 87)) (hr : root.size ≤ 1048576)
    (HF : Hid (∀ (hash : ByteArray) w', hash.size = wd → Below w.heap.size w w' → Calls Tryz.prog 64 #[.pointer (some ⟨sb, 0, none⟩), .string hash] w' fun e w'' => e = .returned (nodeT (fnd hash)) ∧ Below w'.heap.size w' w''))
    (HR : Hid (∀ (k : ByteArray) w', okKey k = true → Below w.heap.size w w' → Calls Tryz.prog 71 #[Value.string k] w' fun e w'' => e = .returned (.agg (rkL k).toArray) ∧ Below w'.heap.size w' w'')) :
    Calls Tryz.prog 20 #[.pointer (some ⟨sb, 0, none⟩), .string root, .agg #[.string lo, .string hi]] w (RangeAt (if hashOk root.size (wd : Int) = true then (if (goF fnd hgW lo hi 501 root ⟨#[]⟩ ⟨#[]⟩ ⟨#[]⟩ 0).1 = 0 then ((goF fnd hgW lo hi 501 root ⟨#[]⟩ ⟨#[]⟩ ⟨#[]⟩ 0).2.2, 0) else ([], (goF fnd hgW lo hi 501 root ⟨#[]⟩ ⟨#[]⟩ ⟨#[]⟩ 0).1)) else ([], 1)) w) := by
  obtain ⟨R, hR⟩ : ∃ R, goF fnd hgW lo hi 501 root ⟨#[]⟩ ⟨#[]⟩ ⟨#[]⟩ 0 = R := ⟨_, rfl⟩
  rw [hR]
  have hW : Below w.heap.size w ((w.alloc (.cells #[.string lo, .string hi] 50)).alloc (.cells #[.slice none 0 0] 26)) := ((Below.refl _ _).alloc (Nat.le_refl _) _).alloc (by simp) _
  have nC := heap_alloc_new (w.alloc (.cells #[.string lo, .string hi] 50)) (.cells #[.slice none 0 0] 26)
  have nG := (Below.heap_alloc (w.alloc (.cells #[.string lo, .string hi] 50)) (.cells #[.slice none 0 0] 26) w.heap.size (by simp)).trans (heap_alloc_new w (.cells #[.string lo, .string hi] 50))
  rw [World.size_alloc] at nC
  have hzW : ((w.alloc (.cells #[.string lo, .string hi] 50)).alloc (.cells #[.slice none 0 0] 26)).heap.size = w.heap.size + 2 := by simp
  have hbW := (hW.block sb (Array.getElem?_eq_some_iff.1 hb).1).trans hb
  cases hk : hashOk root.size (wd : Int) with
  | false =>
    rw [if_neg (by decide)]
    have HG := gt_bad sb w.heap.size (w.heap.size + 1) wd lo hi root v0 v2 _ hbW hr hk
    have HP : Hid (∀ w', Below w.heap.size w w' → RangeAt ([], 1) w (.returned (.tuple #[.slice none 0 0, .int .i64 1])) w') := fun w' hw' => ⟨⟨none, 0, rfl, ⟨rfl, .inl ⟨rfl, rfl⟩⟩⟩, hw'⟩
    have HQ : Hid (∀ w2, Below ((w.alloc (.cells #[.string lo, .string hi] 50)).alloc (.cells #[.slice none 0 0] 26)).heap.size ((w.alloc (.cells #[.string lo, .string hi] 50)).alloc (.cells #[.slice none 0 0] 26)) w2 → Below w.heap.size w w2) := fun w2 hb2 => hW.trans (hb2.mono hW.size)
    clear HF HR hR hzW nC nG hbW hW hb
    go_enter Tryz.func20, Tryz.ntmps20
    go_wp2_with (first | (go_at_call 35; refine HG.mono ?_; rintro e w2 ⟨rfl, hb2⟩; replace hb2 := HQ.out _ hb2))
    go_ret2
    exact HP.out _ hb2
  | true =>
    rw [if_pos rfl]
    have hsz : root.size = 0 ∨ root.size = wd := by
      unfold hashOk at hk
      rcases (Bool.or_eq_true _ _).mp hk with h | h
      · exact .inl (of_decide_eq_true h)
      · exact .inr (by have := of_decide_eq_true h; omega)
    have HG := gt_ok fnd wd hfo w w.heap.size sb w.heap.size (w.heap.size + 1) lo hi root v0 v2 _ hbW hr hk hsz hW (by omega) hW.size nG nC HF HR R hR
    have HQ : Hid (∀ w2, Fr ((w.alloc (.cells #[.string lo, .string hi] 50)).alloc (.cells #[.slice none 0 0] 26)).heap.size (fun q => q = w.heap.size + 1) ((w.alloc (.cells #[.string lo, .string hi] 50)).alloc (.cells #[.slice none 0 0] 26)) w2 → Below w.heap.size w w2) := fun w2 hf => hW.trans (hf.below hW.size (fun q e => by omega) hW.size)
    by_cases h0 : R.1 = 0
    · rw [if_pos h0]
      rw [h0] at HG
      have HL : Hid (∀ w2 (base : Nat) a cap, ((w.alloc (.cells #[.string lo, .string hi] 50)).alloc (.cells #[.slice none 0 0] 26)).heap.size ≤ base → Below w.heap.size w w2 → LS (w.heap.size + 1) base R.2.2 a cap w2 → w2.cell? ⟨w.heap.size + 1, 0, none⟩ = some (.slice a R.2.2.length cap) ∧ RangeAt (R.2.2, 0) w (.returned (.tuple #[.slice a R.2.2.length cap, .int .i64 0])) w2) := fun w2 base a cap hbs hb2 hl => ⟨Lib.cell_of_heap hl.blk 0, ⟨⟨a, cap, rfl, own2_mono hl.own (Nat.le_trans hW.size hbs)⟩, hb2⟩⟩
      clear HF HR hR hzW nC nG hbW hW hb h0
      go_enter Tryz.func20, Tryz.ntmps20
      go_wp2_with (first | (go_at_call 35; refine HG.mono ?_; rintro e w2 ⟨rfl, hf2, hl2⟩; obtain ⟨base, a2, cap2, hbs2, hl2⟩ := hl2 (by trivial); obtain ⟨c2, hr2⟩ := HL.out _ _ _ _ hbs2 (HQ.out _ hf2) hl2))
      go_ret2
      exact hr2
    · rw [if_neg h0]
      have HP : Hid (∀ w', Below w.heap.size w w' → RangeAt ([], R.1) w (.returned (.tuple #[.slice none 0 0, .int .i64 R.1])) w') := fun w' hw' => ⟨⟨none, 0, rfl, ⟨rfl, .inl ⟨rfl, rfl⟩⟩⟩, hw'⟩
      clear HF HR hR hzW nC nG hbW hW hb
      go_enter Tryz.func20, Tryz.ntmps20
      go_wp2_with (first | (go_at_call 35; refine HG.mono ?_; rintro e w2 ⟨rfl, hf2, hl2⟩; replace hf2 := HQ.out _ hf2))
      go_ret2
      exact HP.out _ hf2
end Go.Proofs.YtdnbhejacpjgfaaGreatDoor
namespace Go.Proofs.YtdnbhejacpjgfaaGreatDoor
open Go.RowKit Go.Proofs.Sha

theorem own_cells {w : World} {base g n : Nat} {v : Value} {xs : List Value} (h : w.ownsRow base 9 1 v n xs) (hv : v.ownBlock = some g) : base ≤ g ∧ g < w.heap.size ∧ ∃ cur, w.heap[g]? = some (.cells cur 9 (0, 0)) := by
  rcases h.2 with ⟨rfl, _⟩ | ⟨g', cap, cur, rfl, hb, hg, _⟩
  · cases hv
  · obtain rfl : g' = g := Option.some.inj hv
    exact ⟨hb, (Array.getElem?_eq_some_iff.1 hg).1, cur, hg⟩
theorem own_kept {w w' : World} {base n : Nat} {v : Value} {xs : List Value} (h : w.ownsRow base 9 1 v n xs) (hk : ∀ g, v.ownBlock = some g → g < w.heap.size → w'.heap[g]? = w.heap[g]?) : w'.ownsRow base 9 1 v n xs := by
  refine ⟨h.1, ?_⟩
  rcases h.2 with ⟨h1, h2⟩ | ⟨g, cap, cur, hv, hb, hg, rest⟩
  · exact .inl ⟨h1, h2⟩
  · exact .inr ⟨g, cap, cur, hv, hb, (hk g (by rw [hv]; rfl) (Array.getElem?_eq_some_iff.1 hg).1).trans hg, rest⟩
theorem own_sarg {w : World} {base n c : Nat} {a : Option Addr} {ss : List ByteArray} (h : w.ownsRow base 9 1 (.slice a ss.length c) n (ss.map Value.string)) (hl : ss.length ≤ 1048576) (hs : ∀ j, (ss.getD j ⟨#[]⟩).size ≤ 1048576) : SArg a ss w := by
  refine ⟨hl, hs, fun hn => ?_⟩
  rcases h.2 with ⟨e, h0⟩ | ⟨g, cap, cur, e, hb, hg, q1, q2, q3, q4⟩
  · simp only [Value.slice.injEq] at e; omega
  · simp only [Value.slice.injEq] at e
    obtain ⟨rfl, e2, rfl⟩ := e
    refine ⟨g, 0, rfl, (Array.getElem?_eq_some_iff.1 hg).1, fun j hj => ?_⟩
    rw [Nat.zero_add, cell_of_row w g j cur 9 (0, 0) hg]
    have hx : (ss.map Value.string)[j]? = some (.string (ss.getD j ⟨#[]⟩)) := by
      rw [List.getElem?_map, List.getElem?_eq_getElem hj, List.getD_eq_getElem?_getD, List.getElem?_eq_getElem hj]; rfl
    rw [← q4, List.getElem?_take, if_pos (by omega)] at hx
    simpa using hx
theorem wrapI_in (x : Int) (h : -9223372036854775808 ≤ x ∧ x ≤ 9223372036854775807) : IntKind.i64.wrap x = x := by rw [IntKind.wrap_i64]; omega
theorem placesF_app (wd : Nat) (es : List ByteArray) (e : ByteArray) (k : Nat) (hk : k ≤ es.length) : placesF wd (es ++ [e]) k = placesF wd es k := by
  induction k with
  | zero => rfl
  | succ k ih =>
    rw [placesF, placesF, ih (by omega)]
    congr 2
    rw [List.getD_eq_getElem?_getD, List.getD_eq_getElem?_getD, List.getElem?_append_left (by omega)]
theorem placesF_snoc (wd : Nat) (es : List ByteArray) (e : ByteArray) : placesF wd (es ++ [e]) (es ++ [e]).length = addF (placesF wd es es.length) (cutW wd (sha (78 :: e.data.toList))) (es.length : Int) := by
  rw [List.length_append, List.length_singleton, placesF, placesF_app wd es e es.length (Nat.le_refl _)]
  congr 1
  rw [List.getD_eq_getElem?_getD, List.getElem?_append_right (Nat.le_refl _), Nat.sub_self]
  rfl
/-- A stock in its block: the encodings, and the places of their hashes. -/
structure StockAt (sb r base wd : Nat) (es : List ByteArray) (a : Option Addr) (c : Nat) (w : World) : Prop where
  blk : w.heap[sb]? = some (.cells #[.slice a es.length c, .int .i64 (wd : Int), .map (some r)] 87)
  own : w.ownsRow base 9 1 (.slice a es.length c) es.length (es.map Value.string)
  map : MapF (placesF wd es es.length) r w
  hl : sb < base
  hr : r < base
  hne : sb ≠ r
  hb : base ≤ w.heap.size
theorem StockAt.below {sb r base wd : Nat} {es : List ByteArray} {a : Option Addr} {c : Nat} {w w' : World} (h : StockAt sb r base wd es a c w) (hb : Below w.heap.size w w') : StockAt sb r base wd es a c w' := by
  have h1 := h.hl
  have h2 := h.hb
  exact ⟨(hb.block sb (by omega)).trans h.blk, own_kept h.own (fun g _ hg => hb.block g hg), h.map.below hb, h1, h.hr, h.hne, Nat.le_trans h2 hb.size⟩

set_option maxRecDepth 100000 in
theorem newStock_any (wd : Nat) (w : World) : Calls Tryz.prog 40 #[.int .i64 (wd : Int)] w fun e w' => ∃ sb r, e = .returned (.pointer (some ⟨sb, 0, none⟩)) ∧ StockAt sb r (sb + 1) wd [] none 0 w' ∧ Below w.heap.size w w' ∧ w.heap.size ≤ r ∧ r < sb := by
  go_enter Tryz.func40, Tryz.ntmps40
  go_wp2_with fail
  refine (newP_any (wd : Int) w).mono ?_
  rintro e w1 ⟨r, rfl, hr, hM, hb⟩
  have hrl : r < w1.heap.size := by
    obtain ⟨es, cl, hg, _, _⟩ := hM.is
    exact (Array.getElem?_eq_some_iff.1 hg).1
  have hbA : Below w1.heap.size w1 (w1.alloc (.cells #[.slice none 0 0, .int .i64 (wd : Int), .map (some r)] 87)) := (Below.refl _ _).alloc (Nat.le_refl _) _
  have nA := heap_alloc_new w1 (.cells #[.slice none 0 0, .int .i64 (wd : Int), .map (some r)] 87)
  go_wp2_with fail
  go_ret
  exact ⟨w1.heap.size, r, rfl, ⟨nA, World.ownsRow_nil _ _ _ _, hM.below hbA, by omega, by omega, by omega, by simp⟩, hb.trans (hbA.mono hb.size), hr, hrl⟩

set_option maxRecDepth 100000 in
set_option maxHeartbeats 1000000 in
theorem stockAdd_any {K : World → Prop} (HH : Hid (HashSaid K)) (keep : Hid (∀ w1 w2, K w1 → Below w1.heap.size w1 w2 → K w2)) (sb r base wd : Nat) (es : List ByteArray) (a : Option Addr) (c : Nat) (enc : ByteArray) (w : World) (h : StockAt sb r base wd es a c w) (hK : K w) (hs : enc.size ≤ 1048576) (h1 : wd ≤ 32) (hlen : es.length ≤ 1048576) :
    Calls Tryz.prog 41 #[.pointer (some ⟨sb, 0, none⟩), .string enc] w fun e w' => ∃ a' c', e = .returned (.tuple #[]) ∧ StockAt sb r base wd (es ++ [enc]) a' c' w' ∧ ∀ n, n ≤ sb → n ≤ r → Below n w w' := by
  obtain ⟨F, hF⟩ : ∃ F, placesF wd es es.length = F := ⟨_, rfl⟩
  have HF : Hid (placesF wd (es ++ [enc]) (es ++ [enc]).length = addF F (cutW wd (sha (78 :: enc.data.toList))) (es.length : Int)) := by
    show _ = _
    rw [placesF_snoc, hF]
  obtain ⟨i0, hi0, hz0, hz1, hz2⟩ := info_parts info9
  have hM := h.map
  rw [hF] at hM
  obtain ⟨m, hm⟩ : ∃ m, es.length = m := ⟨_, rfl⟩
  have HAdd : Hid (∀ w', Below w.heap.size w w' → Calls Tryz.prog 51 #[.agg #[.int .i64 (wd : Int), .map (some r)], .string enc, .int .i64 (m : Int)] w' fun e w'' => e = .returned (.tuple #[]) ∧ MapF (addF F (cutW wd (sha (78 :: enc.data.toList))) (m : Int)) r w'' ∧ w'.grownBy w'' (some r)) := fun w' hb => add_any HH wd r F enc _ w' (hM.below hb) (keep.out _ _ hK hb) keep hs h1
  have hblk := h.blk
  have hlb := h.hl
  have hrb := h.hr
  have hne := h.hne
  have hbs := h.hb
  have oA := h.own
  rw [hm] at hblk oA hlen
  have HX : Hid (∀ w5 g4 c4, w5.heap[sb]? = some (.cells #[.slice (some ⟨g4, 0, none⟩) (m + 1) c4, .int .i64 (wd : Int), .map (some r)] 87) →
      w5.ownsRow base 9 1 (.slice (some ⟨g4, 0, none⟩) (m + 1) c4) (m + 1) (es.map Value.string ++ [.string enc]) → MapF (addF F (cutW wd (sha (78 :: enc.data.toList))) (m : Int)) r w5 → base ≤ w5.heap.size →
      StockAt sb r base wd (es ++ [enc]) (some ⟨g4, 0, none⟩) c4 w5) := by
    intro w5 g4 c4 q1 q2 q3 q4
    have hl : (es ++ [enc]).length = m + 1 := by rw [List.length_append, hm]; rfl
    refine ⟨by rw [hl]; exact q1, by rw [hl, List.map_append]; exact q2, ?_, hlb, hrb, hne, q4⟩
    rw [HF.out, hm]; exact q3
  generalize addF F (cutW wd (sha (78 :: enc.data.toList))) (m : Int) = G at HX HAdd
  clear HF hM hF HH keep hK hs h1
  have HC : Hid (∀ W : World, W.heap[sb]? = w.heap[sb]? → W.cell? ⟨sb, 0, none⟩ = some (.slice a m c) ∧ W.cell? ⟨sb, 1, none⟩ = some (.int .i64 (wd : Int)) ∧ W.cell? ⟨sb, 2, none⟩ = some (.map (some r))) := fun W hW => by
    have hb := hW.trans hblk
    exact ⟨Lib.cell_of_heap hb 0, Lib.cell_of_heap hb 1, Lib.cell_of_heap hb 2⟩
  have hlt : sb < w.heap.size := by omega
  replace oA : Hid _ := oA
  replace hblk : Hid _ := hblk
  replace hi0 : Hid _ := hi0
  replace hz0 : Hid _ := hz0
  replace hz1 : Hid _ := hz1
  replace hz2 : Hid _ := hz2
  clear h hm
  go_enter Tryz.func41, Tryz.ntmps41
  go_wp2_with fail
  go_region_held3 (fun W => W.cell? ⟨sb, 0, none⟩ = some (.slice a m c) ∧ W.cell? ⟨sb, 1, none⟩ = some (.int .i64 (wd : Int)) ∧ W.cell? ⟨sb, 2, none⟩ = some (.map (some r))) (first | exact HC.out _ rfl | exact HC.out _ hlb1) (first | (go_at_call 51; refine (HAdd.out _ (Below.refl w.heap.size w).drew).mono ?_; rintro e w1 ⟨rfl, hM1, hg1'⟩; have hg1 : w.grownBy w1 (some r) := grownBy_trans (grownBy_of_below (Below.refl w.heap.size w).drew _) hg1'; have hlb1 : w1.heap[sb]? = w.heap[sb]? := hg1.block sb hlt (fun e => hne (Option.some.inj e)); clear hg1'))
  have hb1 := hlb1.trans hblk.out
  have oA1 : w1.ownsRow base 9 1 (.slice a m c) m (es.map Value.string) := own_kept oA.out (fun g hv hg => hg1.block g hg (fun e => by have := Option.some.inj e; have := (own_cells oA.out hv).1; omega))
  have hs1 := hg1.size
  have c3 := Lib.cell_of_heap hb1 0
  have hbA : Below w1.heap.size w1 (w1.alloc (.cells #[.string enc] 9)) := (Below.refl _ _).alloc (Nat.le_refl _) _
  clear HAdd HC
  go_wp2_with (first | (refine wpList_append_lies _ rfl (.tmp 19) (.tmp 21) 22 rfl base 9 i0 (.string ⟨#[]⟩) 1 16 Tryz.underlying22 hi0.out hz0.out hz1.out hz2.out rfl (by decide) _ m (es.map Value.string) rfl (oA1.alloc _) ⟨w1.heap.size, 0, none⟩ 1 1 [.string enc] rfl rfl (World.news_of_block (heap_alloc_new w1 _)) (by simp [Value.oneCell']) (by decide) (by unfold maxLen; omega) (by omega) (by simp; omega) (w1.heap.size + 1) (by simp) ?_; intro g4 c4 w4 hown4 hgrow4 hat4 hlt4; have hb4 := (hgrow4.block sb (by simp; omega) (fun e => by have := (own_cells oA1 e.symm).1; omega)).trans ((hbA.block sb (by omega)).trans hb1); have k3 := Lib.cell_of_heap hb4 0; have f3 : w4.frozen? ⟨sb, 0, none⟩ = false := by rw [World.frozen?, hb4]; rfl))
  go_end0
  obtain ⟨w5, hw5⟩ : ∃ w5, w5 = w4.setCell ⟨sb, 0, none⟩ (.slice (some ⟨g4, 0, none⟩) (m + 1) c4) := ⟨_, rfl⟩
  have hs4 := hgrow4.size
  simp at hs4
  have hg5 := grownBy_setCell w4 sb 0 (.slice (some ⟨g4, 0, none⟩) (m + 1) c4)
  have hs5 := hg5.size
  have hg4b : base ≤ g4 := (own_cells hown4 rfl).1
  rw [← hw5] at hg5 hs5
  refine ⟨some ⟨g4, 0, none⟩, c4, rfl, ?_, ?_⟩
  · rw [← hw5]
    refine HX.out w5 g4 c4 (by rw [hw5]; exact heap_setCell_same w4 sb 0 _ 87 _ hb4) (own_kept hown4 (fun g hv hg => by have e : g4 = g := Option.some.inj hv; exact hg5.block g hg (fun e' => by have := Option.some.inj e'; omega))) ?_ (by omega)
    have hMa := hM1.below hbA
    have hMb : MapF G r w4 := by
      obtain ⟨es', cl, hh, q1, q2⟩ := hMa.is
      exact ⟨es', cl, (hgrow4.block r (Array.getElem?_eq_some_iff.1 hh).1 (fun e => by have := (own_cells oA1 e.symm).1; omega)).trans hh, q1, q2⟩
    exact hMb.kept hg5 (fun e => hne e.symm)
  · rw [← hw5]
    intro n hn1 hn2
    have b1 : Below n w w1 := below_of_grown hg1 hn2 (by omega)
    have b2 : Below n w1 (w1.alloc (.cells #[.string enc] 9)) := hbA.mono (by omega)
    have b3 : Below n (w1.alloc (.cells #[.string enc] 9)) w4 := ⟨hgrow4.os, hgrow4.tape, hgrow4.output, hgrow4.size, fun k hk => hgrow4.block k (by simp; omega) (fun e => by have := (own_cells oA1 e.symm).1; omega)⟩
    have b4 : Below n w4 w5 := below_of_grown hg5 hn1 (by omega)
    exact ((b1.trans b2).trans b3).trans b4
end Go.Proofs.YtdnbhejacpjgfaaGreatDoor
namespace Go.Proofs.YtdnbhejacpjgfaaGreatDoor
open Go.RowKit Go.Proofs.Sha

set_option maxRecDepth 100000 in
set_option maxHeartbeats 1000000 in
theorem stockOf_any {K : World → Prop} (HH : Hid (HashSaid K)) (keep : Hid (∀ w1 w2, K w1 → Below w1.heap.size w1 w2 → K w2)) (wd : Nat) (a : Option Addr) (ss : List ByteArray) (c : Nat) (w : World) (h : SArg a ss w) (hK : K w) (h1 : wd ≤ 32) :
    Calls Tryz.prog 21 #[.agg #[.int .i64 (wd : Int), .slice a ss.length c]] w fun e w' => ∃ sb r a' c', e = .returned (.pointer (some ⟨sb, 0, none⟩)) ∧ StockAt sb r (sb + 1) wd ss a' c' w' ∧ Below w.heap.size w w' := by
  have hn := h.le
  have hbA : Below w.heap.size w (w.alloc (.cells #[.int .i64 (wd : Int), .slice a ss.length c] 29)) := (Below.refl _ _).alloc (Nat.le_refl _) _
  have nA := heap_alloc_new w (.cells #[.int .i64 (wd : Int), .slice a ss.length c] 29)
  obtain ⟨ga, hga⟩ : ∃ ga, w.heap.size = ga := ⟨_, rfl⟩
  rw [hga] at nA
  have hsA : (w.alloc (.cells #[.int .i64 (wd : Int), .slice a ss.length c] 29)).heap.size = ga + 1 := by simp; omega
  go_enter Tryz.func21, Tryz.ntmps21
  go_upto_region 1 with fail
  try rw [hga]
  generalize w.alloc (.cells #[.int .i64 (wd : Int), .slice a ss.length c] 29) = wa at hbA nA hsA ⊢
  have c0 := Lib.cell_of_heap nA 0
  go_upto_region 2 with (first | (go_at_call 40; refine (newStock_any wd _).mono ?_; rintro e w1 ⟨sb, r, rfl, hS, hb1, hr1, hr2⟩))
  have nA1 := (hb1.block ga (by omega)).trans nA
  have hbw := hbA.trans (hb1.mono hbA.size)
  have c1 := Lib.cell_of_heap nA1 1
  clear c0 hb1 nA
  go_wp2_with fail
  go_loopw [12] (fun t12 wr => ∃ (k : Nat) (a' : Option Addr) (c' : Nat), k ≤ ss.length ∧ t12 = .int .i64 (k : Int) ∧ StockAt sb r (sb + 1) wd (ss.take k) a' c' wr ∧ Below w.heap.size w wr) (fun t12 _ => ss.length - (intOf t12).toNat)
  case atStart => exact ⟨0, none, 0, Nat.zero_le _, rfl, hS, hbw⟩
  case round =>
    clear c1 nA1 hS hbw
    obtain ⟨k, a', c', hk, rfl, hSk, hbk⟩ := hrel
    by_cases hlt : k < ss.length
    · have z1 : decide ((k : Int) < (ss.length : Int)) = true := by simp; omega
      obtain ⟨b, off, rfl, hbl, hc⟩ := (h.below hbk).at_ (by omega)
      have hcx := hc k hlt
      have htk : ss.take (k + 1) = ss.take k ++ [ss.getD k ⟨#[]⟩] := by
        rw [List.take_add_one, List.getD_eq_getElem?_getD, List.getElem?_eq_getElem hlt]; rfl
      obtain ⟨s, hs⟩ : ∃ s, ss.getD k ⟨#[]⟩ = s := ⟨_, rfl⟩
      have hsz : s.size ≤ 1048576 := by rw [← hs]; exact h.sz k
      rw [hs] at hcx htk
      have HAdd : Hid (Calls Tryz.prog 41 #[.pointer (some ⟨sb, 0, none⟩), .string s] wr fun e w' => ∃ a'' c'', e = .returned (.tuple #[]) ∧ StockAt sb r (sb + 1) wd (ss.take k ++ [s]) a'' c'' w' ∧ ∀ n, n ≤ sb → n ≤ r → Below n wr w') := stockAdd_any HH keep sb r (sb + 1) wd (ss.take k) a' c' s wr hSk (keep.out _ _ hK hbk) hsz h1 (by rw [List.length_take]; omega)
      rw [← htk] at HAdd
      clear hc hs htk hSk
      have hx0 : (0 : Int) ≤ (k : Int) := Int.natCast_nonneg _
      have hx1 : (k : Int) < (ss.length : Int) := by omega
      go_wp2_with (first | (go_at_call 41; refine HAdd.out.mono ?_; rintro e w5 ⟨a5, c5, rfl, hS5, hb5⟩))
      have hb6 := hbk.trans (hb5 w.heap.size (by omega) (by omega))
      go_roundw
      case rel => exact ⟨k + 1, a5, c5, hlt, by go_num, hS5, hb6⟩
      case measure => simp [intOf]; omega
    · obtain rfl : k = ss.length := by omega
      have z1 : decide ((ss.length : Int) < (ss.length : Int)) = false := by simp
      rw [List.take_length] at hSk
      go_wp2_with fail
      go_ret
      exact ⟨sb, r, a', c', rfl, hSk, hbk⟩

/-- The encoding at a place that is found. -/
def encAt (es : List ByteArray) : Option Nat → ByteArray
  | none => ⟨#[]⟩
  | some i => es.getD i ⟨#[]⟩
set_option maxRecDepth 100000 in
set_option maxHeartbeats 1000000 in
theorem stockFirst_any (sb r base wd : Nat) (es : List ByteArray) (a : Option Addr) (c : Nat) (hash : ByteArray) (w : World) (h : StockAt sb r base wd es a c w) (hs : ∀ j, (es.getD j ⟨#[]⟩).size ≤ 1048576) (hl : es.length ≤ 1048576) (h1 : wd ≤ 32) (h2 : hash.size = wd) (fx : Option Nat) (hfx : firstI (hitB wd es hash) es.length = fx) :
    Calls Tryz.prog 69 #[.pointer (some ⟨sb, 0, none⟩), .string hash] w fun e w' => e = .returned (.tuple #[.string (encAt es fx), .bool fx.isSome]) ∧ Below w.heap.size w w' := by
  have hpl : placesF wd es es.length (cutW wd hash.data.toList) = fx.map fun i => (i : Int) := by
    rw [placesF_first, ← hfx, show (fun i => decide (keyW wd (es.getD i ⟨#[]⟩) = cutW wd hash.data.toList)) = hitB wd es hash from funext fun i => key_hit wd es hash h1 h2 i]
  have hlt : ∀ i, fx = some i → i < es.length := fun i hi => firstI_lt (hfx.trans hi)
  have hblk := h.blk
  have hM := h.map
  have hsa := own_sarg h.own hl hs
  have hbl := (Array.getElem?_eq_some_iff.1 hblk).1
  have HF := find_any wd r _ hash w hM h1 h2
  rw [hpl] at HF
  have c1 := Lib.cell_of_heap hblk 1
  have c2 := Lib.cell_of_heap hblk 2
  cases fx with
  | none =>
    have HF' : Hid (Calls Tryz.prog 78 #[.agg #[.int .i64 (wd : Int), .map (some r)], .string hash] w fun e w' => e = .returned (.tuple #[.int .i64 0, .bool false]) ∧ Below w.heap.size w w') := HF
    clear HF hpl hfx h hM hsa
    go_enter Tryz.func69, Tryz.ntmps69
    go_wp2_with (first | (go_at_call 78; refine HF'.out.mono ?_; rintro e w1 ⟨rfl, hb1⟩))
    go_ret2
    exact ⟨rfl, hb1⟩
  | some i =>
    have HF' : Hid (Calls Tryz.prog 78 #[.agg #[.int .i64 (wd : Int), .map (some r)], .string hash] w fun e w' => e = .returned (.tuple #[.int .i64 (i : Int), .bool true]) ∧ Below w.heap.size w w') := HF
    have hil := hlt i rfl
    obtain ⟨b, off, rfl, hbb, hcs⟩ := hsa.at_ (by omega)
    have hcx := hcs i hil
    have HE : Hid (encAt es (some i) = es.getD i ⟨#[]⟩) := rfl
    obtain ⟨x, hx⟩ : ∃ x, es.getD i ⟨#[]⟩ = x := ⟨_, rfl⟩
    rw [hx] at hcx HE
    obtain ⟨m, hm⟩ : ∃ m, es.length = m := ⟨_, rfl⟩
    rw [hm] at hblk
    have hx0 : (0 : Int) ≤ (i : Int) := Int.natCast_nonneg _
    have hx1 : (i : Int) < (m : Int) := by omega
    obtain ⟨y, hy⟩ : ∃ y, encAt es (some i) = y := ⟨_, rfl⟩
    have hyx : Hid (y = x) := by show y = x; rw [← hy]; exact HE.out
    rw [hy]
    clear HF hpl hfx h hM hcs hx hy HE
    go_enter Tryz.func69, Tryz.ntmps69
    go_wp2_with (first | (go_at_call 78; refine HF'.out.mono ?_; rintro e w1 ⟨rfl, hb1⟩; have hbk1 := (hb1.block sb hbl).trans hblk; have d0 := Lib.cell_of_heap hbk1 0; have d1 := (hb1.cell (p := ⟨b, off + i, none⟩) hbb).trans hcx))
    go_ret2
    exact ⟨by rw [hyx.out]; rfl, hb1⟩
set_option maxRecDepth 100000 in
set_option maxHeartbeats 1000000 in
theorem stockFind_any (D : Dec) (sb r base wd : Nat) (HD : Hid (DecSaid 70 wd D)) (es : List ByteArray) (a : Option Addr) (c : Nat) (hash : ByteArray) (w : World) (h : StockAt sb r base wd es a c w) (hs : ∀ j, (es.getD j ⟨#[]⟩).size ≤ 1048576) (hl : es.length ≤ 1048576) (h1 : wd ≤ 32) (h2 : hash.size = wd) :
    Calls Tryz.prog 64 #[.pointer (some ⟨sb, 0, none⟩), .string hash] w fun e w' => e = .returned (nodeT (foundR D es (firstI (hitB wd es hash) es.length))) ∧ Below w.heap.size w w' := by
  obtain ⟨fx, hfx⟩ : ∃ fx, firstI (hitB wd es hash) es.length = fx := ⟨_, rfl⟩
  rw [hfx]
  have HF : Hid (∀ w', Below w.heap.size w w' → Calls Tryz.prog 69 #[.pointer (some ⟨sb, 0, none⟩), .string hash] w' fun e w'' => e = .returned (.tuple #[.string (encAt es fx), .bool fx.isSome]) ∧ Below w'.heap.size w' w'') := fun w' hb => stockFirst_any sb r base wd es a c hash w' (h.below hb) hs hl h1 h2 fx hfx
  have hblk := h.blk
  have hbl := (Array.getElem?_eq_some_iff.1 hblk).1
  have hbA : Below w.heap.size w (w.alloc (.cells #[.string ⟨#[]⟩, .string ⟨#[]⟩, .string ⟨#[]⟩, .string ⟨#[]⟩] 59)) := (Below.refl _ _).alloc (Nat.le_refl _) _
  have nB : NBk w.heap.size ⟨#[]⟩ ⟨#[]⟩ ⟨#[]⟩ ⟨#[]⟩ (w.alloc (.cells #[.string ⟨#[]⟩, .string ⟨#[]⟩, .string ⟨#[]⟩, .string ⟨#[]⟩] 59)) := heap_alloc_new w _
  obtain ⟨gb, hgb⟩ : ∃ gb, w.heap.size = gb := ⟨_, rfl⟩
  rw [hgb] at nB
  have hfin : ∀ (W : World) (x y z u : ByteArray), Below w.heap.size w W → Below w.heap.size w ((((W.setCell ⟨gb, 0, none⟩ (.string x)).setCell ⟨gb, 1, none⟩ (.string y)).setCell ⟨gb, 2, none⟩ (.string z)).setCell ⟨gb, 3, none⟩ (.string u)) := fun W x y z u hW => by
    have hge : w.heap.size ≤ gb := by omega
    exact (((hW.setCell (p := ⟨gb, 0, none⟩) hge _).setCell (p := ⟨gb, 1, none⟩) hge _).setCell (p := ⟨gb, 2, none⟩) hge _).setCell (p := ⟨gb, 3, none⟩) hge _
  replace hfin : Hid _ := hfin
  cases fx with
  | none =>
    unfold foundR
    clear h hfx
    go_enter Tryz.func64, Tryz.ntmps64
    go_upto_region 1 with fail
    try rw [hgb]
    generalize w.alloc (.cells #[.string ⟨#[]⟩, .string ⟨#[]⟩, .string ⟨#[]⟩, .string ⟨#[]⟩] 59) = wa at hbA nB ⊢
    go_upto_region 3 with (first | (go_at_call 69; refine (HF.out _ hbA).mono ?_; rintro e w1 ⟨rfl, hb1⟩))
    have nB1 := nB.below hb1
    have hb2 := hbA.trans (hb1.mono hbA.size)
    obtain ⟨c0, c1, c2, c3, f0, f1, f2, f3⟩ := nB1.at
    go_wp2_with fail
    exact retN Tryz.results64 rfl rfl rfl (nB1.all _ _ _ _) ⟨rfl, hfin.out _ _ _ _ _ hb2⟩
  | some i =>
    have hsz : (es.getD i ⟨#[]⟩).size ≤ 1048576 := hs i
    have hfr : foundR D es (some i) = if D.ok (es.getD i ⟨#[]⟩) then ((D.k (es.getD i ⟨#[]⟩), D.v (es.getD i ⟨#[]⟩), D.l (es.getD i ⟨#[]⟩), D.r (es.getD i ⟨#[]⟩)), 0) else ((⟨#[]⟩, ⟨#[]⟩, ⟨#[]⟩, ⟨#[]⟩), 3) := rfl
    rw [hfr]
    have HF2 : Hid (∀ w', Below w.heap.size w w' → Calls Tryz.prog 69 #[.pointer (some ⟨sb, 0, none⟩), .string hash] w' fun e w'' => e = .returned (.tuple #[.string (es.getD i ⟨#[]⟩), .bool true]) ∧ Below w'.heap.size w' w'') := HF
    generalize es.getD i ⟨#[]⟩ = s at hsz HF2 ⊢
    have HDx : Hid (∀ w', Calls Tryz.prog 70 #[.string s, .int .i64 (wd : Int)] w' fun e w'' => e = .returned (.tuple #[.agg #[.string (D.k s), .string (D.v s), .string (D.l s), .string (D.r s)], .bool (D.ok s)]) ∧ Below w'.heap.size w' w'') := fun w' => HD.out s w' hsz
    clear hfr HF h hfx HD
    generalize D.k s = xk at HDx ⊢
    generalize D.v s = xv at HDx ⊢
    generalize D.l s = xl at HDx ⊢
    generalize D.r s = xr at HDx ⊢
    cases hok : D.ok s with
    | false =>
      rw [hok] at HDx
      rw [if_neg (by decide)]
      clear hok
      go_enter Tryz.func64, Tryz.ntmps64
      go_upto_region 1 with fail
      try rw [hgb]
      generalize w.alloc (.cells #[.string ⟨#[]⟩, .string ⟨#[]⟩, .string ⟨#[]⟩, .string ⟨#[]⟩] 59) = wa at hbA nB ⊢
      go_upto_region 4 with (first | (go_at_call 69; refine (HF2.out _ hbA).mono ?_; rintro e w1 ⟨rfl, hb1⟩))
      have nB1 := nB.below hb1
      have hb2 := hbA.trans (hb1.mono hbA.size)
      have d1 := Lib.cell_of_heap ((hb2.block sb hbl).trans hblk) 1
      go_upto_region 6 with (first | (go_at_call 70; refine (HDx.out _).mono ?_; rintro e w2 ⟨rfl, hb3⟩))
      have hb4 := hb2.trans (hb3.mono hb2.size)
      have al : Below w2.heap.size w2 (w2.alloc (.cells #[.string xk, .string xv, .string xl, .string xr] 59)) := (Below.refl _ _).alloc (Nat.le_refl _) _
      have nB2 := (nB1.below hb3).below al
      have hb5 := hb4.trans (al.mono hb4.size)
      generalize w2.alloc (.cells #[.string xk, .string xv, .string xl, .string xr] 59) = w3 at nB2 hb5 ⊢
      clear d1 al
      obtain ⟨c0, c1, c2, c3, f0, f1, f2, f3⟩ := nB2.at
      go_wp2_with fail
      exact retN Tryz.results64 rfl rfl rfl (nB2.all _ _ _ _) ⟨rfl, hfin.out _ _ _ _ _ hb5⟩
    | true =>
      rw [hok] at HDx
      rw [if_pos rfl]
      clear hok
      go_enter Tryz.func64, Tryz.ntmps64
      go_upto_region 1 with fail
      try rw [hgb]
      generalize w.alloc (.cells #[.string ⟨#[]⟩, .string ⟨#[]⟩, .string ⟨#[]⟩, .string ⟨#[]⟩] 59) = wa at hbA nB ⊢
      go_upto_region 4 with (first | (go_at_call 69; refine (HF2.out _ hbA).mono ?_; rintro e w1 ⟨rfl, hb1⟩))
      have nB1 := nB.below hb1
      have hb2 := hbA.trans (hb1.mono hbA.size)
      have d1 := Lib.cell_of_heap ((hb2.block sb hbl).trans hblk) 1
      go_upto_region 7 with (first | (go_at_call 70; refine (HDx.out _).mono ?_; rintro e w2 ⟨rfl, hb3⟩))
      have hb4 := hb2.trans (hb3.mono hb2.size)
      have al : Below w2.heap.size w2 (w2.alloc (.cells #[.string xk, .string xv, .string xl, .string xr] 59)) := (Below.refl _ _).alloc (Nat.le_refl _) _
      have nX : NBk w2.heap.size xk xv xl xr (w2.alloc (.cells #[.string xk, .string xv, .string xl, .string xr] 59)) := heap_alloc_new w2 _
      have nB2 := (nB1.below hb3).below al
      have hb5 := hb4.trans (al.mono hb4.size)
      obtain ⟨gx, hgx⟩ : ∃ gx, w2.heap.size = gx := ⟨_, rfl⟩
      rw [hgx] at nX
      try rw [hgx]
      generalize w2.alloc (.cells #[.string xk, .string xv, .string xl, .string xr] 59) = w3 at nB2 hb5 nX ⊢
      clear d1 al
      obtain ⟨e0, e1, e2, e3, _, _, _, _⟩ := nX.at
      obtain ⟨c0, c1, c2, c3, f0, f1, f2, f3⟩ := nB2.at
      go_wp2_with fail
      exact retN Tryz.results64 rfl rfl rfl (nB2.all _ _ _ _) ⟨rfl, hfin.out _ _ _ _ _ hb5⟩

end Go.Proofs.YtdnbhejacpjgfaaGreatDoor
namespace Go.Proofs.YtdnbhejacpjgfaaGreatDoor
open Go.RowKit Go.Proofs.Sha

/-- The hash's table. -/
abbrev KT (w : World) : Prop := ∀ j, j < 64 → w.cell? ⟨0, j, none⟩ = some (.int .u32 ((kTab.getD j 0).toNat : Int))
theorem KT.below {w w' : World} (h : KT w) (hb : Below w.heap.size w w') : KT w' := fun j hj => by
  have hl0 : 0 < w.heap.size := World.block_lt_of_cell? w _ (h 0 (by omega))
  exact (hb.cell (by exact hl0)).trans (h j hj)
set_option maxRecDepth 100000 in
set_option maxHeartbeats 1000000 in
theorem irange_any (HH : Hid (HashSaid KT)) (D : Dec) (n : Int) (HD : Hid (∀ wd : Nat, (wd : Int) = n → 1 ≤ wd → wd ≤ 32 → DecSaid 70 wd D)) (hdo : ∀ wd : Nat, (wd : Int) = n → DecOk wd D) (a : Option Addr) (ss : List ByteArray) (c : Nat) (root lo hi : ByteArray) (w : World) (h : SArg a ss w) (hK : KT w) (hr : root.size ≤ 1048576) :
    Calls Tryz.prog 7 #[.agg #[.int .i64 n, .slice a ss.length c], .string root, .string lo, .string hi] w (RangeAt (rangeM (fndD D n.toNat ss) n ss.length root lo hi) w) := by
  have HV := fun w' => validPool_any n a ss.length c w' h.le
  cases hp : poolOk n ss.length with
  | false =>
    rw [rangeM_bad (by rw [hp]; rfl)]
    rw [hp] at HV
    have HP : Hid (∀ w', Below w.heap.size w w' → RangeAt ([], 1) w (.returned (.tuple #[.slice none 0 0, .int .i64 1])) w') := fun w' hw' => ⟨⟨none, 0, rfl, ⟨rfl, .inl ⟨rfl, rfl⟩⟩⟩, hw'⟩
    have hA : Below w.heap.size w (w.alloc (.cells #[.int .i64 n, .slice a ss.length c] 29)) := (Below.refl _ _).alloc (Nat.le_refl _) _
    clear HH HD h hK
    go_enter Tryz.func7, Tryz.ntmps7
    go_wp2_with (first | (go_at_call 19; refine (HV _).mono ?_; rintro e w1 ⟨rfl, hb1⟩))
    go_ret2
    exact HP.out _ (hA.trans (hb1.mono hA.size))
  | true =>
    rw [hp] at HV
    have hp' : 1 ≤ n ∧ n ≤ 32 ∧ ss.length ≤ 20000 := of_decide_eq_true hp
    obtain ⟨wd, rfl⟩ : ∃ wd : Nat, n = (wd : Int) := ⟨n.toNat, by omega⟩
    have hrM : Hid (rangeM (fndD D (wd : Int).toNat ss) (wd : Int) ss.length root lo hi = if hashOk root.size (wd : Int) = true then (if (goF (fndD D wd ss) hgW lo hi 501 root ⟨#[]⟩ ⟨#[]⟩ ⟨#[]⟩ 0).1 = 0 then ((goF (fndD D wd ss) hgW lo hi 501 root ⟨#[]⟩ ⟨#[]⟩ ⟨#[]⟩ 0).2.2, 0) else ([], (goF (fndD D wd ss) hgW lo hi 501 root ⟨#[]⟩ ⟨#[]⟩ ⟨#[]⟩ 0).1)) else ([], 1)) := by
      show _ = _
      unfold rangeM
      rw [hp, Bool.true_and, Int.toNat_natCast]
    rw [hrM.out]
    have HS : Hid (∀ w', Below w.heap.size w w' → Calls Tryz.prog 21 #[.agg #[.int .i64 (wd : Int), .slice a ss.length c]] w' fun e w'' => ∃ sb r a' c', e = .returned (.pointer (some ⟨sb, 0, none⟩)) ∧ StockAt sb r (sb + 1) wd ss a' c' w'' ∧ Below w'.heap.size w' w'') := fun w' hb => stockOf_any HH (fun w1 w2 h1 hb => KT.below h1 hb) wd a ss c w' (h.below hb) (hK.below hb) (by omega)
    have HW : Hid (∀ w1 sb r a' c', Below w.heap.size w w1 → StockAt sb r (sb + 1) wd ss a' c' w1 → Calls Tryz.prog 20 #[.pointer (some ⟨sb, 0, none⟩), .string root, .agg #[.string lo, .string hi]] w1 (RangeAt (if hashOk root.size (wd : Int) = true then (if (goF (fndD D wd ss) hgW lo hi 501 root ⟨#[]⟩ ⟨#[]⟩ ⟨#[]⟩ 0).1 = 0 then ((goF (fndD D wd ss) hgW lo hi 501 root ⟨#[]⟩ ⟨#[]⟩ ⟨#[]⟩ 0).2.2, 0) else ([], (goF (fndD D wd ss) hgW lo hi 501 root ⟨#[]⟩ ⟨#[]⟩ ⟨#[]⟩ 0).1)) else ([], 1)) w1)) := fun w1 sb r a' c' hb1 hs =>
      pw_any (fndD D wd ss) wd (fndD_ok D wd ss (hdo wd rfl)) sb lo hi root _ _ w1 hs.blk hr (fun hash w' hh hb' => stockFind_any D sb r (sb + 1) wd (HD.out wd rfl (by omega) (by omega)) ss a' c' hash w' (hs.below hb') h.sz (by have := h.le; omega) (by omega) hh) (fun k w' hk hb' => rank_any k w' (by unfold okKey at hk; have := of_decide_eq_true hk; omega) ((hK.below hb1).below hb'))
    generalize (if hashOk root.size (wd : Int) = true then (if (goF (fndD D wd ss) hgW lo hi 501 root ⟨#[]⟩ ⟨#[]⟩ ⟨#[]⟩ 0).1 = 0 then ((goF (fndD D wd ss) hgW lo hi 501 root ⟨#[]⟩ ⟨#[]⟩ ⟨#[]⟩ 0).2.2, (0 : Int)) else ([], (goF (fndD D wd ss) hgW lo hi 501 root ⟨#[]⟩ ⟨#[]⟩ ⟨#[]⟩ 0).1)) else ([], 1)) = X at HW ⊢
    have hA : Below w.heap.size w (w.alloc (.cells #[.int .i64 (wd : Int), .slice a ss.length c] 29)) := (Below.refl _ _).alloc (Nat.le_refl _) _
    have nA := heap_alloc_new w (.cells #[.int .i64 (wd : Int), .slice a ss.length c] 29)
    have HP : Hid (∀ w1 e w2, Below w.heap.size w w1 → RangeAt X w1 e w2 → ∃ a' c', e = .returned (.tuple #[.slice a' X.1.length c', .int .i64 X.2]) ∧ RangeAt X w e w2) := fun w1 e w2 hb hR => by
      obtain ⟨⟨a', c', he, ho⟩, hb2⟩ := hR
      exact ⟨a', c', he, ⟨⟨a', c', he, own2_mono ho hb.size⟩, hb.trans (hb2.mono hb.size)⟩⟩
    clear HH HD h hK hrM hp hp'
    go_enter Tryz.func7, Tryz.ntmps7
    go_wp2_with (first | (go_at_call 19; refine (HV _).mono ?_; rintro e w1 ⟨rfl, hb1⟩; have nA1 := (hb1.block w.heap.size (by simp)).trans nA; have d0 := Lib.cell_of_heap nA1 0; have d1 := Lib.cell_of_heap nA1 1; clear nA1; replace hb1 := hA.trans (hb1.mono hA.size)) | (go_at_call 21; refine (HS.out _ hb1).mono ?_; rintro e w2 ⟨sb, r, a2, c2, rfl, hs2, hb2⟩; replace hb2 := hb1.trans (hb2.mono hb1.size)) | (go_at_call 20; refine (HW.out _ _ _ _ _ hb2 hs2).mono ?_; intro e w3 hR3; obtain ⟨a3, c3, rfl, hR3⟩ := HP.out _ _ _ hb2 hR3))
    go_ret2
    exact hR3
end Go.Proofs.YtdnbhejacpjgfaaGreatDoor
namespace Go.Proofs.YtdnbhejacpjgfaaGreatDoor
open Go.RowKit Go.Proofs.Sha

set_option maxRecDepth 100000 in
set_option maxHeartbeats 4000000 in
theorem srange_err (HD : Hid DigSaid) (D : Dec) (wd : Nat) (HDd : Hid (DecSaid 42 wd D)) (hdo : DecOk wd D) (a : Option Addr) (ss : List ByteArray) (c : Nat) (root lo hi : ByteArray) (w : World) (h : SArg a ss w) (hq : Hid (∀ j, (ss.getD j ⟨#[]⟩).size ≤ 1048575)) (h1 : 1 ≤ wd) (h2 : wd ≤ 32)
    (hr : root.size ≤ 1048576) (hlo : lo.size ≤ 1048576) (hhi : hi.size ≤ 1048576) (hp : poolOk (wd : Int) ss.length = true) (hk : hashOk root.size (wd : Int) = true) (hR0 : (goF (fndD D wd ss) hgW lo hi 501 root ⟨#[]⟩ ⟨#[]⟩ ⟨#[]⟩ 0).1 ≠ 0) :
    Calls Tryz.prog 5 #[.agg #[.int .i64 (wd : Int), .slice a ss.length c], .string root, .string lo, .string hi] w (RangeAt (rangeM (fndD D wd ss) (wd : Int) ss.length root lo hi) w) := by
  have HP := fun w' => poolOk_any (wd : Int) a ss.length c w' h.le
  have HH := fun w' => hashOk_any root (wd : Int) w' hr
  rw [hp] at HP
  rw [hk] at HH
  have hS := SR.mk0 w (wd : Int) a ss.length c
  obtain ⟨R, hR⟩ : ∃ R, goF (fndD D wd ss) hgW lo hi 501 root ⟨#[]⟩ ⟨#[]⟩ ⟨#[]⟩ 0 = R := ⟨_, rfl⟩
  rw [hR] at hR0
  have hRM := rangeM_ok (lo := lo) (hi := hi) (by rw [hp, hk]; rfl : (poolOk (wd : Int) ss.length && hashOk root.size (wd : Int)) = true) hR
  obtain ⟨Z, hZ⟩ : ∃ Z, rangeM (fndD D wd ss) (wd : Int) ss.length root lo hi = Z := ⟨_, rfl⟩
  rw [hZ] at hRM ⊢
  obtain ⟨N, hN⟩ : ∃ N, ss.length = N := ⟨_, rfl⟩
  have HHS : Hid (∀ w', Below w.heap.size w w' → Calls Tryz.prog 17 #[.agg #[.int .i64 (wd : Int), .slice a N c]] w' fun e w'' => ∃ g c', e = .returned (.slice (some ⟨g, 0, none⟩) N c') ∧ (∀ W, Below w''.heap.size w'' W → Calls Tryz.prog 16 #[.agg #[.int .i64 (wd : Int), .slice a N c], .slice (some ⟨g, 0, none⟩) N c', .string root, .string ⟨#[]⟩, .agg #[.string ⟨#[]⟩, .string ⟨#[]⟩], .string lo, .string hi, .int .i64 0] W (GoPost R W)) ∧ Below w'.heap.size w' w'') := by
    intro w' hb
    have hA := h.below hb
    rw [← hN]
    refine (hashes_any HD wd a ss c w' hA hq h1 h2).mono ?_
    rintro e w'' ⟨g, c', rfl, hrow, hb2⟩
    refine ⟨g, c', rfl, fun W hW => ?_, hb2⟩
    have hA2 := hA.below hb2
    rw [← hR]
    refine go_all (fndD D wd ss) wd (fndD_ok D wd ss hdo) a ss.length c g c' lo hi hlo hhi w'' (fun w3 hash hb3 => ?_) 501 root ⟨#[]⟩ ⟨#[]⟩ ⟨#[]⟩ 0 W (by omega) (by omega) hW (by decide) (by decide) (by decide)
    have := lfind_any D wd HDd a ss c g c' (ss.map (hashT wd)) hash w3 (hA2.below hb3) (by rw [List.length_map]) (Nat.lt_of_lt_of_le hrow.lt hb3.size) (fun j hj => by
      have e := (hrow.below hb3).cell j hj
      rw [e, List.getElem?_map, List.getD_eq_getElem?_getD, List.getElem?_eq_getElem (by rw [List.length_map]; exact hj)]
      rfl)
    rw [first_hash] at this
    exact this
  have hRMH : Hid (Z = if R.1 = 0 then (R.2.2, 0) else ([], R.1)) := hRM
  rw [hN] at HP hS ⊢
  clear h hq hN hR hRM hZ hp hk
  go_enter Tryz.func5, Tryz.ntmps5
  go_upto_region 2 with fail
  generalize (w.alloc (.cells #[.int .i64 (wd : Int), .slice a N c] 29)).alloc (.cells #[] 53) = W at hS ⊢
  obtain ⟨gz, hgz⟩ : ∃ x, w.heap.size + 1 = x := ⟨_, rfl⟩
  rw [hgz] at hS ⊢
  obtain ⟨ga, hga⟩ : ∃ x, w.heap.size = x := ⟨_, rfl⟩
  rw [show SR w w.heap.size = SR w ga by rw [hga]] at hS
  rw [hga]
  clear hga hgz
  have k0 := Lib.cell_of_heap hS.na 0
  have k1 := Lib.cell_of_heap hS.na 1
  go_upto_region 4 with (first | (go_at_call 14; refine (HP _).mono ?_; rintro e w1 ⟨rfl, hb1⟩; have hS1 := hS.below hb1; clear k0 k1; have k0 := Lib.cell_of_heap hS1.na 0; have k1 := Lib.cell_of_heap hS1.na 1) | (go_at_call 15; refine (HH _).mono ?_; rintro e w2 ⟨rfl, rfl⟩))
  clear HP HH hb1 hS k0 k1
  have k0 : w1.cell? ⟨ga, 0, none⟩ = some (.int .i64 (wd : Int)) := Lib.cell_of_heap hS1.na 0
  have k1 : w1.cell? ⟨ga, 1, none⟩ = some (.slice a N c) := Lib.cell_of_heap hS1.na 1
  have hbd : Below w1.heap.size w1 w1.drew := (Below.refl _ _).drew
  have HC : Hid (∀ W : World, W.heap[ga]? = some (.cells #[.int .i64 (wd : Int), .slice a N c] 29) → W.cell? ⟨ga, 0, none⟩ = some (.int .i64 (wd : Int)) ∧ W.cell? ⟨ga, 1, none⟩ = some (.slice a N c)) := fun W hW => ⟨Lib.cell_of_heap hW 0, Lib.cell_of_heap hW 1⟩
  have hna := hS1.na
  have hbw := hS1.bl
  obtain ⟨i, hie⟩ : ∃ i, R.1 = i := ⟨_, rfl⟩
  have hZ : Hid (Z = ([], i)) := by show _ = _; rw [hRMH.out, if_neg hR0, hie]
  have HG : Hid (∀ g c' W, Calls Tryz.prog 16 #[.agg #[.int .i64 (wd : Int), .slice a N c], .slice (some ⟨g, 0, none⟩) N c', .string root, .string ⟨#[]⟩, .agg #[.string ⟨#[]⟩, .string ⟨#[]⟩], .string lo, .string hi, .int .i64 0] W (GoPost R W) → Calls Tryz.prog 16 #[.agg #[.int .i64 (wd : Int), .slice a N c], .slice (some ⟨g, 0, none⟩) N c', .string root, .string ⟨#[]⟩, .agg #[.string ⟨#[]⟩, .string ⟨#[]⟩], .string lo, .string hi, .int .i64 0] W fun e w' => e = .returned (.agg #[.slice none 0 0, .int .i64 0, .int .i64 i]) ∧ Below W.heap.size W w') := fun g c' W hc => hc.mono fun e w' h => ⟨by rw [← hie]; exact h.2.1 hR0, h.2.2⟩
  rw [hie] at hR0
  have hbi : (i == 0) = false := beq_eq_false_iff_ne.2 hR0
  clear hie hRMH
  have hlt1 := hS1.lt
  go_region_held3 (fun W => W.cell? ⟨ga, 0, none⟩ = some (.int .i64 (wd : Int)) ∧ W.cell? ⟨ga, 1, none⟩ = some (.slice a N c)) (first | exact HC.out _ hna | exact HC.out _ (hS1.below ((Below.refl _ w1).drew.alloc (Nat.le_refl _) _)).na | exact HC.out _ hS2.na | exact HC.out _ (hS2.below ((Below.refl _ _).alloc (Nat.le_refl _) _)).na | exact HC.out _ hS3.na | exact HC.out _ (hS3.below ((Below.refl _ _).alloc (Nat.le_refl _) _)).na | exact HC.out _ (hS3.set3 hlt1 _ _ _).na | exact HC.out _ (hS3.set3 hlt2 _ _ _).na)
    (first
      | (go_at_call 17; refine (HHS.out (w1.drew.alloc (.cells #[.slice none 0 0, .int .i64 0, .int .i64 0] 40)) (hbw.drew.alloc hbw.size _)).mono ?_; rintro e w2 ⟨g, c', rfl, HGG, hb2⟩; have hS2 := (hS1.below ((Below.refl _ w1).drew.alloc (Nat.le_refl _) (.cells #[.slice none 0 0, .int .i64 0, .int .i64 0] 40))).below hb2; have hlt2 := hS2.lt; have n2 : WB w1.heap.size (.slice none 0 0) (.int .i64 0) (.int .i64 0) w2 := WB.below (show WB w1.heap.size (.slice none 0 0) (.int .i64 0) (.int .i64 0) (w1.drew.alloc (.cells #[.slice none 0 0, .int .i64 0, .int .i64 0] 40)) from heap_alloc_new w1.drew _) hb2; clear hb2)
      | (go_at_call 17; refine (HHS.out w1.drew hbw.drew).mono ?_; rintro e w2 ⟨g, c', rfl, HGG, hb2⟩; have hS2 := hS1.below ((Below.refl w1.heap.size w1).drew.trans hb2); have hlt2 := hS2.lt; clear hb2)
      | (go_at_call 16; refine (HG.out g c' (w2.alloc (.cells #[.slice none 0 0, .int .i64 0, .int .i64 0] 40)) (HGG _ ((Below.refl _ w2).alloc (Nat.le_refl _) _))).mono ?_; rintro e w3 ⟨rfl, hb3⟩; have hS3 := (hS2.below ((Below.refl _ w2).alloc (Nat.le_refl _) (.cells #[.slice none 0 0, .int .i64 0, .int .i64 0] 40))).below hb3; have n3 : WB w2.heap.size (.slice none 0 0) (.int .i64 0) (.int .i64 0) w3 := WB.below (show WB w2.heap.size (.slice none 0 0) (.int .i64 0) (.int .i64 0) (w2.alloc (.cells #[.slice none 0 0, .int .i64 0, .int .i64 0] 40)) from heap_alloc_new w2 _) hb3; clear hb3; obtain ⟨x0, x1, x2, y0, y1, y2⟩ := n3.at)
      | (go_at_call 16; refine (HG.out g c' w2 (HGG _ (Below.refl _ w2))).mono ?_; rintro e w3 ⟨rfl, hb3⟩; have hS3 := hS2.below hb3; have n3 := n2.below hb3; clear hb3; obtain ⟨x0, x1, x2, y0, y1, y2⟩ := n3.at)
      | (go_at_call 16; refine (HG.out g c' w2 (HGG _ (Below.refl _ w2))).mono ?_; rintro e w3 ⟨rfl, hb3⟩; have hS3 := hS2.below hb3; clear hb3))
  · have hS4 := hS3.below ((Below.refl w3.heap.size w3).alloc (Nat.le_refl _) (.cells #[.slice none 0 0, .int .i64 0, .int .i64 i] 40))
    have n4 : WB w3.heap.size (.slice none 0 0) (.int .i64 0) (.int .i64 i) (w3.alloc (.cells #[.slice none 0 0, .int .i64 0, .int .i64 i] 40)) := heap_alloc_new w3 _
    generalize w3.alloc (.cells #[.slice none 0 0, .int .i64 0, .int .i64 i] 40) = W4 at hS4 n4 ⊢
    generalize w3.heap.size = gw at n4 ⊢
    obtain ⟨u0, u1, u2, _, _, _⟩ := n4.at
    have hS5 := hS4.below (Below.refl W4.heap.size W4).drew
    have hfin := hS5.nil i
    rw [← hZ.out] at hfin
    clear k0 k1 hna hbd HGG hZ hS3 n4
    go_wp2_with fail
    go_region
    go_wp2_with fail
    go_ret2
    exact hfin
  · have hS4 := hS3.set3 hlt2 (.slice none 0 0) (.int .i64 0) (.int .i64 i)
    have n4 := n3.set3 (.slice none 0 0) (.int .i64 0) (.int .i64 i)
    generalize ((w3.setCell ⟨w2.heap.size, 0, none⟩ (.slice none 0 0)).setCell ⟨w2.heap.size, 1, none⟩ (.int .i64 0)).setCell ⟨w2.heap.size, 2, none⟩ (.int .i64 i) = W4 at hS4 n4 ⊢
    clear n3 x0 x1 x2 y0 y1 y2
    generalize w2.heap.size = gw at n4 ⊢
    obtain ⟨u0, u1, u2, _, _, _⟩ := n4.at
    have hS5 := hS4.below (Below.refl W4.heap.size W4).drew
    have hfin := hS5.nil i
    rw [← hZ.out] at hfin
    clear k0 k1 hna hbd HGG hZ hS3 n4
    go_wp2_with fail
    go_region
    go_wp2_with fail
    go_ret2
    exact hfin
  · have hS4 := hS3.set3 hlt1 (.slice none 0 0) (.int .i64 0) (.int .i64 i)
    have n4 := n3.set3 (.slice none 0 0) (.int .i64 0) (.int .i64 i)
    generalize ((w3.setCell ⟨w1.heap.size, 0, none⟩ (.slice none 0 0)).setCell ⟨w1.heap.size, 1, none⟩ (.int .i64 0)).setCell ⟨w1.heap.size, 2, none⟩ (.int .i64 i) = W4 at hS4 n4 ⊢
    clear n2 n3 x0 x1 x2 y0 y1 y2
    generalize w1.heap.size = gw at n4 ⊢
    obtain ⟨u0, u1, u2, _, _, _⟩ := n4.at
    have hS5 := hS4.below (Below.refl W4.heap.size W4).drew
    have hfin := hS5.nil i
    rw [← hZ.out] at hfin
    clear k0 k1 hna hbd HGG hZ hS3 n4
    go_wp2_with fail
    go_region
    go_wp2_with fail
    go_ret2
    exact hfin
end Go.Proofs.YtdnbhejacpjgfaaGreatDoor
