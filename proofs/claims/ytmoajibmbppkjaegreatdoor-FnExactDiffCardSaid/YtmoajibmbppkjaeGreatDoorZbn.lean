import Derived.Test.YtmoajibmbppkjaeGreatDoorZbj
import Derived.Test.YtmoajibmbppkjaeGreatDoorZbm
import Derived.Test.YtmoajibmbppkjaeGreatDoorZbd
namespace Go.Proofs.YtmoajibmbppkjaeGreatDoor
open Go.RowKit Go.Proofs.Sha

abbrev at37 (gb c : Nat) : Value := .func (.func 153) #[] #[.pointer (some ⟨gb, 0, none⟩), .pointer (some ⟨c, 0, none⟩)]
theorem gt_bad (sb gb c wd : Nat) (lo hi root : ByteArray) (v0 v2 : Value) (w : World) (hb : w.heap[sb]? = some (.cells #[v0, .int .i64 (wd : Int), v2] 191)) (hr : root.size ≤ 1048576) (hk : hashOk root.size (wd : Int) = false) :
    Calls Tryz.prog 151 #[.pointer (some ⟨sb, 0, none⟩), .string root, intoV lo hi, at37 gb c] w fun e w' => e = .returned (.int .i64 1) ∧ Below w.heap.size w w' := by
  have HV := fun w' => vlink_any root (wd : Int) w' hr
  rw [hk] at HV
  have hA : Below w.heap.size w (w.alloc (.cells #[at37 gb c] 217)) := (Below.refl _ _).alloc (Nat.le_refl _) _
  have c1 : (w.alloc (.cells #[at37 gb c] 217)).cell? ⟨sb, 1, none⟩ = some (.int .i64 (wd : Int)) := Lib.cell_of_heap ((hA.block sb (Array.getElem?_eq_some_iff.1 hb).1).trans hb) 1
  go_enter Tryz.func151, Tryz.ntmps151
  go_wp2_with (first | (go_at_call 177; refine (HV _).mono ?_; rintro e w2 ⟨rfl, rfl⟩))
  go_ret
  exact ⟨rfl, hA⟩
set_option maxRecDepth 100000 in
set_option maxHeartbeats 1000000 in
theorem gt_ok (fnd : ByteArray → FN) (wd : Nat) (hfo : FndOk wd fnd) (wg : World) (B0 sb gb c : Nat) (lo hi root : ByteArray) (v0 v2 : Value) (w : World) (hb : w.heap[sb]? = some (.cells #[v0, .int .i64 (wd : Int), v2] 191)) (hr : root.size ≤ 1048576) (hk : hashOk root.size (wd : Int) = true) (hsz : root.size = 0 ∨ root.size = wd)
    (hbw : Below B0 wg w) (hBc : B0 ≤ c) (hBs : B0 ≤ w.heap.size) (hgb : w.heap[gb]? = some (.cells #[.string lo, .string hi] 152)) (hcb : w.heap[c]? = some (.cells #[.slice none 0 0] 26))
    (HF : Hid (∀ (hash : ByteArray) w', hash.size = wd → Below B0 wg w' → Calls Tryz.prog 204 #[.pointer (some ⟨sb, 0, none⟩), .string hash] w' fun e w'' => e = .returned (nodeT (fnd hash)) ∧ Below w'.heap.size w' w''))
    (HR : Hid (∀ (k : ByteArray) w', okKey k = true → Below B0 wg w' → Calls Tryz.prog 173 #[Value.string k] w' fun e w'' => e = .returned (.agg (rkL k).toArray) ∧ Below w'.heap.size w' w'')) (R : Int × Nat × List PairT) (hRe : goF fnd hgW lo hi 501 root ⟨#[]⟩ ⟨#[]⟩ ⟨#[]⟩ 0 = R) :
    Calls Tryz.prog 151 #[.pointer (some ⟨sb, 0, none⟩), .string root, intoV lo hi, at37 gb c] w fun e w' => e = .returned (.int .i64 R.1) ∧ Fr w.heap.size (fun q => q = c) w w' ∧ (R.1 = 0 → ∃ base a cap, w.heap.size ≤ base ∧ LS c base R.2.2 a cap w') := by
  have HV := fun w' => vlink_any root (wd : Int) w' hr
  rw [hk] at HV
  have hA : Below w.heap.size w (w.alloc (.cells #[at37 gb c] 217)) := (Below.refl _ _).alloc (Nat.le_refl _) _
  have c1 : (w.alloc (.cells #[at37 gb c] 217)).cell? ⟨sb, 1, none⟩ = some (.int .i64 (wd : Int)) := Lib.cell_of_heap ((hA.block sb (Array.getElem?_eq_some_iff.1 hb).1).trans hb) 1
  go_enter Tryz.func151, Tryz.ntmps151
  go_upto_region 4 with (first | (go_at_call 177; refine (HV _).mono ?_; rintro e w2 ⟨rfl, rfl⟩))
  have hgl := (Array.getElem?_eq_some_iff.1 hgb).1
  have hcl := (Array.getElem?_eq_some_iff.1 hcb).1
  have hW : Below w.heap.size w (((w.alloc (.cells #[at37 gb c] 217)).alloc (.cells #[.pointer (some ⟨sb, 0, none⟩), .int .i64 0, .int .i64 0] 241)).alloc (.cells #[.pointer (some ⟨w.heap.size + 1, 0, none⟩)] 239)) := (((Below.refl _ _).alloc (Nat.le_refl _) _).alloc (by simp) _).alloc (by simp; omega) _
  have nX := heap_alloc_new ((w.alloc (.cells #[at37 gb c] 217)).alloc (.cells #[.pointer (some ⟨sb, 0, none⟩), .int .i64 0, .int .i64 0] 241)) (.cells #[.pointer (some ⟨w.heap.size + 1, 0, none⟩)] 239)
  have nL0 : ((w.alloc (.cells #[at37 gb c] 217)).alloc (.cells #[.pointer (some ⟨sb, 0, none⟩), .int .i64 0, .int .i64 0] 241)).heap[w.heap.size + 1]? = some (.cells #[.pointer (some ⟨sb, 0, none⟩), .int .i64 0, .int .i64 0] 241) := by
    have := heap_alloc_new (w.alloc (.cells #[at37 gb c] 217)) (.cells #[.pointer (some ⟨sb, 0, none⟩), .int .i64 0, .int .i64 0] 241)
    rw [World.size_alloc] at this
    exact this
  have nL := (Below.heap_alloc ((w.alloc (.cells #[at37 gb c] 217)).alloc (.cells #[.pointer (some ⟨sb, 0, none⟩), .int .i64 0, .int .i64 0] 241)) (.cells #[.pointer (some ⟨w.heap.size + 1, 0, none⟩)] 239) (w.heap.size + 1) (by simp)).trans nL0
  clear nL0
  have nA := (Below.heap_alloc ((w.alloc (.cells #[at37 gb c] 217)).alloc (.cells #[.pointer (some ⟨sb, 0, none⟩), .int .i64 0, .int .i64 0] 241)) (.cells #[.pointer (some ⟨w.heap.size + 1, 0, none⟩)] 239) w.heap.size (by simp; omega)).trans ((Below.heap_alloc (w.alloc (.cells #[at37 gb c] 217)) (.cells #[.pointer (some ⟨sb, 0, none⟩), .int .i64 0, .int .i64 0] 241) w.heap.size (by simp)).trans (heap_alloc_new w (.cells #[at37 gb c] 217)))
  have hzW : (((w.alloc (.cells #[at37 gb c] 217)).alloc (.cells #[.pointer (some ⟨sb, 0, none⟩), .int .i64 0, .int .i64 0] 241)).alloc (.cells #[.pointer (some ⟨w.heap.size + 1, 0, none⟩)] 239)).heap.size = w.heap.size + 3 := by simp
  rw [World.size_alloc, World.size_alloc] at nX
  generalize ((w.alloc (.cells #[at37 gb c] 217)).alloc (.cells #[.pointer (some ⟨sb, 0, none⟩), .int .i64 0, .int .i64 0] 241)).alloc (.cells #[.pointer (some ⟨w.heap.size + 1, 0, none⟩)] 239) = W at hW nX nL nA hzW ⊢
  obtain ⟨S, hS⟩ : ∃ S, w.heap.size = S := ⟨_, rfl⟩
  have nc : W.heap[c]? = some (.cells #[.slice none 0 0] 26) := (hW.block c hcl).trans hcb
  have ng : W.heap[gb]? = some (.cells #[.string lo, .string hi] 152) := (hW.block gb hgl).trans hgb
  have hst : Stc B0 (S + 3) (S + 1) c gb (S + 1 + 1) S := by
    rw [hS] at hgl hcl hBs
    have hne : gb ≠ c := ne_of_type ng nc (by decide)
    exact ⟨by omega, by omega, by omega, by omega, by omega, by omega, by omega, by omega, by omega, by omega, by omega, by omega, by omega, hne, by omega⟩
  have hbW : Below B0 wg W := hbw.trans (hW.mono hBs)
  rw [hS] at nX nL nA hzW
  have hEn : Env wg B0 (S + 3) (S + 1) c gb (S + 1 + 1) S lo hi W := ⟨nX, nA, ng, hbW, by omega⟩
  have hLn : LD (S + 1) sb 0 0 W := nL
  have hSn : LS c (S + 3) [] none 0 W := ⟨nc, ⟨rfl, .inl ⟨rfl, rfl⟩⟩, by omega⟩
  have HB := branchAt_any root ⟨#[]⟩ ⟨#[]⟩ none W
  have HW : Hid (∀ p w3, LinkAt root ⟨#[]⟩ ⟨#[]⟩ none p w3 → (∀ q, p = some q → W.heap.size ≤ q.block) → Below W.heap.size W w3 → Calls Tryz.prog 178 #[.pointer p, intoV lo hi, atV (S + 1 + 1) S] w3 fun e w' => (∃ x, e = .returned (.bool x)) ∧ w'.cell? ⟨S + 1 + 1, 0, none⟩ = some (.pointer (some ⟨S + 1, 0, none⟩)) ∧ w'.cell? ⟨S + 1, 2, none⟩ = some (.int .i64 R.1) ∧ Fr w.heap.size (fun q => q = c) w w' ∧ (R.1 = 0 → ∃ base a cap, w.heap.size ≤ base ∧ LS c base R.2.2 a cap w')) := fun p w3 hl hp hb3 => by
    refine (walk_any fnd wd hfo wg B0 (S + 3) (S + 1) sb c gb (S + 1 + 1) S lo hi hst HF HR 501 root ⟨#[]⟩ ⟨#[]⟩ ⟨#[]⟩ none p 0 [] none 0 w3 (hEn.below hst hb3) hl (.inl ⟨rfl, rfl⟩) (hLn.below hb3) (hSn.below hb3) (fun q hq => by have := hp q hq; omega) hsz (by omega) (by omega) (Nat.le_refl _)).mono ?_
    rw [hRe]
    rintro e w' ⟨rfl, f', g', n'⟩
    have hE' := (hEn.below hst hb3).fr hst f' (fun q hq => by
      rcases hq with ⟨x, hx, e⟩ | e | e
      · have := hp x hx; exact .inr (.inr (by omega))
      · exact .inl e
      · exact .inr (.inl e))
    have hld : ∃ m, LD (S + 1) sb m R.1 w' := by
      by_cases h0 : R.1 = 0
      · rw [h0]; exact ⟨_, (g' h0).1⟩
      · exact n' h0
    obtain ⟨m, hld⟩ := hld
    refine ⟨⟨_, rfl⟩, Lib.cell_of_heap hE'.bx 0, Lib.cell_of_heap hld 2, ?_, fun h0 => ?_⟩
    · refine ((Fr.of_below (base := w.heap.size) (N := fun q => q = c) hW).trans (Fr.of_below (N := fun q => q = c) hb3) (fun _ _ x => x)).trans (f'.base (by omega)) (fun q hq hx => ?_)
      rcases hx with ⟨x, hx, e⟩ | e | e
      · have := hp x hx; omega
      · omega
      · exact e
    · obtain ⟨a', cap', h'⟩ := (g' h0).2
      exact ⟨S + 3, a', cap', by omega, by simpa using h'⟩
  clear hEn hLn hSn nX nL nA nc ng hgl hcl hbW HF HR
  go_wp2_with (first | (go_at_call 179; refine HB.mono ?_; rintro e w3 ⟨p, rfl, hl3, hp3, hb3⟩) | (go_at_call 178; refine (HW.out _ _ hl3 hp3 hb3).mono ?_; rintro e w4 ⟨⟨x, rfl⟩, d1, d2, d3⟩))
  go_ret
  exact ⟨rfl, d3⟩
end Go.Proofs.YtmoajibmbppkjaeGreatDoor
namespace Go.Proofs.YtmoajibmbppkjaeGreatDoor
open Go.RowKit Go.Proofs.Sha

set_option maxRecDepth 100000 in
set_option maxHeartbeats 1000000 in
theorem pw_any (fnd : ByteArray → FN) (wd : Nat) (hfo : FndOk wd fnd) (sb : Nat) (lo hi root : ByteArray) (v0 v2 : Value) (w : World) (hb : w.heap[sb]? = some (.cells #[v0, .int .i64 (wd : Int), v2] 191)) (hr : root.size ≤ 1048576)
    (HF : Hid (∀ (hash : ByteArray) w', hash.size = wd → Below w.heap.size w w' → Calls Tryz.prog 204 #[.pointer (some ⟨sb, 0, none⟩), .string hash] w' fun e w'' => e = .returned (nodeT (fnd hash)) ∧ Below w'.heap.size w' w''))
    (HR : Hid (∀ (k : ByteArray) w', okKey k = true → Below w.heap.size w w' → Calls Tryz.prog 173 #[Value.string k] w' fun e w'' => e = .returned (.agg (rkL k).toArray) ∧ Below w'.heap.size w' w'')) :
    Calls Tryz.prog 108 #[.pointer (some ⟨sb, 0, none⟩), .string root, .agg #[.string lo, .string hi]] w (RangeAt (if hashOk root.size (wd : Int) = true then (if (goF fnd hgW lo hi 501 root ⟨#[]⟩ ⟨#[]⟩ ⟨#[]⟩ 0).1 = 0 then ((goF fnd hgW lo hi 501 root ⟨#[]⟩ ⟨#[]⟩ ⟨#[]⟩ 0).2.2, 0) else ([], (goF fnd hgW lo hi 501 root ⟨#[]⟩ ⟨#[]⟩ ⟨#[]⟩ 0).1)) else ([], 1)) w) := by
  obtain ⟨R, hR⟩ : ∃ R, goF fnd hgW lo hi 501 root ⟨#[]⟩ ⟨#[]⟩ ⟨#[]⟩ 0 = R := ⟨_, rfl⟩
  rw [hR]
  have hW : Below w.heap.size w ((w.alloc (.cells #[.string lo, .string hi] 152)).alloc (.cells #[.slice none 0 0] 26)) := ((Below.refl _ _).alloc (Nat.le_refl _) _).alloc (by simp) _
  have nC := heap_alloc_new (w.alloc (.cells #[.string lo, .string hi] 152)) (.cells #[.slice none 0 0] 26)
  have nG := (Below.heap_alloc (w.alloc (.cells #[.string lo, .string hi] 152)) (.cells #[.slice none 0 0] 26) w.heap.size (by simp)).trans (heap_alloc_new w (.cells #[.string lo, .string hi] 152))
  rw [World.size_alloc] at nC
  have hzW : ((w.alloc (.cells #[.string lo, .string hi] 152)).alloc (.cells #[.slice none 0 0] 26)).heap.size = w.heap.size + 2 := by simp
  have hbW := (hW.block sb (Array.getElem?_eq_some_iff.1 hb).1).trans hb
  cases hk : hashOk root.size (wd : Int) with
  | false =>
    rw [if_neg (by decide)]
    have HG := gt_bad sb w.heap.size (w.heap.size + 1) wd lo hi root v0 v2 _ hbW hr hk
    have HP : Hid (∀ w', Below w.heap.size w w' → RangeAt ([], 1) w (.returned (.tuple #[.slice none 0 0, .int .i64 1])) w') := fun w' hw' => ⟨⟨none, 0, rfl, ⟨rfl, .inl ⟨rfl, rfl⟩⟩⟩, hw'⟩
    have HQ : Hid (∀ w2, Below ((w.alloc (.cells #[.string lo, .string hi] 152)).alloc (.cells #[.slice none 0 0] 26)).heap.size ((w.alloc (.cells #[.string lo, .string hi] 152)).alloc (.cells #[.slice none 0 0] 26)) w2 → Below w.heap.size w w2) := fun w2 hb2 => hW.trans (hb2.mono hW.size)
    clear HF HR hR hzW nC nG hbW hW hb
    go_enter Tryz.func108, Tryz.ntmps108
    go_wp2_with (first | (go_at_call 151; refine HG.mono ?_; rintro e w2 ⟨rfl, hb2⟩; replace hb2 := HQ.out _ hb2))
    go_ret2
    exact HP.out _ hb2
  | true =>
    rw [if_pos rfl]
    have hsz : root.size = 0 ∨ root.size = wd := by
      unfold hashOk at hk
      rcases (Bool.or_eq_true _ _).mp hk with h | h
      · exact .inl (of_decide_eq_true h)
      · exact .inr (by have := of_decide_eq_true h; omega)
    have HG := gt_ok fnd wd hfo w w.heap.size sb w.heap.size (w.heap.size + 1) lo hi root v0 v2 _ hbW hr hk hsz hW (by omega) hW.size nG nC HF HR R hR
    have HQ : Hid (∀ w2, Fr ((w.alloc (.cells #[.string lo, .string hi] 152)).alloc (.cells #[.slice none 0 0] 26)).heap.size (fun q => q = w.heap.size + 1) ((w.alloc (.cells #[.string lo, .string hi] 152)).alloc (.cells #[.slice none 0 0] 26)) w2 → Below w.heap.size w w2) := fun w2 hf => hW.trans (hf.below hW.size (fun q e => by omega) hW.size)
    by_cases h0 : R.1 = 0
    · rw [if_pos h0]
      rw [h0] at HG
      have HL : Hid (∀ w2 (base : Nat) a cap, ((w.alloc (.cells #[.string lo, .string hi] 152)).alloc (.cells #[.slice none 0 0] 26)).heap.size ≤ base → Below w.heap.size w w2 → LS (w.heap.size + 1) base R.2.2 a cap w2 → w2.cell? ⟨w.heap.size + 1, 0, none⟩ = some (.slice a R.2.2.length cap) ∧ RangeAt (R.2.2, 0) w (.returned (.tuple #[.slice a R.2.2.length cap, .int .i64 0])) w2) := fun w2 base a cap hbs hb2 hl => ⟨Lib.cell_of_heap hl.blk 0, ⟨⟨a, cap, rfl, own2_mono hl.own (Nat.le_trans hW.size hbs)⟩, hb2⟩⟩
      clear HF HR hR hzW nC nG hbW hW hb h0
      go_enter Tryz.func108, Tryz.ntmps108
      go_wp2_with (first | (go_at_call 151; refine HG.mono ?_; rintro e w2 ⟨rfl, hf2, hl2⟩; obtain ⟨base, a2, cap2, hbs2, hl2⟩ := hl2 (by trivial); obtain ⟨c2, hr2⟩ := HL.out _ _ _ _ hbs2 (HQ.out _ hf2) hl2))
      go_ret2
      exact hr2
    · rw [if_neg h0]
      have HP : Hid (∀ w', Below w.heap.size w w' → RangeAt ([], R.1) w (.returned (.tuple #[.slice none 0 0, .int .i64 R.1])) w') := fun w' hw' => ⟨⟨none, 0, rfl, ⟨rfl, .inl ⟨rfl, rfl⟩⟩⟩, hw'⟩
      clear HF HR hR hzW nC nG hbW hW hb
      go_enter Tryz.func108, Tryz.ntmps108
      go_wp2_with (first | (go_at_call 151; refine HG.mono ?_; rintro e w2 ⟨rfl, hf2, hl2⟩; replace hf2 := HQ.out _ hf2))
      go_ret2
      exact HP.out _ hf2
end Go.Proofs.YtmoajibmbppkjaeGreatDoor
