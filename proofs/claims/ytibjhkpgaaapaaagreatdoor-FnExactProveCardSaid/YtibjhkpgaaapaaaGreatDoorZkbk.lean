import Derived.Test.YtibjhkpgaaapaaaGreatDoorZkbf
import Derived.Test.YtibjhkpgaaapaaaGreatDoorZkbj
import Derived.Test.YtibjhkpgaaapaaaGreatDoorZkad
namespace Go.Proofs.YtibjhkpgaaapaaaGreatDoor
open Go.RowKit Go.Proofs.Sha

theorem gt5_bad (sb gb c wd : Nat) (root : ByteArray) (v0 v2 : Value) (w : World) (hb : w.heap[sb]? = some (.cells #[v0, .int .i64 (wd : Int), v2] 194)) (hr : root.size ≤ 1048576) (hk : hashOk root.size (wd : Int) = false) :
    Calls Tryz.prog 111 #[.pointer (some ⟨sb, 0, none⟩), .string root, into5 gb c, at5 c] w fun e w' => e = .returned (.int .i64 1) ∧ Below w.heap.size w w' := by
  have HV := fun w' => vlink_any root (wd : Int) w' hr
  rw [hk] at HV
  have hA : Below w.heap.size w (w.alloc (.cells #[at5 c] 171)) := (Below.refl _ _).alloc (Nat.le_refl _) _
  have c1 : (w.alloc (.cells #[at5 c] 171)).cell? ⟨sb, 1, none⟩ = some (.int .i64 (wd : Int)) := Lib.cell_of_heap ((hA.block sb (Array.getElem?_eq_some_iff.1 hb).1).trans hb) 1
  go_enter Tryz.func111, Tryz.ntmps111
  go_wp2_with (first | (go_at_call 95; refine (HV _).mono ?_; rintro e w2 ⟨rfl, rfl⟩))
  go_ret
  exact ⟨rfl, hA⟩
set_option maxRecDepth 100000 in
set_option maxHeartbeats 1000000 in
theorem gt5_ok (fnd : ByteArray → FN) (wd : Nat) (hfo : FndOk wd fnd) (hwd32 : wd ≤ 32) (wg : World) (B0 sb gb c : Nat) (lo hi root : ByteArray) (v0 v2 : Value) (w : World) (hb : w.heap[sb]? = some (.cells #[v0, .int .i64 (wd : Int), v2] 194)) (hr : root.size ≤ 1048576) (hk : hashOk root.size (wd : Int) = true) (hsz : root.size = 0 ∨ root.size = wd)
    (hbw : Below B0 wg w) (hBc : B0 ≤ c) (hBs : B0 ≤ w.heap.size) (hgb : w.heap[gb]? = some (.cells #[.string lo, .string hi] 75)) (hcb : Bld c [] w)
    (HF : Hid (∀ (hash : ByteArray) w', hash.size = wd → Below B0 wg w' → Calls Tryz.prog 190 #[.pointer (some ⟨sb, 0, none⟩), .string hash] w' fun e w'' => e = .returned (nodeT (fnd hash)) ∧ Below w'.heap.size w' w''))
    (HR : Hid (∀ (k : ByteArray) w', okKey k = true → Below B0 wg w' → Calls Tryz.prog 166 #[Value.string k] w' fun e w'' => e = .returned (.agg (rkL k).toArray) ∧ Below w'.heap.size w' w'')) (R : Int × Nat × List PairT) (hRe : goF fnd hgW lo hi 501 root ⟨#[]⟩ ⟨#[]⟩ ⟨#[]⟩ 0 = R) :
    Calls Tryz.prog 111 #[.pointer (some ⟨sb, 0, none⟩), .string root, into5 gb c, at5 c] w fun e w' => e = .returned (.int .i64 R.1) ∧ Ft c (fun q => q = c) w w' ∧ (R.1 = 0 → Bld c (prL fnd lo hi 501 root ⟨#[]⟩ ⟨#[]⟩) w') := by
  have HV := fun w' => vlink_any root (wd : Int) w' hr
  rw [hk] at HV
  have hA : Below w.heap.size w (w.alloc (.cells #[at5 c] 171)) := (Below.refl _ _).alloc (Nat.le_refl _) _
  have c1 : (w.alloc (.cells #[at5 c] 171)).cell? ⟨sb, 1, none⟩ = some (.int .i64 (wd : Int)) := Lib.cell_of_heap ((hA.block sb (Array.getElem?_eq_some_iff.1 hb).1).trans hb) 1
  go_enter Tryz.func111, Tryz.ntmps111
  go_upto_region 4 with (first | (go_at_call 95; refine (HV _).mono ?_; rintro e w2 ⟨rfl, rfl⟩))
  have hgl := (Array.getElem?_eq_some_iff.1 hgb).1
  have hcl := hcb.lt
  have hW : Below w.heap.size w (((w.alloc (.cells #[at5 c] 171)).alloc (.cells #[.pointer (some ⟨sb, 0, none⟩), .int .i64 0, .int .i64 0] 228)).alloc (.cells #[.pointer (some ⟨w.heap.size + 1, 0, none⟩)] 226)) := (((Below.refl _ _).alloc (Nat.le_refl _) _).alloc (by simp) _).alloc (by simp; omega) _
  have nX := heap_alloc_new ((w.alloc (.cells #[at5 c] 171)).alloc (.cells #[.pointer (some ⟨sb, 0, none⟩), .int .i64 0, .int .i64 0] 228)) (.cells #[.pointer (some ⟨w.heap.size + 1, 0, none⟩)] 226)
  have nL0 : ((w.alloc (.cells #[at5 c] 171)).alloc (.cells #[.pointer (some ⟨sb, 0, none⟩), .int .i64 0, .int .i64 0] 228)).heap[w.heap.size + 1]? = some (.cells #[.pointer (some ⟨sb, 0, none⟩), .int .i64 0, .int .i64 0] 228) := by
    have := heap_alloc_new (w.alloc (.cells #[at5 c] 171)) (.cells #[.pointer (some ⟨sb, 0, none⟩), .int .i64 0, .int .i64 0] 228)
    rw [World.size_alloc] at this
    exact this
  have nL := (Below.heap_alloc ((w.alloc (.cells #[at5 c] 171)).alloc (.cells #[.pointer (some ⟨sb, 0, none⟩), .int .i64 0, .int .i64 0] 228)) (.cells #[.pointer (some ⟨w.heap.size + 1, 0, none⟩)] 226) (w.heap.size + 1) (by simp)).trans nL0
  clear nL0
  have nA := (Below.heap_alloc ((w.alloc (.cells #[at5 c] 171)).alloc (.cells #[.pointer (some ⟨sb, 0, none⟩), .int .i64 0, .int .i64 0] 228)) (.cells #[.pointer (some ⟨w.heap.size + 1, 0, none⟩)] 226) w.heap.size (by simp; omega)).trans ((Below.heap_alloc (w.alloc (.cells #[at5 c] 171)) (.cells #[.pointer (some ⟨sb, 0, none⟩), .int .i64 0, .int .i64 0] 228) w.heap.size (by simp)).trans (heap_alloc_new w (.cells #[at5 c] 171)))
  have hzW : (((w.alloc (.cells #[at5 c] 171)).alloc (.cells #[.pointer (some ⟨sb, 0, none⟩), .int .i64 0, .int .i64 0] 228)).alloc (.cells #[.pointer (some ⟨w.heap.size + 1, 0, none⟩)] 226)).heap.size = w.heap.size + 3 := by simp
  rw [World.size_alloc, World.size_alloc] at nX
  generalize ((w.alloc (.cells #[at5 c] 171)).alloc (.cells #[.pointer (some ⟨sb, 0, none⟩), .int .i64 0, .int .i64 0] 228)).alloc (.cells #[.pointer (some ⟨w.heap.size + 1, 0, none⟩)] 226) = W at hW nX nL nA hzW ⊢
  obtain ⟨S, hS⟩ : ∃ S, w.heap.size = S := ⟨_, rfl⟩
  have nc : Bld c [] W := hcb.below hW
  have ng : W.heap[gb]? = some (.cells #[.string lo, .string hi] 75) := (hW.block gb hgl).trans hgb
  have hst : Stc B0 (S + 3) (S + 1) c gb (S + 1 + 1) S := by
    rw [hS] at hgl hcl hBs
    obtain ⟨bcs, hbt⟩ := nc.ty
    have hne : gb ≠ c := ne_of_type ng hbt (by decide)
    exact ⟨by omega, by omega, by omega, by omega, by omega, by omega, by omega, by omega, by omega, by omega, by omega, by omega, by omega, hne, by omega⟩
  have hbW : Below B0 wg W := hbw.trans (hW.mono hBs)
  rw [hS] at nX nL nA hzW
  have hEn : Env5 wg B0 (S + 3) (S + 1) c gb (S + 1 + 1) S lo hi W := ⟨nX, nA, ng, hbW, by omega⟩
  have hLn : LD (S + 1) sb 0 0 W := nL
  have HB := branchAt_any root ⟨#[]⟩ ⟨#[]⟩ none W
  have HW : Hid (∀ p w3, LinkAt root ⟨#[]⟩ ⟨#[]⟩ none p w3 → (∀ q, p = some q → W.heap.size ≤ q.block) → Below W.heap.size W w3 → Calls Tryz.prog 147 #[.pointer p, into5 gb c, atV (S + 1 + 1) S] w3 fun e w' => (∃ x, e = .returned (.bool x)) ∧ w'.cell? ⟨S + 1 + 1, 0, none⟩ = some (.pointer (some ⟨S + 1, 0, none⟩)) ∧ w'.cell? ⟨S + 1, 2, none⟩ = some (.int .i64 R.1) ∧ Ft c (fun q => q = c) w w' ∧ (R.1 = 0 → Bld c (prL fnd lo hi 501 root ⟨#[]⟩ ⟨#[]⟩) w')) := fun p w3 hl hp hb3 => by
    refine (walk5_any fnd wd hfo hwd32 wg B0 (S + 3) (S + 1) sb c gb (S + 1 + 1) S lo hi hst HF HR 501 root ⟨#[]⟩ ⟨#[]⟩ ⟨#[]⟩ none p 0 [] w3 (hEn.below hst hb3) hl (.inl ⟨rfl, rfl⟩) (hLn.below hb3) (nc.below hb3) (fun q hq => by have := hp q hq; omega) hsz (by omega) (by omega) (Nat.le_refl _)).mono ?_
    rw [hRe]
    rintro e w' ⟨rfl, f', g', n'⟩
    have hE' := (hEn.below hst hb3).ft hst f' (fun q hq => by
      rcases hq with ⟨x, hx, e⟩ | e | e
      · have := hp x hx; exact .inr (.inr (by omega))
      · exact .inl e
      · exact .inr (.inl e))
    have hld : ∃ m, LD (S + 1) sb m R.1 w' := by
      by_cases h0 : R.1 = 0
      · rw [h0]; exact ⟨_, (g' h0).1⟩
      · exact n' h0
    obtain ⟨m, hld⟩ := hld
    refine ⟨⟨_, rfl⟩, Lib.cell_of_heap hE'.bx 0, Lib.cell_of_heap hld 2, ?_, fun h0 => ?_⟩
    · refine ((Ft.of_below (base := c) (N := fun q => q = c) hW).trans (Ft.of_below (N := fun q => q = c) hb3) (fun _ _ x => x)).trans f' (fun q hq hx => ?_)
      rcases hx with ⟨x, hx, e⟩ | e | e
      · have := hp x hx; omega
      · omega
      · exact e
    · exact (g' h0).2
  clear hEn hLn nX nL nA nc ng hgl hcl hbW HF HR hcb
  go_wp2_with (first | (go_at_call 148; refine HB.mono ?_; rintro e w3 ⟨p, rfl, hl3, hp3, hb3⟩) | (go_at_call 147; refine (HW.out _ _ hl3 hp3 hb3).mono ?_; rintro e w4 ⟨⟨x, rfl⟩, d1, d2, d3⟩))
  go_ret
  exact ⟨rfl, d3⟩
/-- A proof out of a pool: its text, the code. -/
def proveX (fnd : ByteArray → FN) (wd : Nat) (root lo hi : ByteArray) : ByteArray × Int :=
  if hashOk root.size (wd : Int) = true then
    if (goF fnd hgW lo hi 501 root ⟨#[]⟩ ⟨#[]⟩ ⟨#[]⟩ 0).1 = 0 then (⟨(prL fnd lo hi 501 root ⟨#[]⟩ ⟨#[]⟩).toArray⟩, 0) else (⟨#[]⟩, (goF fnd hgW lo hi 501 root ⟨#[]⟩ ⟨#[]⟩ ⟨#[]⟩ 0).1)
  else (⟨#[]⟩, 1)
set_option maxRecDepth 100000 in
set_option maxHeartbeats 1000000 in
theorem prove_any (fnd : ByteArray → FN) (wd : Nat) (hfo : FndOk wd fnd) (hwd32 : wd ≤ 32) (sb : Nat) (lo hi root : ByteArray) (v0 v2 : Value) (w : World) (hb : w.heap[sb]? = some (.cells #[v0, .int .i64 (wd : Int), v2] 194)) (hr : root.size ≤ 1048576)
    (HF : Hid (∀ (hash : ByteArray) w', hash.size = wd → Below w.heap.size w w' → Calls Tryz.prog 190 #[.pointer (some ⟨sb, 0, none⟩), .string hash] w' fun e w'' => e = .returned (nodeT (fnd hash)) ∧ Below w'.heap.size w' w''))
    (HR : Hid (∀ (k : ByteArray) w', okKey k = true → Below w.heap.size w w' → Calls Tryz.prog 166 #[Value.string k] w' fun e w'' => e = .returned (.agg (rkL k).toArray) ∧ Below w'.heap.size w' w'')) :
    Calls Tryz.prog 53 #[.pointer (some ⟨sb, 0, none⟩), .string root, .agg #[.string lo, .string hi]] w fun e w' => e = .returned (.tuple #[.string (proveX fnd wd root lo hi).1, .int .i64 (proveX fnd wd root lo hi).2]) ∧ Below w.heap.size w w' := by
  have hXe : proveX fnd wd root lo hi = proveX fnd wd root lo hi := rfl
  conv at hXe => rhs; unfold proveX
  obtain ⟨R, hR⟩ : ∃ R, goF fnd hgW lo hi 501 root ⟨#[]⟩ ⟨#[]⟩ ⟨#[]⟩ 0 = R := ⟨_, rfl⟩
  rw [hR] at hXe
  have hW : Below w.heap.size w ((w.alloc (.cells #[.string lo, .string hi] 75)).alloc (.cells #[.pointer none, .slice none 0 0] 165)) := ((Below.refl _ _).alloc (Nat.le_refl _) _).alloc (by simp) _
  have nC := fresh_bld1 w (.cells #[.string lo, .string hi] 75)
  have nG := (Below.heap_alloc (w.alloc (.cells #[.string lo, .string hi] 75)) (.cells #[.pointer none, .slice none 0 0] 165) w.heap.size (by simp)).trans (heap_alloc_new w (.cells #[.string lo, .string hi] 75))
  have hzW : ((w.alloc (.cells #[.string lo, .string hi] 75)).alloc (.cells #[.pointer none, .slice none 0 0] 165)).heap.size = w.heap.size + 2 := by simp
  have hbW := (hW.block sb (Array.getElem?_eq_some_iff.1 hb).1).trans hb
  cases hk : hashOk root.size (wd : Int) with
  | false =>
    rw [hk, if_neg (by decide)] at hXe
    rw [hXe]
    have HG := gt5_bad sb w.heap.size (w.heap.size + 1) wd root v0 v2 _ hbW hr hk
    have HQ : Hid (∀ w2, Below ((w.alloc (.cells #[.string lo, .string hi] 75)).alloc (.cells #[.pointer none, .slice none 0 0] 165)).heap.size ((w.alloc (.cells #[.string lo, .string hi] 75)).alloc (.cells #[.pointer none, .slice none 0 0] 165)) w2 → Below w.heap.size w w2) := fun w2 hb2 => hW.trans (hb2.mono hW.size)
    clear HF HR hR hzW nC nG hbW hW hb hXe
    go_enter Tryz.func53, Tryz.ntmps53
    go_wp2_with (first | (go_at_call 111; refine HG.mono ?_; rintro e w2 ⟨rfl, hb2⟩; replace hb2 := HQ.out _ hb2))
    go_ret2
    exact ⟨rfl, hb2⟩
  | true =>
    rw [hk, if_pos rfl] at hXe
    have hsz : root.size = 0 ∨ root.size = wd := by
      unfold hashOk at hk
      rcases (Bool.or_eq_true _ _).mp hk with h | h
      · exact .inl (of_decide_eq_true h)
      · exact .inr (by have := of_decide_eq_true h; omega)
    have HG := gt5_ok fnd wd hfo hwd32 w w.heap.size sb w.heap.size (w.heap.size + 1) lo hi root v0 v2 _ hbW hr hk hsz hW (by omega) hW.size nG nC HF HR R hR
    have HQ : Hid (∀ w2, Ft (w.heap.size + 1) (fun q => q = w.heap.size + 1) ((w.alloc (.cells #[.string lo, .string hi] 75)).alloc (.cells #[.pointer none, .slice none 0 0] 165)) w2 → Below w.heap.size w w2) := fun w2 hf => hW.trans (hf.below (by omega) (fun q e => by omega) hW.size)
    by_cases h0 : R.1 = 0
    · rw [if_pos h0] at hXe
      rw [hXe]
      rw [h0] at HG
      generalize prL fnd lo hi 501 root ⟨#[]⟩ ⟨#[]⟩ = X at HG hXe ⊢
      have HS : Hid (∀ w2, Bld (w.heap.size + 1) X w2 → Below w.heap.size w w2 → Calls Tryz.prog 114 #[.pointer (some ⟨w.heap.size + 1, 0, none⟩)] w2 fun e w' => e = .returned (.string ⟨X.toArray⟩) ∧ Below w.heap.size w w') := fun w2 h2 hb2 => by
        refine (bstring _ _ w2 h2).mono ?_
        rintro e w' ⟨rfl, hb3⟩
        exact ⟨rfl, hb2.trans (hb3.mono (by omega))⟩
      clear HF HR hR hzW nC nG hbW hW hb h0 hXe
      go_enter Tryz.func53, Tryz.ntmps53
      go_wp2_with (first | (go_at_call 111; refine HG.mono ?_; rintro e w2 ⟨rfl, hf2, hl2⟩; replace hl2 := hl2 (by trivial); replace hf2 := HQ.out _ hf2) | (go_at_call 114; refine (HS.out _ hl2 hf2).mono ?_; rintro e w3 ⟨rfl, hb3⟩))
      go_ret2
      exact ⟨rfl, hb3⟩
    · rw [if_neg h0] at hXe
      rw [hXe]
      clear HF HR hR hzW nC nG hbW hW hb hXe
      go_enter Tryz.func53, Tryz.ntmps53
      go_wp2_with (first | (go_at_call 111; refine HG.mono ?_; rintro e w2 ⟨rfl, hf2, hl2⟩; replace hf2 := HQ.out _ hf2))
      go_ret2
      exact ⟨rfl, hf2⟩
end Go.Proofs.YtibjhkpgaaapaaaGreatDoor
