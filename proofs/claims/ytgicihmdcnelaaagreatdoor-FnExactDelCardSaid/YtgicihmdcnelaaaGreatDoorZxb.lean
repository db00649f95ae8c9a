import Derived.Test.YtgicihmdcnelaaaGreatDoorZxa
import Derived.Test.YtgicihmdcnelaaaGreatDoorZbb
import Derived.Test.YtgicihmdcnelaaaGreatDoorZat
import Derived.Test.YtgicihmdcnelaaaGreatDoorZae
import Derived.Test.YtgicihmdcnelaaaGreatDoorZbn
import Derived.Test.YtgicihmdcnelaaaGreatDoorZap
import Derived.Test.YtgicihmdcnelaaaGreatDoorZbc
namespace Go.Proofs.YtgicihmdcnelaaaGreatDoor
open Go.RowKit Go.Proofs.Sha

abbrev at37 (gb c : Nat) : Value := .func (.func 115) #[] #[.pointer (some ⟨gb, 0, none⟩), .pointer (some ⟨c, 0, none⟩)]
theorem gt_bad (sb gb c wd : Nat) (lo hi root : ByteArray) (v0 v2 : Value) (w : World) (hb : w.heap[sb]? = some (.cells #[v0, .int .i64 (wd : Int), v2] 95)) (hr : root.size ≤ 1048576) (hk : hashOk root.size (wd : Int) = false) :
    Calls Tryz.prog 113 #[.pointer (some ⟨sb, 0, none⟩), .string root, intoV lo hi, at37 gb c] w fun e w' => e = .returned (.int .i64 1) ∧ Below w.heap.size w w' := by
  have HV := fun w' => vlink_any root (wd : Int) w' hr
  rw [hk] at HV
  have hA : Below w.heap.size w (w.alloc (.cells #[at37 gb c] 162)) := (Below.refl _ _).alloc (Nat.le_refl _) _
  have c1 : (w.alloc (.cells #[at37 gb c] 162)).cell? ⟨sb, 1, none⟩ = some (.int .i64 (wd : Int)) := Lib.cell_of_heap ((hA.block sb (Array.getElem?_eq_some_iff.1 hb).1).trans hb) 1
  go_enter Tryz.func113, Tryz.ntmps113
  go_wp2_with (first | (go_at_call 125; refine (HV _).mono ?_; rintro e w2 ⟨rfl, rfl⟩))
  go_ret
  exact ⟨rfl, hA⟩
set_option maxRecDepth 100000 in
set_option maxHeartbeats 1000000 in
theorem gt_ok (fnd : ByteArray → FN) (wd : Nat) (hfo : FndOk wd fnd) (wg : World) (B0 sb gb c : Nat) (lo hi root : ByteArray) (v0 v2 : Value) (w : World) (hb : w.heap[sb]? = some (.cells #[v0, .int .i64 (wd : Int), v2] 95)) (hr : root.size ≤ 1048576) (hk : hashOk root.size (wd : Int) = true) (hsz : root.size = 0 ∨ root.size = wd)
    (hbw : Below B0 wg w) (hBc : B0 ≤ c) (hBs : B0 ≤ w.heap.size) (hgb : w.heap[gb]? = some (.cells #[.string lo, .string hi] 138)) (hcb : w.heap[c]? = some (.cells #[.slice none 0 0] 33))
    (HF : Hid (∀ (hash : ByteArray) w', hash.size = wd → Below B0 wg w' → Calls Tryz.prog 143 #[.pointer (some ⟨sb, 0, none⟩), .string hash] w' fun e w'' => e = .returned (nodeT (fnd hash)) ∧ Below w'.heap.size w' w''))
    (HR : Hid (∀ (k : ByteArray) w', okKey k = true → Below B0 wg w' → Calls Tryz.prog 92 #[Value.string k] w' fun e w'' => e = .returned (.agg (rkL k).toArray) ∧ Below w'.heap.size w' w'')) (R : Int × Nat × List PairT) (hRe : goF fnd hgW lo hi 501 root ⟨#[]⟩ ⟨#[]⟩ ⟨#[]⟩ 0 = R) :
    Calls Tryz.prog 113 #[.pointer (some ⟨sb, 0, none⟩), .string root, intoV lo hi, at37 gb c] w fun e w' => e = .returned (.int .i64 R.1) ∧ Fr w.heap.size (fun q => q = c) w w' ∧ (R.1 = 0 → ∃ base a cap, w.heap.size ≤ base ∧ LS c base R.2.2 a cap w') := by
  have HV := fun w' => vlink_any root (wd : Int) w' hr
  rw [hk] at HV
  have hA : Below w.heap.size w (w.alloc (.cells #[at37 gb c] 162)) := (Below.refl _ _).alloc (Nat.le_refl _) _
  have c1 : (w.alloc (.cells #[at37 gb c] 162)).cell? ⟨sb, 1, none⟩ = some (.int .i64 (wd : Int)) := Lib.cell_of_heap ((hA.block sb (Array.getElem?_eq_some_iff.1 hb).1).trans hb) 1
  go_enter Tryz.func113, Tryz.ntmps113
  go_upto_region 4 with (first | (go_at_call 125; refine (HV _).mono ?_; rintro e w2 ⟨rfl, rfl⟩))
  have hgl := (Array.getElem?_eq_some_iff.1 hgb).1
  have hcl := (Array.getElem?_eq_some_iff.1 hcb).1
  have hW : Below w.heap.size w (((w.alloc (.cells #[at37 gb c] 162)).alloc (.cells #[.pointer (some ⟨sb, 0, none⟩), .int .i64 0, .int .i64 0] 171)).alloc (.cells #[.pointer (some ⟨w.heap.size + 1, 0, none⟩)] 169)) := (((Below.refl _ _).alloc (Nat.le_refl _) _).alloc (by simp) _).alloc (by simp; omega) _
  have nX := heap_alloc_new ((w.alloc (.cells #[at37 gb c] 162)).alloc (.cells #[.pointer (some ⟨sb, 0, none⟩), .int .i64 0, .int .i64 0] 171)) (.cells #[.pointer (some ⟨w.heap.size + 1, 0, none⟩)] 169)
  have nL0 : ((w.alloc (.cells #[at37 gb c] 162)).alloc (.cells #[.pointer (some ⟨sb, 0, none⟩), .int .i64 0, .int .i64 0] 171)).heap[w.heap.size + 1]? = some (.cells #[.pointer (some ⟨sb, 0, none⟩), .int .i64 0, .int .i64 0] 171) := by
    have := heap_alloc_new (w.alloc (.cells #[at37 gb c] 162)) (.cells #[.pointer (some ⟨sb, 0, none⟩), .int .i64 0, .int .i64 0] 171)
    rw [World.size_alloc] at this
    exact this
  have nL := (Below.heap_alloc ((w.alloc (.cells #[at37 gb c] 162)).alloc (.cells #[.pointer (some ⟨sb, 0, none⟩), .int .i64 0, .int .i64 0] 171)) (.cells #[.pointer (some ⟨w.heap.size + 1, 0, none⟩)] 169) (w.heap.size + 1) (by simp)).trans nL0
  clear nL0
  have nA := (Below.heap_alloc ((w.alloc (.cells #[at37 gb c] 162)).alloc (.cells #[.pointer (some ⟨sb, 0, none⟩), .int .i64 0, .int .i64 0] 171)) (.cells #[.pointer (some ⟨w.heap.size + 1, 0, none⟩)] 169) w.heap.size (by simp; omega)).trans ((Below.heap_alloc (w.alloc (.cells #[at37 gb c] 162)) (.cells #[.pointer (some ⟨sb, 0, none⟩), .int .i64 0, .int .i64 0] 171) w.heap.size (by simp)).trans (heap_alloc_new w (.cells #[at37 gb c] 162)))
  have hzW : (((w.alloc (.cells #[at37 gb c] 162)).alloc (.cells #[.pointer (some ⟨sb, 0, none⟩), .int .i64 0, .int .i64 0] 171)).alloc (.cells #[.pointer (some ⟨w.heap.size + 1, 0, none⟩)] 169)).heap.size = w.heap.size + 3 := by simp
  rw [World.size_alloc, World.size_alloc] at nX
  generalize ((w.alloc (.cells #[at37 gb c] 162)).alloc (.cells #[.pointer (some ⟨sb, 0, none⟩), .int .i64 0, .int .i64 0] 171)).alloc (.cells #[.pointer (some ⟨w.heap.size + 1, 0, none⟩)] 169) = W at hW nX nL nA hzW ⊢
  obtain ⟨S, hS⟩ : ∃ S, w.heap.size = S := ⟨_, rfl⟩
  have nc : W.heap[c]? = some (.cells #[.slice none 0 0] 33) := (hW.block c hcl).trans hcb
  have ng : W.heap[gb]? = some (.cells #[.string lo, .string hi] 138) := (hW.block gb hgl).trans hgb
  have hst : Stc B0 (S + 3) (S + 1) c gb (S + 1 + 1) S := by
    rw [hS] at hgl hcl hBs
    have hne : gb ≠ c := ne_of_type ng nc (by decide)
    exact ⟨by omega, by omega, by omega, by omega, by omega, by omega, by omega, by omega, by omega, by omega, by omega, by omega, by omega, hne, by omega⟩
  have hbW : Below B0 wg W := hbw.trans (hW.mono hBs)
  rw [hS] at nX nL nA hzW
  have hEn : Env wg B0 (S + 3) (S + 1) c gb (S + 1 + 1) S lo hi W := ⟨nX, nA, ng, hbW, by omega⟩
  have hLn : LD (S + 1) sb 0 0 W := nL
  have hSn : LS c (S + 3) [] none 0 W := ⟨nc, ⟨rfl, .inl ⟨rfl, rfl⟩⟩, by omega⟩
  have HB := branchAt_any root ⟨#[]⟩ ⟨#[]⟩ none W
  have HW : Hid (∀ p w3, LinkAt root ⟨#[]⟩ ⟨#[]⟩ none p w3 → (∀ q, p = some q → W.heap.size ≤ q.block) → Below W.heap.size W w3 → Calls Tryz.prog 126 #[.pointer p, intoV lo hi, atV (S + 1 + 1) S] w3 fun e w' => (∃ x, e = .returned (.bool x)) ∧ w'.cell? ⟨S + 1 + 1, 0, none⟩ = some (.pointer (some ⟨S + 1, 0, none⟩)) ∧ w'.cell? ⟨S + 1, 2, none⟩ = some (.int .i64 R.1) ∧ Fr w.heap.size (fun q => q = c) w w' ∧ (R.1 = 0 → ∃ base a cap, w.heap.size ≤ base ∧ LS c base R.2.2 a cap w')) := fun p w3 hl hp hb3 => by
    refine (walk_any fnd wd hfo wg B0 (S + 3) (S + 1) sb c gb (S + 1 + 1) S lo hi hst HF HR 501 root ⟨#[]⟩ ⟨#[]⟩ ⟨#[]⟩ none p 0 [] none 0 w3 (hEn.below hst hb3) hl (.inl ⟨rfl, rfl⟩) (hLn.below hb3) (hSn.below hb3) (fun q hq => by have := hp q hq; omega) hsz (by omega) (by omega) (Nat.le_refl _)).mono ?_
    rw [hRe]
    rintro e w' ⟨rfl, f', g', n'⟩
    have hE' := (hEn.below hst hb3).fr hst f' (fun q hq => by
      rcases hq with ⟨x, hx, e⟩ | e | e
      · have := hp x hx; exact .inr (.inr (by omega))
      · exact .inl e
      · exact .inr (.inl e))
    have hld : ∃ m, LD (S + 1) sb m R.1 w' := by
      by_cases h0 : R.1 = 0
      · rw [h0]; exact ⟨_, (g' h0).1⟩
      · exact n' h0
    obtain ⟨m, hld⟩ := hld
    refine ⟨⟨_, rfl⟩, Lib.cell_of_heap hE'.bx 0, Lib.cell_of_heap hld 2, ?_, fun h0 => ?_⟩
    · refine ((Fr.of_below (base := w.heap.size) (N := fun q => q = c) hW).trans (Fr.of_below (N := fun q => q = c) hb3) (fun _ _ x => x)).trans (f'.base (by omega)) (fun q hq hx => ?_)
      rcases hx with ⟨x, hx, e⟩ | e | e
      · have := hp x hx; omega
      · omega
      · exact e
    · obtain ⟨a', cap', h'⟩ := (g' h0).2
      exact ⟨S + 3, a', cap', by omega, by simpa using h'⟩
  clear hEn hLn hSn nX nL nA nc ng hgl hcl hbW HF HR
  go_wp2_with (first | (go_at_call 127; refine HB.mono ?_; rintro e w3 ⟨p, rfl, hl3, hp3, hb3⟩) | (go_at_call 126; refine (HW.out _ _ hl3 hp3 hb3).mono ?_; rintro e w4 ⟨⟨x, rfl⟩, d1, d2, d3⟩))
  go_ret
  exact ⟨rfl, d3⟩
end Go.Proofs.YtgicihmdcnelaaaGreatDoor
namespace Go.Proofs.YtgicihmdcnelaaaGreatDoor
open Go.RowKit Go.Proofs.Sha

set_option maxRecDepth 100000 in
set_option maxHeartbeats 1000000 in
theorem pw_any (fnd : ByteArray → FN) (wd : Nat) (hfo : FndOk wd fnd) (sb : Nat) (lo hi root : ByteArray) (v0 v2 : Value) (w : World) (hb : w.heap[sb]? = some (.cells #[v0, .int .i64 (wd : Int), v2] 95)) (hr : root.size ≤ 1048576)
    (HF : Hid (∀ (hash : ByteArray) w', hash.size = wd → Below w.heap.size w w' → Calls Tryz.prog 143 #[.pointer (some ⟨sb, 0, none⟩), .string hash] w' fun e w'' => e = .returned (nodeT (fnd hash)) ∧ Below w'.heap.size w' w''))
    (HR : Hid (∀ (k : ByteArray) w', okKey k = true → Below w.heap.size w w' → Calls Tryz.prog 92 #[Value.string k] w' fun e w'' => e = .returned (.agg (rkL k).toArray) ∧ Below w'.heap.size w' w'')) :
    Calls Tryz.prog 95 #[.pointer (some ⟨sb, 0, none⟩), .string root, .agg #[.string lo, .string hi]] w (RangeAt (if hashOk root.size (wd : Int) = true then (if (goF fnd hgW lo hi 501 root ⟨#[]⟩ ⟨#[]⟩ ⟨#[]⟩ 0).1 = 0 then ((goF fnd hgW lo hi 501 root ⟨#[]⟩ ⟨#[]⟩ ⟨#[]⟩ 0).2.2, 0) else ([], (goF fnd hgW lo hi 501 root ⟨#[]⟩ ⟨#[]⟩ ⟨#[]⟩ 0).1)) else ([], 1)) w) := by
  obtain ⟨R, hR⟩ : ∃ R, goF fnd hgW lo hi 501 root ⟨#[]⟩ ⟨#[]⟩ ⟨#[]⟩ 0 = R := ⟨_, rfl⟩
  rw [hR]
  have hW : Below w.heap.size w ((w.alloc (.cells #[.string lo, .string hi] 138)).alloc (.cells #[.slice none 0 0] 33)) := ((Below.refl _ _).alloc (Nat.le_refl _) _).alloc (by simp) _
  have nC := heap_alloc_new (w.alloc (.cells #[.string lo, .string hi] 138)) (.cells #[.slice none 0 0] 33)
  have nG := (Below.heap_alloc (w.alloc (.cells #[.string lo, .string hi] 138)) (.cells #[.slice none 0 0] 33) w.heap.size (by simp)).trans (heap_alloc_new w (.cells #[.string lo, .string hi] 138))
  rw [World.size_alloc] at nC
  have hzW : ((w.alloc (.cells #[.string lo, .string hi] 138)).alloc (.cells #[.slice none 0 0] 33)).heap.size = w.heap.size + 2 := by simp
  have hbW := (hW.block sb (Array.getElem?_eq_some_iff.1 hb).1).trans hb
  cases hk : hashOk root.size (wd : Int) with
  | false =>
    rw [if_neg (by decide)]
    have HG := gt_bad sb w.heap.size (w.heap.size + 1) wd lo hi root v0 v2 _ hbW hr hk
    have HP : Hid (∀ w', Below w.heap.size w w' → RangeAt ([], 1) w (.returned (.tuple #[.slice none 0 0, .int .i64 1])) w') := fun w' hw' => ⟨⟨none, 0, rfl, ⟨rfl, .inl ⟨rfl, rfl⟩⟩⟩, hw'⟩
    have HQ : Hid (∀ w2, Below ((w.alloc (.cells #[.string lo, .string hi] 138)).alloc (.cells #[.slice none 0 0] 33)).heap.size ((w.alloc (.cells #[.string lo, .string hi] 138)).alloc (.cells #[.slice none 0 0] 33)) w2 → Below w.heap.size w w2) := fun w2 hb2 => hW.trans (hb2.mono hW.size)
    clear HF HR hR hzW nC nG hbW hW hb
    go_enter Tryz.func95, Tryz.ntmps95
    go_wp2_with (first | (go_at_call 113; refine HG.mono ?_; rintro e w2 ⟨rfl, hb2⟩; replace hb2 := HQ.out _ hb2))
    go_ret2
    exact HP.out _ hb2
  | true =>
    rw [if_pos rfl]
    have hsz : root.size = 0 ∨ root.size = wd := by
      unfold hashOk at hk
      rcases (Bool.or_eq_true _ _).mp hk with h | h
      · exact .inl (of_decide_eq_true h)
      · exact .inr (by have := of_decide_eq_true h; omega)
    have HG := gt_ok fnd wd hfo w w.heap.size sb w.heap.size (w.heap.size + 1) lo hi root v0 v2 _ hbW hr hk hsz hW (by omega) hW.size nG nC HF HR R hR
    have HQ : Hid (∀ w2, Fr ((w.alloc (.cells #[.string lo, .string hi] 138)).alloc (.cells #[.slice none 0 0] 33)).heap.size (fun q => q = w.heap.size + 1) ((w.alloc (.cells #[.string lo, .string hi] 138)).alloc (.cells #[.slice none 0 0] 33)) w2 → Below w.heap.size w w2) := fun w2 hf => hW.trans (hf.below hW.size (fun q e => by omega) hW.size)
    by_cases h0 : R.1 = 0
    · rw [if_pos h0]
      rw [h0] at HG
      have HL : Hid (∀ w2 (base : Nat) a cap, ((w.alloc (.cells #[.string lo, .string hi] 138)).alloc (.cells #[.slice none 0 0] 33)).heap.size ≤ base → Below w.heap.size w w2 → LS (w.heap.size + 1) base R.2.2 a cap w2 → w2.cell? ⟨w.heap.size + 1, 0, none⟩ = some (.slice a R.2.2.length cap) ∧ RangeAt (R.2.2, 0) w (.returned (.tuple #[.slice a R.2.2.length cap, .int .i64 0])) w2) := fun w2 base a cap hbs hb2 hl => ⟨Lib.cell_of_heap hl.blk 0, ⟨⟨a, cap, rfl, own2_mono hl.own (Nat.le_trans hW.size hbs)⟩, hb2⟩⟩
      clear HF HR hR hzW nC nG hbW hW hb h0
      go_enter Tryz.func95, Tryz.ntmps95
      go_wp2_with (first | (go_at_call 113; refine HG.mono ?_; rintro e w2 ⟨rfl, hf2, hl2⟩; obtain ⟨base, a2, cap2, hbs2, hl2⟩ := hl2 (by trivial); obtain ⟨c2, hr2⟩ := HL.out _ _ _ _ hbs2 (HQ.out _ hf2) hl2))
      go_ret2
      exact hr2
    · rw [if_neg h0]
      have HP : Hid (∀ w', Below w.heap.size w w' → RangeAt ([], R.1) w (.returned (.tuple #[.slice none 0 0, .int .i64 R.1])) w') := fun w' hw' => ⟨⟨none, 0, rfl, ⟨rfl, .inl ⟨rfl, rfl⟩⟩⟩, hw'⟩
      clear HF HR hR hzW nC nG hbW hW hb
      go_enter Tryz.func95, Tryz.ntmps95
      go_wp2_with (first | (go_at_call 113; refine HG.mono ?_; rintro e w2 ⟨rfl, hf2, hl2⟩; replace hf2 := HQ.out _ hf2))
      go_ret2
      exact HP.out _ hf2
end Go.Proofs.YtgicihmdcnelaaaGreatDoor
namespace Go.Proofs.YtgicihmdcnelaaaGreatDoor
open Go.RowKit Go.Proofs.Sha

/-- The hash's table. -/
abbrev KT (w : World) : Prop := ∀ j, j < 64 → w.cell? ⟨0, j, none⟩ = some (.int .u32 ((kTab.getD j 0).toNat : Int))
theorem KT.below {w w' : World} (h : KT w) (hb : Below w.heap.size w w') : KT w' := fun j hj => by
  have hl0 : 0 < w.heap.size := World.block_lt_of_cell? w _ (h 0 (by omega))
  exact (hb.cell (by exact hl0)).trans (h j hj)
end Go.Proofs.YtgicihmdcnelaaaGreatDoor
namespace Go.Proofs.YtgicihmdcnelaaaGreatDoor
open Go.RowKit Go.Proofs.Sha

set_option maxRecDepth 100000 in
set_option maxHeartbeats 4000000 in
theorem srange_err (HD : Hid DigSaid) (D : Dec) (wd : Nat) (HDd : Hid (DecSaid 124 wd D)) (hdo : DecOk wd D) (a : Option Addr) (ss : List ByteArray) (c : Nat) (root lo hi : ByteArray) (w : World) (h : SArg a ss w) (hq : Hid (∀ j, (ss.getD j ⟨#[]⟩).size ≤ 1048575)) (h1 : 1 ≤ wd) (h2 : wd ≤ 32)
    (hr : root.size ≤ 1048576) (hlo : lo.size ≤ 1048576) (hhi : hi.size ≤ 1048576) (hp : poolOk (wd : Int) ss.length = true) (hk : hashOk root.size (wd : Int) = true) (hR0 : (goF (fndD D wd ss) hgW lo hi 501 root ⟨#[]⟩ ⟨#[]⟩ ⟨#[]⟩ 0).1 ≠ 0) :
    Calls Tryz.prog 71 #[.agg #[.int .i64 (wd : Int), .slice a ss.length c], .string root, .string lo, .string hi] w (RangeAt (rangeM (fndD D wd ss) (wd : Int) ss.length root lo hi) w) := by
  have HP := fun w' => poolOk_any (wd : Int) a ss.length c w' h.le
  have HH := fun w' => hashOk_any root (wd : Int) w' hr
  rw [hp] at HP
  rw [hk] at HH
  have hS := SR.mk0 w (wd : Int) a ss.length c
  obtain ⟨R, hR⟩ : ∃ R, goF (fndD D wd ss) hgW lo hi 501 root ⟨#[]⟩ ⟨#[]⟩ ⟨#[]⟩ 0 = R := ⟨_, rfl⟩
  rw [hR] at hR0
  have hRM := rangeM_ok (lo := lo) (hi := hi) (by rw [hp, hk]; rfl : (poolOk (wd : Int) ss.length && hashOk root.size (wd : Int)) = true) hR
  obtain ⟨Z, hZ⟩ : ∃ Z, rangeM (fndD D wd ss) (wd : Int) ss.length root lo hi = Z := ⟨_, rfl⟩
  rw [hZ] at hRM ⊢
  obtain ⟨N, hN⟩ : ∃ N, ss.length = N := ⟨_, rfl⟩
  have HHS : Hid (∀ w', Below w.heap.size w w' → Calls Tryz.prog 28 #[.agg #[.int .i64 (wd : Int), .slice a N c]] w' fun e w'' => ∃ g c', e = .returned (.slice (some ⟨g, 0, none⟩) N c') ∧ (∀ W, Below w''.heap.size w'' W → Calls Tryz.prog 94 #[.agg #[.int .i64 (wd : Int), .slice a N c], .slice (some ⟨g, 0, none⟩) N c', .string root, .string ⟨#[]⟩, .agg #[.string ⟨#[]⟩, .string ⟨#[]⟩], .string lo, .string hi, .int .i64 0] W (GoPost R W)) ∧ Below w'.heap.size w' w'') := by
    intro w' hb
    have hA := h.below hb
    rw [← hN]
    refine (hashes_any HD wd a ss c w' hA hq h1 h2).mono ?_
    rintro e w'' ⟨g, c', rfl, hrow, hb2⟩
    refine ⟨g, c', rfl, fun W hW => ?_, hb2⟩
    have hA2 := hA.below hb2
    rw [← hR]
    refine go_all (fndD D wd ss) wd (fndD_ok D wd ss hdo) a ss.length c g c' lo hi hlo hhi w'' (fun w3 hash hb3 => ?_) 501 root ⟨#[]⟩ ⟨#[]⟩ ⟨#[]⟩ 0 W (by omega) (by omega) hW (by decide) (by decide) (by decide)
    have := lfind_any D wd HDd a ss c g c' (ss.map (hashT wd)) hash w3 (hA2.below hb3) (by rw [List.length_map]) (Nat.lt_of_lt_of_le hrow.lt hb3.size) (fun j hj => by
      have e := (hrow.below hb3).cell j hj
      rw [e, List.getElem?_map, List.getD_eq_getElem?_getD, List.getElem?_eq_getElem (by rw [List.length_map]; exact hj)]
      rfl)
    rw [first_hash] at this
    exact this
  have hRMH : Hid (Z = if R.1 = 0 then (R.2.2, 0) else ([], R.1)) := hRM
  rw [hN] at HP hS ⊢
  clear h hq hN hR hRM hZ hp hk
  go_enter Tryz.func71, Tryz.ntmps71
  go_upto_region 2 with fail
  generalize (w.alloc (.cells #[.int .i64 (wd : Int), .slice a N c] 28)).alloc (.cells #[] 60) = W at hS ⊢
  obtain ⟨gz, hgz⟩ : ∃ x, w.heap.size + 1 = x := ⟨_, rfl⟩
  rw [hgz] at hS ⊢
  obtain ⟨ga, hga⟩ : ∃ x, w.heap.size = x := ⟨_, rfl⟩
  rw [show SR w w.heap.size = SR w ga by rw [hga]] at hS
  rw [hga]
  clear hga hgz
  have k0 := Lib.cell_of_heap hS.na 0
  have k1 := Lib.cell_of_heap hS.na 1
  go_upto_region 4 with (first | (go_at_call 25; refine (HP _).mono ?_; rintro e w1 ⟨rfl, hb1⟩; have hS1 := hS.below hb1; clear k0 k1; have k0 := Lib.cell_of_heap hS1.na 0; have k1 := Lib.cell_of_heap hS1.na 1) | (go_at_call 93; refine (HH _).mono ?_; rintro e w2 ⟨rfl, rfl⟩))
  clear HP HH hb1 hS k0 k1
  have k0 : w1.cell? ⟨ga, 0, none⟩ = some (.int .i64 (wd : Int)) := Lib.cell_of_heap hS1.na 0
  have k1 : w1.cell? ⟨ga, 1, none⟩ = some (.slice a N c) := Lib.cell_of_heap hS1.na 1
  have hbd : Below w1.heap.size w1 w1.drew := (Below.refl _ _).drew
  have HC : Hid (∀ W : World, W.heap[ga]? = some (.cells #[.int .i64 (wd : Int), .slice a N c] 28) → W.cell? ⟨ga, 0, none⟩ = some (.int .i64 (wd : Int)) ∧ W.cell? ⟨ga, 1, none⟩ = some (.slice a N c)) := fun W hW => ⟨Lib.cell_of_heap hW 0, Lib.cell_of_heap hW 1⟩
  have hna := hS1.na
  have hbw := hS1.bl
  obtain ⟨i, hie⟩ : ∃ i, R.1 = i := ⟨_, rfl⟩
  have hZ : Hid (Z = ([], i)) := by show _ = _; rw [hRMH.out, if_neg hR0, hie]
  have HG : Hid (∀ g c' W, Calls Tryz.prog 94 #[.agg #[.int .i64 (wd : Int), .slice a N c], .slice (some ⟨g, 0, none⟩) N c', .string root, .string ⟨#[]⟩, .agg #[.string ⟨#[]⟩, .string ⟨#[]⟩], .string lo, .string hi, .int .i64 0] W (GoPost R W) → Calls Tryz.prog 94 #[.agg #[.int .i64 (wd : Int), .slice a N c], .slice (some ⟨g, 0, none⟩) N c', .string root, .string ⟨#[]⟩, .agg #[.string ⟨#[]⟩, .string ⟨#[]⟩], .string lo, .string hi, .int .i64 0] W fun e w' => e = .returned (.agg #[.slice none 0 0, .int .i64 0, .int .i64 i]) ∧ Below W.heap.size W w') := fun g c' W hc => hc.mono fun e w' h => ⟨by rw [← hie]; exact h.2.1 hR0, h.2.2⟩
  rw [hie] at hR0
  have hbi : (i == 0) = false := beq_eq_false_iff_ne.2 hR0
  clear hie hRMH
  have hlt1 := hS1.lt
  go_region_held3 (fun W => W.cell? ⟨ga, 0, none⟩ = some (.int .i64 (wd : Int)) ∧ W.cell? ⟨ga, 1, none⟩ = some (.slice a N c)) (first | exact HC.out _ hna | exact HC.out _ (hS1.below ((Below.refl _ w1).drew.alloc (Nat.le_refl _) _)).na | exact HC.out _ hS2.na | exact HC.out _ (hS2.below ((Below.refl _ _).alloc (Nat.le_refl _) _)).na | exact HC.out _ hS3.na | exact HC.out _ (hS3.below ((Below.refl _ _).alloc (Nat.le_refl _) _)).na | exact HC.out _ (hS3.set3 hlt1 _ _ _).na | exact HC.out _ (hS3.set3 hlt2 _ _ _).na)
    (first
      | (go_at_call 28; refine (HHS.out (w1.drew.alloc (.cells #[.slice none 0 0, .int .i64 0, .int .i64 0] 132)) (hbw.drew.alloc hbw.size _)).mono ?_; rintro e w2 ⟨g, c', rfl, HGG, hb2⟩; have hS2 := (hS1.below ((Below.refl _ w1).drew.alloc (Nat.le_refl _) (.cells #[.slice none 0 0, .int .i64 0, .int .i64 0] 132))).below hb2; have hlt2 := hS2.lt; have n2 : WB w1.heap.size (.slice none 0 0) (.int .i64 0) (.int .i64 0) w2 := WB.below (show WB w1.heap.size (.slice none 0 0) (.int .i64 0) (.int .i64 0) (w1.drew.alloc (.cells #[.slice none 0 0, .int .i64 0, .int .i64 0] 132)) from heap_alloc_new w1.drew _) hb2; clear hb2)
      | (go_at_call 28; refine (HHS.out w1.drew hbw.drew).mono ?_; rintro e w2 ⟨g, c', rfl, HGG, hb2⟩; have hS2 := hS1.below ((Below.refl w1.heap.size w1).drew.trans hb2); have hlt2 := hS2.lt; clear hb2)
      | (go_at_call 94; refine (HG.out g c' (w2.alloc (.cells #[.slice none 0 0, .int .i64 0, .int .i64 0] 132)) (HGG _ ((Below.refl _ w2).alloc (Nat.le_refl _) _))).mono ?_; rintro e w3 ⟨rfl, hb3⟩; have hS3 := (hS2.below ((Below.refl _ w2).alloc (Nat.le_refl _) (.cells #[.slice none 0 0, .int .i64 0, .int .i64 0] 132))).below hb3; have n3 : WB w2.heap.size (.slice none 0 0) (.int .i64 0) (.int .i64 0) w3 := WB.below (show WB w2.heap.size (.slice none 0 0) (.int .i64 0) (.int .i64 0) (w2.alloc (.cells #[.slice none 0 0, .int .i64 0, .int .i64 0] 132)) from heap_alloc_new w2 _) hb3; clear hb3; obtain ⟨x0, x1, x2, y0, y1, y2⟩ := n3.at)
      | (go_at_call 94; refine (HG.out g c' w2 (HGG _ (Below.refl _ w2))).mono ?_; rintro e w3 ⟨rfl, hb3⟩; have hS3 := hS2.below hb3; have n3 := n2.below hb3; clear hb3; obtain ⟨x0, x1, x2, y0, y1, y2⟩ := n3.at)
      | (go_at_call 94; refine (HG.out g c' w2 (HGG _ (Below.refl _ w2))).mono ?_; rintro e w3 ⟨rfl, hb3⟩; have hS3 := hS2.below hb3; clear hb3))
  · have hS4 := hS3.below ((Below.refl w3.heap.size w3).alloc (Nat.le_refl _) (.cells #[.slice none 0 0, .int .i64 0, .int .i64 i] 132))
    have n4 : WB w3.heap.size (.slice none 0 0) (.int .i64 0) (.int .i64 i) (w3.alloc (.cells #[.slice none 0 0, .int .i64 0, .int .i64 i] 132)) := heap_alloc_new w3 _
    generalize w3.alloc (.cells #[.slice none 0 0, .int .i64 0, .int .i64 i] 132) = W4 at hS4 n4 ⊢
    generalize w3.heap.size = gw at n4 ⊢
    obtain ⟨u0, u1, u2, _, _, _⟩ := n4.at
    have hS5 := hS4.below (Below.refl W4.heap.size W4).drew
    have hfin := hS5.nil i
    rw [← hZ.out] at hfin
    clear k0 k1 hna hbd HGG hZ hS3 n4
    go_wp2_with fail
    go_region
    go_wp2_with fail
    go_ret2
    exact hfin
  · have hS4 := hS3.set3 hlt2 (.slice none 0 0) (.int .i64 0) (.int .i64 i)
    have n4 := n3.set3 (.slice none 0 0) (.int .i64 0) (.int .i64 i)
    generalize ((w3.setCell ⟨w2.heap.size, 0, none⟩ (.slice none 0 0)).setCell ⟨w2.heap.size, 1, none⟩ (.int .i64 0)).setCell ⟨w2.heap.size, 2, none⟩ (.int .i64 i) = W4 at hS4 n4 ⊢
    clear n3 x0 x1 x2 y0 y1 y2
    generalize w2.heap.size = gw at n4 ⊢
    obtain ⟨u0, u1, u2, _, _, _⟩ := n4.at
    have hS5 := hS4.below (Below.refl W4.heap.size W4).drew
    have hfin := hS5.nil i
    rw [← hZ.out] at hfin
    clear k0 k1 hna hbd HGG hZ hS3 n4
    go_wp2_with fail
    go_region
    go_wp2_with fail
    go_ret2
    exact hfin
  · have hS4 := hS3.set3 hlt1 (.slice none 0 0) (.int .i64 0) (.int .i64 i)
    have n4 := n3.set3 (.slice none 0 0) (.int .i64 0) (.int .i64 i)
    generalize ((w3.setCell ⟨w1.heap.size, 0, none⟩ (.slice none 0 0)).setCell ⟨w1.heap.size, 1, none⟩ (.int .i64 0)).setCell ⟨w1.heap.size, 2, none⟩ (.int .i64 i) = W4 at hS4 n4 ⊢
    clear n2 n3 x0 x1 x2 y0 y1 y2
    generalize w1.heap.size = gw at n4 ⊢
    obtain ⟨u0, u1, u2, _, _, _⟩ := n4.at
    have hS5 := hS4.below (Below.refl W4.heap.size W4).drew
    have hfin := hS5.nil i
    rw [← hZ.out] at hfin
    clear k0 k1 hna hbd HGG hZ hS3 n4
    go_wp2_with fail
    go_region
    go_wp2_with fail
    go_ret2
    exact hfin
end Go.Proofs.YtgicihmdcnelaaaGreatDoor
namespace Go.Proofs.YtgicihmdcnelaaaGreatDoor
open Go.RowKit Go.Proofs.Sha

theorem own2_set3 {w : World} {base gw n : Nat} {v : Value} {xs : List Value} (h : w.ownsRow base 60 2 v n xs) (hg : gw < base) (x y z : Value) : (((w.setCell ⟨gw, 0, none⟩ x).setCell ⟨gw, 1, none⟩ y).setCell ⟨gw, 2, none⟩ z).ownsRow base 60 2 v n xs :=
  own2_kept h (fun q hv _ => by
    have := (own2_cells h hv).1
    rw [Below.heap_setCell _ _ _ _ (by show q ≠ gw; omega), Below.heap_setCell _ _ _ _ (by show q ≠ gw; omega), Below.heap_setCell _ _ _ _ (by show q ≠ gw; omega)])

set_option maxRecDepth 100000 in
set_option maxHeartbeats 4000000 in
theorem srange_yes (HD : Hid DigSaid) (D : Dec) (wd : Nat) (HDd : Hid (DecSaid 124 wd D)) (hdo : DecOk wd D) (a : Option Addr) (ss : List ByteArray) (c : Nat) (root lo hi : ByteArray) (w : World) (h : SArg a ss w) (hq : Hid (∀ j, (ss.getD j ⟨#[]⟩).size ≤ 1048575)) (h1 : 1 ≤ wd) (h2 : wd ≤ 32)
    (hr : root.size ≤ 1048576) (hlo : lo.size ≤ 1048576) (hhi : hi.size ≤ 1048576) (hp : poolOk (wd : Int) ss.length = true) (hk : hashOk root.size (wd : Int) = true) (hR0 : (goF (fndD D wd ss) hgW lo hi 501 root ⟨#[]⟩ ⟨#[]⟩ ⟨#[]⟩ 0).1 = 0) :
    Calls Tryz.prog 71 #[.agg #[.int .i64 (wd : Int), .slice a ss.length c], .string root, .string lo, .string hi] w (RangeAt (rangeM (fndD D wd ss) (wd : Int) ss.length root lo hi) w) := by
  have HP := fun w' => poolOk_any (wd : Int) a ss.length c w' h.le
  have HH := fun w' => hashOk_any root (wd : Int) w' hr
  rw [hp] at HP
  rw [hk] at HH
  have hS := SR.mk0 w (wd : Int) a ss.length c
  obtain ⟨R, hR⟩ : ∃ R, goF (fndD D wd ss) hgW lo hi 501 root ⟨#[]⟩ ⟨#[]⟩ ⟨#[]⟩ 0 = R := ⟨_, rfl⟩
  rw [hR] at hR0
  have hRM := rangeM_ok (lo := lo) (hi := hi) (by rw [hp, hk]; rfl : (poolOk (wd : Int) ss.length && hashOk root.size (wd : Int)) = true) hR
  obtain ⟨Z, hZ⟩ : ∃ Z, rangeM (fndD D wd ss) (wd : Int) ss.length root lo hi = Z := ⟨_, rfl⟩
  rw [hZ] at hRM ⊢
  obtain ⟨N, hN⟩ : ∃ N, ss.length = N := ⟨_, rfl⟩
  have HHS : Hid (∀ w', Below w.heap.size w w' → Calls Tryz.prog 28 #[.agg #[.int .i64 (wd : Int), .slice a N c]] w' fun e w'' => ∃ g c', e = .returned (.slice (some ⟨g, 0, none⟩) N c') ∧ (∀ W, Below w''.heap.size w'' W → Calls Tryz.prog 94 #[.agg #[.int .i64 (wd : Int), .slice a N c], .slice (some ⟨g, 0, none⟩) N c', .string root, .string ⟨#[]⟩, .agg #[.string ⟨#[]⟩, .string ⟨#[]⟩], .string lo, .string hi, .int .i64 0] W (GoPost R W)) ∧ Below w'.heap.size w' w'') := by
    intro w' hb
    have hA := h.below hb
    rw [← hN]
    refine (hashes_any HD wd a ss c w' hA hq h1 h2).mono ?_
    rintro e w'' ⟨g, c', rfl, hrow, hb2⟩
    refine ⟨g, c', rfl, fun W hW => ?_, hb2⟩
    have hA2 := hA.below hb2
    rw [← hR]
    refine go_all (fndD D wd ss) wd (fndD_ok D wd ss hdo) a ss.length c g c' lo hi hlo hhi w'' (fun w3 hash hb3 => ?_) 501 root ⟨#[]⟩ ⟨#[]⟩ ⟨#[]⟩ 0 W (by omega) (by omega) hW (by decide) (by decide) (by decide)
    have := lfind_any D wd HDd a ss c g c' (ss.map (hashT wd)) hash w3 (hA2.below hb3) (by rw [List.length_map]) (Nat.lt_of_lt_of_le hrow.lt hb3.size) (fun j hj => by
      have e := (hrow.below hb3).cell j hj
      rw [e, List.getElem?_map, List.getD_eq_getElem?_getD, List.getElem?_eq_getElem (by rw [List.length_map]; exact hj)]
      rfl)
    rw [first_hash] at this
    exact this
  have hRMH : Hid (Z = if R.1 = 0 then (R.2.2, 0) else ([], R.1)) := hRM
  rw [hN] at HP hS ⊢
  clear h hq hN hR hRM hZ hp hk
  go_enter Tryz.func71, Tryz.ntmps71
  go_upto_region 2 with fail
  generalize (w.alloc (.cells #[.int .i64 (wd : Int), .slice a N c] 28)).alloc (.cells #[] 60) = W at hS ⊢
  obtain ⟨gz, hgz⟩ : ∃ x, w.heap.size + 1 = x := ⟨_, rfl⟩
  rw [hgz] at hS ⊢
  obtain ⟨ga, hga⟩ : ∃ x, w.heap.size = x := ⟨_, rfl⟩
  rw [show SR w w.heap.size = SR w ga by rw [hga]] at hS
  rw [hga]
  clear hga hgz
  have k0 := Lib.cell_of_heap hS.na 0
  have k1 := Lib.cell_of_heap hS.na 1
  go_upto_region 4 with (first | (go_at_call 25; refine (HP _).mono ?_; rintro e w1 ⟨rfl, hb1⟩; have hS1 := hS.below hb1; clear k0 k1; have k0 := Lib.cell_of_heap hS1.na 0; have k1 := Lib.cell_of_heap hS1.na 1) | (go_at_call 93; refine (HH _).mono ?_; rintro e w2 ⟨rfl, rfl⟩))
  clear HP HH hb1 hS k0 k1
  have k0 : w1.cell? ⟨ga, 0, none⟩ = some (.int .i64 (wd : Int)) := Lib.cell_of_heap hS1.na 0
  have k1 : w1.cell? ⟨ga, 1, none⟩ = some (.slice a N c) := Lib.cell_of_heap hS1.na 1
  have hbd : Below w1.heap.size w1 w1.drew := (Below.refl _ _).drew
  have HC : Hid (∀ W : World, W.heap[ga]? = some (.cells #[.int .i64 (wd : Int), .slice a N c] 28) → W.cell? ⟨ga, 0, none⟩ = some (.int .i64 (wd : Int)) ∧ W.cell? ⟨ga, 1, none⟩ = some (.slice a N c)) := fun W hW => ⟨Lib.cell_of_heap hW 0, Lib.cell_of_heap hW 1⟩
  have hna := hS1.na
  have hbw := hS1.bl
  obtain ⟨Rc, Rn, Rp⟩ := R
  obtain rfl : Rc = 0 := hR0
  obtain ⟨m1, hm1⟩ : ∃ m1, Rp.length = m1 := ⟨_, rfl⟩
  have hZ : Hid (Z = (Rp, 0)) := by show _ = _; rw [hRMH.out, if_pos rfl]
  have hm1h : Hid (Rp.length = m1) := hm1
  have HG : Hid (∀ g c' W, Calls Tryz.prog 94 #[.agg #[.int .i64 (wd : Int), .slice a N c], .slice (some ⟨g, 0, none⟩) N c', .string root, .string ⟨#[]⟩, .agg #[.string ⟨#[]⟩, .string ⟨#[]⟩], .string lo, .string hi, .int .i64 0] W (GoPost (0, Rn, Rp) W) → Calls Tryz.prog 94 #[.agg #[.int .i64 (wd : Int), .slice a N c], .slice (some ⟨g, 0, none⟩) N c', .string root, .string ⟨#[]⟩, .agg #[.string ⟨#[]⟩, .string ⟨#[]⟩], .string lo, .string hi, .int .i64 0] W fun e w' => (∃ a1 d1, e = .returned (.agg #[.slice a1 m1 d1, .int .i64 (Rn : Int), .int .i64 0]) ∧ w'.ownsRow W.heap.size 60 2 (.slice a1 m1 d1) m1 (flatP Rp)) ∧ Below W.heap.size W w') := fun g c' W hc => hc.mono fun e w' h => ⟨by rw [← hm1]; exact h.1 rfl, h.2.2⟩
  clear hm1 hRMH
  have hlt1 := hS1.lt
  go_region_held3 (fun W => W.cell? ⟨ga, 0, none⟩ = some (.int .i64 (wd : Int)) ∧ W.cell? ⟨ga, 1, none⟩ = some (.slice a N c)) (first | exact HC.out _ hna | exact HC.out _ (hS1.below ((Below.refl _ w1).drew.alloc (Nat.le_refl _) _)).na | exact HC.out _ hS2.na | exact HC.out _ (hS2.below ((Below.refl _ _).alloc (Nat.le_refl _) _)).na | exact HC.out _ hS3.na | exact HC.out _ (hS3.below ((Below.refl _ _).alloc (Nat.le_refl _) _)).na | exact HC.out _ (hS3.set3 hlt1 _ _ _).na | exact HC.out _ (hS3.set3 hlt2 _ _ _).na)
    (first
      | (go_at_call 28; refine (HHS.out (w1.drew.alloc (.cells #[.slice none 0 0, .int .i64 0, .int .i64 0] 132)) (hbw.drew.alloc hbw.size _)).mono ?_; rintro e w2 ⟨g, c', rfl, HGG, hb2⟩; have hS2 := (hS1.below ((Below.refl _ w1).drew.alloc (Nat.le_refl _) (.cells #[.slice none 0 0, .int .i64 0, .int .i64 0] 132))).below hb2; have hlt2 := hS2.lt; have n2 : WB w1.heap.size (.slice none 0 0) (.int .i64 0) (.int .i64 0) w2 := WB.below (show WB w1.heap.size (.slice none 0 0) (.int .i64 0) (.int .i64 0) (w1.drew.alloc (.cells #[.slice none 0 0, .int .i64 0, .int .i64 0] 132)) from heap_alloc_new w1.drew _) hb2; clear hb2)
      | (go_at_call 28; refine (HHS.out w1.drew hbw.drew).mono ?_; rintro e w2 ⟨g, c', rfl, HGG, hb2⟩; have hS2 := hS1.below ((Below.refl w1.heap.size w1).drew.trans hb2); have hlt2 := hS2.lt; clear hb2)
      | (go_at_call 94; refine (HG.out g c' (w2.alloc (.cells #[.slice none 0 0, .int .i64 0, .int .i64 0] 132)) (HGG _ ((Below.refl _ w2).alloc (Nat.le_refl _) _))).mono ?_; rintro e w3 ⟨⟨a1, d1, rfl, ho3⟩, hb3⟩; have hS3 := (hS2.below ((Below.refl _ w2).alloc (Nat.le_refl _) (.cells #[.slice none 0 0, .int .i64 0, .int .i64 0] 132))).below hb3; have n3 : WB w2.heap.size (.slice none 0 0) (.int .i64 0) (.int .i64 0) w3 := WB.below (show WB w2.heap.size (.slice none 0 0) (.int .i64 0) (.int .i64 0) (w2.alloc (.cells #[.slice none 0 0, .int .i64 0, .int .i64 0] 132)) from heap_alloc_new w2 _) hb3; clear hb3; obtain ⟨x0, x1, x2, y0, y1, y2⟩ := n3.at)
      | (go_at_call 94; refine (HG.out g c' w2 (HGG _ (Below.refl _ w2))).mono ?_; rintro e w3 ⟨⟨a1, d1, rfl, ho3⟩, hb3⟩; have hS3 := hS2.below hb3; have n3 := n2.below hb3; clear hb3; obtain ⟨x0, x1, x2, y0, y1, y2⟩ := n3.at)
      | (go_at_call 94; refine (HG.out g c' w2 (HGG _ (Below.refl _ w2))).mono ?_; rintro e w3 ⟨⟨a1, d1, rfl, ho3⟩, hb3⟩; have hS3 := hS2.below hb3; clear hb3))
  · have hS4 := hS3.below ((Below.refl w3.heap.size w3).alloc (Nat.le_refl _) (.cells #[.slice a1 m1 d1, .int .i64 (Rn : Int), .int .i64 0] 132))
    have n4 : WB w3.heap.size (.slice a1 m1 d1) (.int .i64 (Rn : Int)) (.int .i64 0) (w3.alloc (.cells #[.slice a1 m1 d1, .int .i64 (Rn : Int), .int .i64 0] 132)) := heap_alloc_new w3 _
    have ho4 := own2_mono (ho3.alloc (.cells #[.slice a1 m1 d1, .int .i64 (Rn : Int), .int .i64 0] 132)) hS2.bl.size
    generalize w3.alloc (.cells #[.slice a1 m1 d1, .int .i64 (Rn : Int), .int .i64 0] 132) = W4 at hS4 n4 ho4 ⊢
    generalize w3.heap.size = gw at n4 ⊢
    obtain ⟨u0, u1, u2, _, _, _⟩ := n4.at
    have hbl := hS4.bl
    have hfin : RangeAt (Rp, 0) w (.returned (.tuple #[.slice a1 m1 d1, .int .i64 0])) W4 := ⟨⟨a1, d1, by rw [hm1h.out], by rw [hm1h.out]; exact ho4⟩, hbl⟩
    rw [← hZ.out] at hfin
    clear k0 k1 hna hbd HGG hZ hS3 n4 ho4 hS4
    go_wp2_with fail
    go_ret2
    exact hfin
  · have hS4 := hS3.set3 hlt2 (.slice a1 m1 d1) (.int .i64 (Rn : Int)) (.int .i64 0)
    have n4 := n3.set3 (.slice a1 m1 d1) (.int .i64 (Rn : Int)) (.int .i64 0)
    have ho4 := own2_mono (own2_set3 ho3 (gw := w2.heap.size) (by simp) (.slice a1 m1 d1) (.int .i64 (Rn : Int)) (.int .i64 0)) (base' := w.heap.size) (by have := hS2.bl.size; simp; omega)
    generalize ((w3.setCell ⟨w2.heap.size, 0, none⟩ (.slice a1 m1 d1)).setCell ⟨w2.heap.size, 1, none⟩ (.int .i64 (Rn : Int))).setCell ⟨w2.heap.size, 2, none⟩ (.int .i64 0) = W4 at hS4 n4 ho4 ⊢
    clear n3 x0 x1 x2 y0 y1 y2 ho3
    generalize w2.heap.size = gw at n4 ⊢
    obtain ⟨u0, u1, u2, _, _, _⟩ := n4.at
    have hbl := hS4.bl
    have hfin : RangeAt (Rp, 0) w (.returned (.tuple #[.slice a1 m1 d1, .int .i64 0])) W4 := ⟨⟨a1, d1, by rw [hm1h.out], by rw [hm1h.out]; exact ho4⟩, hbl⟩
    rw [← hZ.out] at hfin
    clear k0 k1 hna hbd HGG hZ hS3 n4 ho4 hS4
    go_wp2_with fail
    go_ret2
    exact hfin
  · have hS4 := hS3.set3 hlt1 (.slice a1 m1 d1) (.int .i64 (Rn : Int)) (.int .i64 0)
    have n4 := n3.set3 (.slice a1 m1 d1) (.int .i64 (Rn : Int)) (.int .i64 0)
    have ho4 := own2_mono (own2_set3 ho3 (gw := w1.heap.size) (Array.getElem?_eq_some_iff.1 n2).1 (.slice a1 m1 d1) (.int .i64 (Rn : Int)) (.int .i64 0)) (base' := w.heap.size) hS2.bl.size
    generalize ((w3.setCell ⟨w1.heap.size, 0, none⟩ (.slice a1 m1 d1)).setCell ⟨w1.heap.size, 1, none⟩ (.int .i64 (Rn : Int))).setCell ⟨w1.heap.size, 2, none⟩ (.int .i64 0) = W4 at hS4 n4 ho4 ⊢
    clear n2 n3 x0 x1 x2 y0 y1 y2 ho3
    generalize w1.heap.size = gw at n4 ⊢
    obtain ⟨u0, u1, u2, _, _, _⟩ := n4.at
    have hbl := hS4.bl
    have hfin : RangeAt (Rp, 0) w (.returned (.tuple #[.slice a1 m1 d1, .int .i64 0])) W4 := ⟨⟨a1, d1, by rw [hm1h.out], by rw [hm1h.out]; exact ho4⟩, hbl⟩
    rw [← hZ.out] at hfin
    clear k0 k1 hna hbd HGG hZ hS3 n4 ho4 hS4
    go_wp2_with fail
    go_ret2
    exact hfin
end Go.Proofs.YtgicihmdcnelaaaGreatDoor
namespace Go.Proofs.YtgicihmdcnelaaaGreatDoor
open Go.RowKit Go.Proofs.Sha

/-- The model's Range, where the pool and the root are good. -/
theorem srange_good (HD : Hid DigSaid) (D : Dec) (wd : Nat) (HDd : Hid (DecSaid 124 wd D)) (hdo : DecOk wd D) (a : Option Addr) (ss : List ByteArray) (c : Nat) (root lo hi : ByteArray) (w : World) (h : SArg a ss w) (hq : Hid (∀ j, (ss.getD j ⟨#[]⟩).size ≤ 1048575)) (h1 : 1 ≤ wd) (h2 : wd ≤ 32)
    (hr : root.size ≤ 1048576) (hlo : lo.size ≤ 1048576) (hhi : hi.size ≤ 1048576) (hp : poolOk (wd : Int) ss.length = true) (hk : hashOk root.size (wd : Int) = true) :
    Calls Tryz.prog 71 #[.agg #[.int .i64 (wd : Int), .slice a ss.length c], .string root, .string lo, .string hi] w (RangeAt (rangeM (fndD D wd ss) (wd : Int) ss.length root lo hi) w) := by
  by_cases hR0 : (goF (fndD D wd ss) hgW lo hi 501 root ⟨#[]⟩ ⟨#[]⟩ ⟨#[]⟩ 0).1 = 0
  · exact srange_yes HD D wd HDd hdo a ss c root lo hi w h hq h1 h2 hr hlo hhi hp hk hR0
  · exact srange_err HD D wd HDd hdo a ss c root lo hi w h hq h1 h2 hr hlo hhi hp hk hR0
end Go.Proofs.YtgicihmdcnelaaaGreatDoor
namespace Go.Proofs.YtgicihmdcnelaaaGreatDoor
open Go.RowKit Go.Proofs.Sha

theorem goF_ok {fnd : ByteArray → FN} {hg : ByteArray → ByteArray → Bool} {lo hi : ByteArray} {wd : Nat} (hfo : FndOk wd fnd) : ∀ (f : Nat) (hash over under par : ByteArray) (cnt : Nat), ∀ p ∈ (goF fnd hg lo hi f hash over under par cnt).2.2, okKey p.1 = true ∧ okVal p.2 = true
  | 0, _, _, _, _, _, p, hp => by rw [goF] at hp; cases hp
  | f + 1, hash, over, under, par, cnt, p, hp => by
    cases h1 : (emp hash || !canW over under lo hi) with
    | true => rw [goF_skip h1] at hp; cases hp
    | false =>
      by_cases h2 : (fnd hash).2 = 2
      · rw [goF_missing h1 h2] at hp; cases hp
      · by_cases h20 : (fnd hash).2 = 0
        · cases h3 : (insW over under (fnd hash).1.1 && parW hg par (fnd hash).1.1) with
          | false => rw [goF_place h1 h20 h3] at hp; cases hp
          | true =>
            by_cases h4 : 500 < cnt + 1
            · rw [goF_many h1 h20 h3 h4] at hp; cases hp
            · have e : fnd hash = (((fnd hash).1.1, (fnd hash).1.2.1, (fnd hash).1.2.2.1, (fnd hash).1.2.2.2), 0) := by rw [← h20]
              rw [goF_node h1 e h3 (by omega) rfl rfl] at hp
              split at hp
              · cases hp
              · split at hp
                · cases hp
                · rcases List.mem_append.1 hp with hp | hp
                  · rcases List.mem_append.1 hp with hp | hp
                    · exact goF_ok hfo f _ _ _ _ _ p hp
                    · split at hp
                      · rw [List.mem_singleton] at hp
                        subst hp
                        exact ⟨(hfo.node hash h20).1, (hfo.node hash h20).2.1⟩
                      · cases hp
                  · exact goF_ok hfo f _ _ _ _ _ p hp
        · rw [goF, if_neg (by rw [h1]; decide), if_neg h2, if_pos h20] at hp; cases hp
theorem noP_small : noPair.1.size ≤ 1048576 ∧ noPair.2.size ≤ 1048576 := ⟨Nat.zero_le _, Nat.zero_le _⟩
theorem nil_small : SmallP [] := ⟨by decide, fun j => by rw [pget_out _ _ (Nat.zero_le _)]; exact noP_small⟩
theorem rangeM_small {fnd : ByteArray → FN} {wd : Nat} (hfo : FndOk wd fnd) (n : Int) (m : Nat) (root lo hi : ByteArray) : (rangeM fnd n m root lo hi).1.length ≤ 500 ∧ SmallP (rangeM fnd n m root lo hi).1 := by
  have hnil : ([] : List PairT).length ≤ 500 ∧ SmallP [] := ⟨by decide, nil_small⟩
  unfold rangeM
  split
  · split
    · rename_i h0
      have h1 := goF_cnt 501 root ⟨#[]⟩ ⟨#[]⟩ ⟨#[]⟩ 0 (by decide) h0
      have h2 := goF_len 501 root ⟨#[]⟩ ⟨#[]⟩ ⟨#[]⟩ 0 h0
      have h3 := goF_ok hfo 501 root ⟨#[]⟩ ⟨#[]⟩ ⟨#[]⟩ 0 (hg := hgW) (lo := lo) (hi := hi)
      generalize goF fnd hgW lo hi 501 root ⟨#[]⟩ ⟨#[]⟩ ⟨#[]⟩ 0 = R at h0 h1 h2 h3 ⊢
      refine ⟨by simp only; omega, by simp only; omega, fun j => ?_⟩
      by_cases hj : j < R.2.2.length
      · obtain ⟨q1, q2⟩ := h3 _ (List.getElem_mem hj)
        simp only [List.getD_eq_getElem?_getD, List.getElem?_eq_getElem hj, Option.getD_some]
        unfold okKey at q1
        unfold okVal at q2
        have q1 := of_decide_eq_true q1
        have q2 := of_decide_eq_true q2
        omega
      · rw [pget_out _ _ (by simp only; omega)]
        exact noP_small
    · exact hnil
  · exact hnil
theorem decOk_of {n : Int} {s k v l r : ByteArray} (h : decPost s n (.returned (.tuple #[nodeV k v l r, .bool true]))) : nodeOk k.size v.size l.size r.size n = true := by
  rcases h with ⟨k', v', l', r', hE, e⟩ | ⟨_, e⟩
  · simp only [nodeV, Ending.returned.injEq, Value.tuple.injEq, Array.mk.injEq, List.cons.injEq, Value.agg.injEq, Value.string.injEq] at e
    obtain ⟨⟨rfl, rfl, rfl, rfl, _⟩, _⟩ := e
    exact hE.1
  · simp at e
end Go.Proofs.YtgicihmdcnelaaaGreatDoor
namespace Go.Proofs.YtgicihmdcnelaaaGreatDoor
open Go.RowKit Go.Proofs.Sha

/-- A tree cut at a key. -/
def Tr.cut (k : ByteArray) : Tr PairT → Tr PairT × Tr PairT
  | .nil => (.nil, .nil)
  | .node l x r => if lessB x.1 k = true then (.node l x (Tr.cut k r).1, (Tr.cut k r).2) else ((Tr.cut k l).1, .node (Tr.cut k l).2 x r)
theorem Tr.cut_sub (k : ByteArray) : ∀ (t : Tr PairT), (∀ y ∈ (Tr.cut k t).1.inord, y ∈ t.inord) ∧ ∀ y ∈ (Tr.cut k t).2.inord, y ∈ t.inord
  | .nil => ⟨fun y h => h, fun y h => h⟩
  | .node l x r => by
    have hl := Tr.cut_sub k l
    have hr := Tr.cut_sub k r
    rw [Tr.cut]
    split
    · refine ⟨fun y h => ?_, fun y h => ?_⟩
      · simp only [Tr.inord, List.mem_append, List.mem_cons] at h ⊢
        rcases h with h | h | h
        · exact .inl h
        · exact .inr (.inl h)
        · exact .inr (.inr (hr.1 y h))
      · simp only [Tr.inord, List.mem_append, List.mem_cons]
        exact .inr (.inr (hr.2 y h))
    · refine ⟨fun y h => ?_, fun y h => ?_⟩
      · simp only [Tr.inord, List.mem_append, List.mem_cons]
        exact .inl (hl.1 y h)
      · simp only [Tr.inord, List.mem_append, List.mem_cons] at h ⊢
        rcases h with h | h | h
        · exact .inl (hl.2 y h)
        · exact .inr (.inl h)
        · exact .inr (.inr h)
theorem Tr.cut_heap {ab : PairT → PairT → Bool} (k : ByteArray) : ∀ (t : Tr PairT), t.heap ab → (Tr.cut k t).1.heap ab ∧ (Tr.cut k t).2.heap ab
  | .nil, h => ⟨h, h⟩
  | .node l x r, h => by
    obtain ⟨h1, h2, h3, h4⟩ := h
    have hl := Tr.cut_heap k l h3
    have hr := Tr.cut_heap k r h4
    rw [Tr.cut]
    split
    · exact ⟨⟨h1, fun y hy => h2 y ((Tr.cut_sub k r).1 y hy), h3, hr.1⟩, hr.2⟩
    · exact ⟨hl.1, fun y hy => h1 y ((Tr.cut_sub k l).2 y hy), h2, hl.2, h4⟩
theorem ku_app {a b : List ByteArray} (h : KeysUp (a ++ b)) : KeysUp a ∧ KeysUp b ∧ ∀ x ∈ a, ∀ y ∈ b, lessB x y = true := by
  induction a with
  | nil => exact ⟨trivial, h, fun x hx => by cases hx⟩
  | cons k ks ih =>
    obtain ⟨h1, h2⟩ := h
    obtain ⟨q1, q2, q3⟩ := ih h2
    refine ⟨⟨fun x hx => h1 x (List.mem_append_left _ hx), q1⟩, q2, fun x hx y hy => ?_⟩
    rcases List.mem_cons.1 hx with rfl | hx
    · exact h1 y (List.mem_append_right _ hy)
    · exact q3 x hx y hy
theorem filter_all {p : PairT → Bool} {l : List PairT} (h : ∀ x ∈ l, p x = true) : l.filter p = l := List.filter_eq_self.2 h
theorem filter_no {p : PairT → Bool} {l : List PairT} (h : ∀ x ∈ l, p x = false) : l.filter p = [] := List.filter_eq_nil_iff.2 fun x hx => by rw [h x hx]; decide
theorem mem_keys {p : PairT} {l : List PairT} (h : p ∈ l) : p.1 ∈ keys l := List.mem_map.2 ⟨p, h, rfl⟩
theorem less_asyB {a b : ByteArray} (h : lessB a b = true) : lessB b a = false := by
  cases e : lessB b a with
  | false => rfl
  | true => rw [← lessB_irr a, lessB_tr h e]
theorem Tr.cut_inord (k : ByteArray) : ∀ (t : Tr PairT), KeysUp (keys t.inord) → (Tr.cut k t).1.inord = t.inord.filter (fun p => lessB p.1 k) ∧ (Tr.cut k t).2.inord = t.inord.filter (fun p => !lessB p.1 k)
  | .nil, _ => ⟨rfl, rfl⟩
  | .node l x r, h => by
    have h' : KeysUp (keys l.inord ++ x.1 :: keys r.inord) := by
      have e : keys (Tr.node l x r).inord = keys l.inord ++ x.1 :: keys r.inord := by simp [Tr.inord, keys]
      rw [← e]; exact h
    obtain ⟨q1, q2, q3⟩ := ku_app h'
    obtain ⟨q4, q5⟩ := q2
    have hl := Tr.cut_inord k l q1
    have hr := Tr.cut_inord k r q5
    have hlx : ∀ y ∈ l.inord, lessB y.1 x.1 = true := fun y hy => q3 _ (mem_keys hy) _ (List.mem_cons_self ..)
    have hxr : ∀ y ∈ r.inord, lessB x.1 y.1 = true := fun y hy => q4 _ (mem_keys hy)
    rw [Tr.cut]
    cases hx : lessB x.1 k with
    | true =>
      rw [if_pos rfl]
      have e1 : l.inord.filter (fun p => lessB p.1 k) = l.inord := filter_all fun y hy => lessB_tr (hlx y hy) hx
      have e2 : l.inord.filter (fun p => !lessB p.1 k) = [] := filter_no fun y hy => by rw [lessB_tr (hlx y hy) hx]; rfl
      refine ⟨?_, ?_⟩
      · simp only [Tr.inord, List.filter_append, List.filter_cons, hx, if_true, e1, hr.1]
      · simp only [Tr.inord, List.filter_append, List.filter_cons, hx, e2, hr.2]
        rfl
    | false =>
      rw [if_neg (by decide)]
      have hk : ∀ y ∈ r.inord, lessB y.1 k = false := fun y hy => by
        cases e : lessB y.1 k with
        | false => rfl
        | true => rw [lessB_tr (hxr y hy) e] at hx; cases hx
      have e1 : r.inord.filter (fun p => lessB p.1 k) = [] := filter_no hk
      have e2 : r.inord.filter (fun p => !lessB p.1 k) = r.inord := filter_all fun y hy => by rw [hk y hy]; rfl
      refine ⟨?_, ?_⟩
      · simp only [Tr.inord, List.filter_append, List.filter_cons, hx, e1, hl.1]
        simp
      · simp only [Tr.inord, List.filter_append, List.filter_cons, hx, e2, hl.2]
        simp
/-- The next key behind a key has one zero more. -/
def zeroK (k : ByteArray) : ByteArray := k ++ ⟨#[0]⟩
theorem bl_zero : ∀ (x k : List UInt8), Op.bytesLess x (k ++ [0]) = !Op.bytesLess k x
  | [], [] => by simp [Op.bytesLess]
  | [], a :: k => by simp [Op.bytesLess]
  | b :: x, [] => by
    simp [Op.bytesLess]
  | b :: x, a :: k => by
    rw [List.cons_append, Op.bytesLess, Op.bytesLess, bl_zero x k]
    by_cases e : a = b
    · subst e; simp
    · have e' : ¬ b = a := fun q => e q.symm
      simp only [beq_eq_false_iff_ne.2 e, beq_eq_false_iff_ne.2 e', Bool.false_and, Bool.or_false]
      by_cases hl : b < a
      · have : ¬ a < b := by rw [UInt8.lt_iff_toNat_lt] at *; omega
        simp [hl, this]
      · have : a < b := by
          rw [UInt8.lt_iff_toNat_lt] at *
          have : a.toNat ≠ b.toNat := fun q => e (UInt8.toNat_inj.1 q)
          omega
        simp [hl, this]
theorem less_zero (x k : ByteArray) : lessB x (zeroK k) = !lessB k x := by
  unfold lessB zeroK
  rw [ByteArray.toList_eq x, ByteArray.toList_eq k, ByteArray.toList_eq (k ++ _), ByteArray.data_append, Array.toList_append]
  exact bl_zero _ _
/-- What is around a key. -/
def Tr.around (k : ByteArray) (t : Tr PairT) : Tr PairT × Tr PairT := ((Tr.cut k t).1, (Tr.cut (zeroK k) (Tr.cut k t).2).2)
theorem ku_filter {ps : List PairT} (p : PairT → Bool) (h : KeysUp (keys ps)) : KeysUp (keys (ps.filter p)) := by
  induction ps with
  | nil => exact h
  | cons x xs ih =>
    obtain ⟨h1, h2⟩ := h
    rw [List.filter_cons]
    split
    · refine ⟨fun y hy => h1 y ?_, ih h2⟩
      obtain ⟨q, hq, rfl⟩ := List.mem_map.1 hy
      exact mem_keys (List.mem_filter.1 hq).1
    · exact ih h2
theorem Tr.around_inord (k : ByteArray) (t : Tr PairT) (h : KeysUp (keys t.inord)) : (Tr.around k t).1.inord = t.inord.filter (fun p => lessB p.1 k) ∧ (Tr.around k t).2.inord = t.inord.filter (fun p => lessB k p.1) := by
  obtain ⟨q1, q2⟩ := Tr.cut_inord k t h
  refine ⟨q1, ?_⟩
  have q3 := (Tr.cut_inord (zeroK k) (Tr.cut k t).2 (by rw [q2]; exact ku_filter _ h)).2
  show (Tr.cut (zeroK k) (Tr.cut k t).2).2.inord = _
  rw [q3, q2, List.filter_filter]
  congr 1
  funext p
  rw [less_zero, Bool.not_not]
  cases e : lessB k p.1 with
  | true => rw [less_asyB e]; rfl
  | false => rfl
theorem Tr.around_heap {ab : PairT → PairT → Bool} (k : ByteArray) (t : Tr PairT) (h : t.heap ab) : (Tr.around k t).1.heap ab ∧ (Tr.around k t).2.heap ab := ⟨(Tr.cut_heap k t h).1, (Tr.cut_heap _ _ (Tr.cut_heap k t h).2).2⟩
theorem wout_parts {ps : List PairT} (k : ByteArray) (h : KeysUp (keys ps)) : wout ps k = ps.filter (fun p => lessB p.1 k) ++ ps.filter (fun p => lessB k p.1) := by
  unfold wout
  induction ps with
  | nil => rfl
  | cons x xs ih =>
    obtain ⟨h1, h2⟩ := h
    simp only [List.filter_cons]
    by_cases e : x.1 = k
    · subst e
      have e0 : xs.filter (fun p => lessB p.1 x.1) = [] := filter_no fun y hy => less_asyB (h1 _ (mem_keys hy))
      rw [ih h2, lessB_irr, e0]
      simp
    · cases hl : lessB x.1 k with
      | true =>
        rw [less_asyB hl, ih h2]
        simp [e]
      | false =>
        have hk := lessB_or x.1 k hl e
        have e0 : xs.filter (fun p => lessB p.1 k) = [] := filter_no fun y hy => less_asyB (lessB_tr hk (h1 _ (mem_keys hy)))
        have e1 : xs.filter (fun p => lessB k p.1) = xs := filter_all fun y hy => lessB_tr hk (h1 _ (mem_keys hy))
        rw [ih h2, hk, e0, e1]
        simp [e]
theorem ins_parts2 (k v : ByteArray) : ∀ (a b : List PairT), (∀ x ∈ a, lessB k x.1 = false) → (∀ x ∈ b, lessB k x.1 = true) → ins k v (a ++ b) = a ++ (k, v) :: b
  | [], [], _, _ => rfl
  | [], y :: b, _, hb => by rw [List.nil_append, ins, if_pos (hb y (List.mem_cons_self ..))]; rfl
  | x :: a, b, ha, hb => by
    rw [List.cons_append, ins, if_neg (by rw [ha x (List.mem_cons_self ..)]; decide), ins_parts2 k v a b (fun y hy => ha y (List.mem_cons_of_mem _ hy)) hb]
    rfl
theorem wth_parts {ps : List PairT} (k v : ByteArray) (h : KeysUp (keys ps)) : wth ps k v = ps.filter (fun p => lessB p.1 k) ++ (k, v) :: ps.filter (fun p => lessB k p.1) := by
  unfold wth
  rw [wout_parts k h]
  refine ins_parts2 k v _ _ (fun x hx => ?_) (fun x hx => ?_)
  · exact less_asyB (by simpa using (List.mem_filter.1 hx).2)
  · simpa using (List.mem_filter.1 hx).2
theorem ku_apart : ∀ {ps : List PairT}, KeysUp (keys ps) → Apart ps
  | [], _ => List.Pairwise.nil
  | x :: xs, h => List.Pairwise.cons (fun y hy e => by have := h.1 _ (mem_keys hy); rw [e, lessB_irr] at this; cases this) (ku_apart h.2)
theorem tree_one (t : Tr PairT) (ps : List PairT) (hh : t.heap abP) (hi : t.inord = ps) (ha : Apart ps) : t = cutTree ps := by
  refine Tr.unique abP _ _ hh (cutTree_heap ps ha) (by rw [hi, cutTree_inord]) ?_ ?_
  · rw [hi]; exact ha.imp fun h e => h (by rw [e])
  · rw [hi]; exact ranked_abP ps ha.ne
/-- Of a map's tree, one key left out: the tree of the map without it. -/
theorem del_tree {ps : List PairT} (k : ByteArray) (h : KeysUp (keys ps)) : Tr.merge abP (Tr.around k (cutTree ps)).1 (Tr.around k (cutTree ps)).2 = cutTree (wout ps k) := by
  have hin := cutTree_inord ps
  have hh := cutTree_heap ps (ku_apart h)
  obtain ⟨a1, a2⟩ := Tr.around_inord k (cutTree ps) (by rw [hin]; exact h)
  obtain ⟨b1, b2⟩ := Tr.around_heap k (cutTree ps) hh
  rw [hin] at a1 a2
  have hw : (Tr.merge abP (Tr.around k (cutTree ps)).1 (Tr.around k (cutTree ps)).2).inord = wout ps k := by rw [Tr.merge_inord, a1, a2, wout_parts k h]
  have hap : Apart (wout ps k) := ku_apart (ku_wout h k)
  refine tree_one _ _ (Tr.merge_heap abP _ _ b1 b2 (by rw [a1, a2, ← wout_parts k h]; exact ranked_abP _ hap.ne) (fun x hx y hy e => ?_)) hw hap
  subst e
  rw [a1] at hx
  rw [a2] at hy
  have h1 : lessB x.1 k = true := by simpa using (List.mem_filter.1 hx).2
  have h2 : lessB k x.1 = true := by simpa using (List.mem_filter.1 hy).2
  rw [less_asyB h1] at h2
  cases h2
/-- With one key set: the tree of the map with it. -/
theorem put_tree {ps : List PairT} (k v : ByteArray) (h : KeysUp (keys ps)) : Tr.merge abP (Tr.merge abP (Tr.around k (cutTree ps)).1 (.node .nil (k, v) .nil)) (Tr.around k (cutTree ps)).2 = cutTree (wth ps k v) := by
  have hin := cutTree_inord ps
  have hh := cutTree_heap ps (ku_apart h)
  obtain ⟨a1, a2⟩ := Tr.around_inord k (cutTree ps) (by rw [hin]; exact h)
  obtain ⟨b1, b2⟩ := Tr.around_heap k (cutTree ps) hh
  rw [hin] at a1 a2
  have hap : Apart (wth ps k v) := ku_apart (ku_wth h k v)
  have hrk := ranked_abP _ hap.ne
  have hs : (Tr.node .nil (k, v) .nil : Tr PairT).inord = [(k, v)] := rfl
  have hm : (Tr.merge abP (Tr.around k (cutTree ps)).1 (.node .nil (k, v) .nil)).inord = ps.filter (fun p => lessB p.1 k) ++ [(k, v)] := by rw [Tr.merge_inord, a1, hs]
  have hw : (Tr.merge abP (Tr.merge abP (Tr.around k (cutTree ps)).1 (.node .nil (k, v) .nil)) (Tr.around k (cutTree ps)).2).inord = wth ps k v := by
    rw [Tr.merge_inord, hm, a2, wth_parts k v h, List.append_assoc]
    rfl
  have hrk' := hrk
  rw [wth_parts k v h] at hrk'
  have hm1 : (Tr.merge abP (Tr.around k (cutTree ps)).1 (.node .nil (k, v) .nil)).heap abP := by
    refine Tr.merge_heap abP _ _ b1 ⟨(fun y hy => by cases hy), (fun y hy => by cases hy), trivial, trivial⟩ ?_ (fun x hx y hy e => ?_)
    · rw [a1, hs]
      exact hrk'.sub abP fun x hx => by
        rcases List.mem_append.1 hx with q | q
        · exact List.mem_append_left _ q
        · rw [List.mem_singleton] at q; subst q; exact List.mem_append_right _ (List.mem_cons_self ..)
    · rw [hs, List.mem_singleton] at hy
      subst hy
      rw [a1] at hx
      have h1 : lessB x.1 k = true := by simpa using (List.mem_filter.1 hx).2
      rw [e, lessB_irr] at h1
      cases h1
  refine tree_one _ _ (Tr.merge_heap abP _ _ hm1 b2 ?_ (fun x hx y hy e => ?_)) hw hap
  · rw [hm, a2, List.append_assoc]
    exact hrk'
  · subst e
    rw [hm] at hx
    rw [a2] at hy
    have h2 : lessB k x.1 = true := by simpa using (List.mem_filter.1 hy).2
    rcases List.mem_append.1 hx with q | q
    · have h1 : lessB x.1 k = true := by simpa using (List.mem_filter.1 q).2
      rw [less_asyB h1] at h2
      cases h2
    · rw [List.mem_singleton] at q
      subst q
      rw [lessB_irr] at h2
      cases h2
end Go.Proofs.YtgicihmdcnelaaaGreatDoor
namespace Go.Proofs.YtgicihmdcnelaaaGreatDoor
open Go.RowKit Go.Proofs.Sha

set_option maxRecDepth 100000 in
set_option maxHeartbeats 2000000 in
theorem split_any (key : ByteArray) (n0 : Nat) : ∀ (t : Tr PairT) (p : Option Addr) (w : World), n0 ≤ w.heap.size → TA n0 bare t p w →
    Calls Tryz.prog 96 #[.pointer p, .string key] w fun e w' => ∃ pl pr, e = .returned (.tuple #[.pointer pl, .pointer pr]) ∧ TA n0 bare (Tr.cut key t).1 pl w' ∧ TA n0 bare (Tr.cut key t).2 pr w' ∧ Below w.heap.size w w' := by
  intro t
  induction t with
  | nil =>
    intro p w h0 ht
    obtain rfl : p = none := ht
    have q := ptr_nil w
    go_enter Tryz.func96, Tryz.ntmps96
    go_wp2_with fail
    go_ret2
    exact ⟨none, none, rfl, rfl, rfl, Below.refl _ _⟩
  | node l x r ihl ihr =>
    intro p w h0 ht
    have hpt := ht.ptr
    obtain ⟨b, pl, pr, rfl, hge, hb, hl, hr⟩ := id ht
    have q1 := ptr_some _ w hpt
    have c0 := hb.c0
    have HC : Hid (∀ w', Below w.heap.size w w' → w'.cell? ⟨b, 35, none⟩ = some (.pointer pl) ∧ w'.cell? ⟨b, 36, none⟩ = some (.pointer pr)) := fun w' h => ⟨(hb.below h (Nat.le_refl _)).c35, (hb.below h (Nat.le_refl _)).c36⟩
    obtain ⟨c35, c36⟩ := HC.out w (Below.refl _ _)
    cases hx : lessB x.1 key with
    | true =>
      have hcut : Hid (Tr.cut key (.node l x r) = (.node l x (Tr.cut key r).1, (Tr.cut key r).2)) := by show _ = _; rw [Tr.cut, if_pos hx]
      have z : Op.bytesLess x.1.toList key.toList = true := hx
      have HI : Hid (∀ w', Below w.heap.size w w' → Calls Tryz.prog 96 #[.pointer pr, .string key] w' fun e w'' => ∃ ql qr, e = .returned (.tuple #[.pointer ql, .pointer qr]) ∧ TA n0 bare (Tr.cut key r).1 ql w'' ∧ TA n0 bare (Tr.cut key r).2 qr w'' ∧ Below w'.heap.size w' w'') := fun w' h => ihr pr w' (Nat.le_trans h0 h.size) (hr.below h (Nat.le_refl _))
      have HW : Hid (∀ w' r', Below w.heap.size w w' → PtrT r' w' → Calls Tryz.prog 91 #[.pointer (some ⟨b, 0, none⟩), .pointer pl, .pointer r'] w' fun e w'' => ∃ g, e = .returned (.pointer (some ⟨g, 0, none⟩)) ∧ (g = b ∨ w'.heap.size ≤ g) ∧ TB g x pl r' (⟨#[]⟩, ⟨#[]⟩) w'' ∧ Below w'.heap.size w' w'') := fun w' r' h hp => with_bare b x pl pr pl r' w' (hb.below h (Nat.le_refl _)) (hl.below h (Nat.le_refl _)).ptr (hr.below h (Nat.le_refl _)).ptr (hl.below h (Nat.le_refl _)).ptr hp
      have HL : Hid (TA n0 bare l pl w) := hl
      clear ihl ihr hb hl hr ht hpt hx
      go_enter Tryz.func96, Tryz.ntmps96
      go_wp2_with (first | (go_at_call 96; refine (HI.out _ (Below.refl _ _)).mono ?_; rintro e w1 ⟨ql, qr, rfl, hq1, hq2, hb1⟩; obtain ⟨k35, k36⟩ := HC.out _ hb1) | (go_at_call 91; refine (HW.out _ _ hb1 hq1.ptr).mono ?_; rintro e w2 ⟨g, rfl, hgo, hg, hb2'⟩; have hb2 : Below w.heap.size w w2 := hb1.trans (hb2'.mono hb1.size); obtain ⟨m35, m36⟩ := HC.out _ hb2))
      go_ret2
      rw [hcut.out]
      have hs1 := hb1.size
      exact ⟨_, _, rfl, ⟨g, pl, ql, rfl, (by rcases hgo with q | q <;> omega), hg, HL.out.below hb2 (Nat.le_refl _), hq1.below hb2' (Nat.le_refl _)⟩, hq2.below hb2' (Nat.le_refl _), hb2⟩
    | false =>
      have hcut : Hid (Tr.cut key (.node l x r) = ((Tr.cut key l).1, .node (Tr.cut key l).2 x r)) := by show _ = _; rw [Tr.cut, if_neg (by rw [hx]; decide)]
      have z : Op.bytesLess x.1.toList key.toList = false := hx
      have HI : Hid (∀ w', Below w.heap.size w w' → Calls Tryz.prog 96 #[.pointer pl, .string key] w' fun e w'' => ∃ ql qr, e = .returned (.tuple #[.pointer ql, .pointer qr]) ∧ TA n0 bare (Tr.cut key l).1 ql w'' ∧ TA n0 bare (Tr.cut key l).2 qr w'' ∧ Below w'.heap.size w' w'') := fun w' h => ihl pl w' (Nat.le_trans h0 h.size) (hl.below h (Nat.le_refl _))
      have HW : Hid (∀ w' l', Below w.heap.size w w' → PtrT l' w' → Calls Tryz.prog 91 #[.pointer (some ⟨b, 0, none⟩), .pointer l', .pointer pr] w' fun e w'' => ∃ g, e = .returned (.pointer (some ⟨g, 0, none⟩)) ∧ (g = b ∨ w'.heap.size ≤ g) ∧ TB g x l' pr (⟨#[]⟩, ⟨#[]⟩) w'' ∧ Below w'.heap.size w' w'') := fun w' l' h hp => with_bare b x pl pr l' pr w' (hb.below h (Nat.le_refl _)) (hl.below h (Nat.le_refl _)).ptr (hr.below h (Nat.le_refl _)).ptr hp (hr.below h (Nat.le_refl _)).ptr
      have HR : Hid (TA n0 bare r pr w) := hr
      clear ihl ihr hb hl hr ht hpt hx
      go_enter Tryz.func96, Tryz.ntmps96
      go_wp2_with (first | (go_at_call 96; refine (HI.out _ (Below.refl _ _)).mono ?_; rintro e w1 ⟨ql, qr, rfl, hq1, hq2, hb1⟩; obtain ⟨k35, k36⟩ := HC.out _ hb1) | (go_at_call 91; refine (HW.out _ _ hb1 hq2.ptr).mono ?_; rintro e w2 ⟨g, rfl, hgo, hg, hb2'⟩; have hb2 : Below w.heap.size w w2 := hb1.trans (hb2'.mono hb1.size); obtain ⟨m35, m36⟩ := HC.out _ hb2))
      go_ret2
      rw [hcut.out]
      have hs1 := hb1.size
      exact ⟨_, _, rfl, hq1.below hb2' (Nat.le_refl _), ⟨g, qr, pr, rfl, (by rcases hgo with q | q <;> omega), hg, hq2.below hb2' (Nat.le_refl _), HR.out.below hb2 (Nat.le_refl _)⟩, hb2⟩
end Go.Proofs.YtgicihmdcnelaaaGreatDoor
