import Derived.Test.YtfmpjlpakldheaaGreatDoorZpaz
import Derived.Test.YtfmpjlpakldheaaGreatDoorZpal
import Derived.Test.YtfmpjlpakldheaaGreatDoorZpau
import Derived.Test.YtfmpjlpakldheaaGreatDoorZpaf
set_option maxRecDepth 100000
set_option maxHeartbeats 4000000
namespace Go.Proofs.YtfmpjlpakldheaaGreatDoor
open Tryz
open Go.RowKit Go.Proofs.Sha
abbrev at37 (gb c : Nat) : Value := .func (.func 120) #[] #[.pointer (some ⟨gb, 0, none⟩), .pointer (some ⟨c, 0, none⟩)]
theorem gt_bad (sb gb c wd : Nat) (lo hi root : ByteArray) (v0 v2 : Value) (w : World) (hb : w.heap[sb]? = some (.cells #[v0, .int .i64 (wd : Int), v2] 178)) (hr : root.size <= 1048576) (hk : hashOk root.size (wd : Int) = false) :
 Calls prog 118 #[.pointer (some ⟨sb, 0, none⟩), .string root, intoV lo hi, at37 gb c] w fun e w' => e = .returned (.int .i64 1) /\ Below w.heap.size w w' := by
 have HV := fun w' => vlink_any root (wd : Int) w' hr
 rw [hk] at HV
 have hA : Below w.heap.size w (w.alloc (.cells #[at37 gb c] 168)) := (Below.refl _ _).alloc (Nat.le_refl _) _
 have c1 : (w.alloc (.cells #[at37 gb c] 168)).cell? ⟨sb, 1, none⟩ = some (.int .i64 (wd : Int)) := ZC ((hA.block sb (Array.getElem?_eq_some_iff.1 hb).1).trans hb) 1
 go_enter func118, ntmps118
 go_wp2_with (first | (go_at_call 149; refine (HV _).mono ?_; rintro e w2 ⟨rfl, rfl⟩))
 go_ret
 exact ⟨rfl, hA⟩
theorem gt_ok (fnd : ByteArray -> FN) (wd : Nat) (hfo : FndOk wd fnd) (wg : World) (B0 sb gb c : Nat) (lo hi root : ByteArray) (v0 v2 : Value) (w : World) (hb : w.heap[sb]? = some (.cells #[v0, .int .i64 (wd : Int), v2] 178)) (hr : root.size <= 1048576) (hk : hashOk root.size (wd : Int) = true) (hsz : root.size = 0 \/ root.size = wd)
 (hbw : Below B0 wg w) (hBc : B0 <= c) (hBs : B0 <= w.heap.size) (hgb : w.heap[gb]? = some (.cells #[.string lo, .string hi] 109)) (hcb : w.heap[c]? = some (.cells #[.slice none 0 0] 23))
 (HF : Hid (∀ (hash : ByteArray) w', hash.size = wd -> Below B0 wg w' -> Calls prog 176 #[.pointer (some ⟨sb, 0, none⟩), .string hash] w' fun e w'' => e = .returned (nodeT (fnd hash)) /\ Below w'.heap.size w' w''))
 (HR : Hid (∀ (k : ByteArray) w', okKey k = true -> Below B0 wg w' -> Calls prog 158 #[Value.string k] w' fun e w'' => e = .returned (.agg (rkL k).toArray) /\ Below w'.heap.size w' w'')) (R : Int × Nat × List PairT) (hRe : goF fnd hgW lo hi 501 root ⟨#[]⟩ ⟨#[]⟩ ⟨#[]⟩ 0 = R) :
 Calls prog 118 #[.pointer (some ⟨sb, 0, none⟩), .string root, intoV lo hi, at37 gb c] w fun e w' => e = .returned (.int .i64 R.1) /\ Fr w.heap.size (fun q => q = c) w w' /\ (R.1 = 0 -> ∃ base a cap, w.heap.size <= base /\ LS c base R.2.2 a cap w') := by
 have HV := fun w' => vlink_any root (wd : Int) w' hr
 rw [hk] at HV
 have hA : Below w.heap.size w (w.alloc (.cells #[at37 gb c] 168)) := (Below.refl _ _).alloc (Nat.le_refl _) _
 have c1 : (w.alloc (.cells #[at37 gb c] 168)).cell? ⟨sb, 1, none⟩ = some (.int .i64 (wd : Int)) := ZC ((hA.block sb (Array.getElem?_eq_some_iff.1 hb).1).trans hb) 1
 go_enter func118, ntmps118
 go_upto_region 4 with (first | (go_at_call 149; refine (HV _).mono ?_; rintro e w2 ⟨rfl, rfl⟩))
 have hgl := (Array.getElem?_eq_some_iff.1 hgb).1
 have hcl := (Array.getElem?_eq_some_iff.1 hcb).1
 have hW : Below w.heap.size w (((w.alloc (.cells #[at37 gb c] 168)).alloc (.cells #[.pointer (some ⟨sb, 0, none⟩), .int .i64 0, .int .i64 0] 203)).alloc (.cells #[.pointer (some ⟨w.heap.size + 1, 0, none⟩)] 201)) := (((Below.refl _ _).alloc (Nat.le_refl _) _).alloc (by simp) _).alloc (by simp; omega) _
 have nX := heap_alloc_new ((w.alloc (.cells #[at37 gb c] 168)).alloc (.cells #[.pointer (some ⟨sb, 0, none⟩), .int .i64 0, .int .i64 0] 203)) (.cells #[.pointer (some ⟨w.heap.size + 1, 0, none⟩)] 201)
 have nL0 : ((w.alloc (.cells #[at37 gb c] 168)).alloc (.cells #[.pointer (some ⟨sb, 0, none⟩), .int .i64 0, .int .i64 0] 203)).heap[w.heap.size + 1]? = some (.cells #[.pointer (some ⟨sb, 0, none⟩), .int .i64 0, .int .i64 0] 203) := by
  have := heap_alloc_new (w.alloc (.cells #[at37 gb c] 168)) (.cells #[.pointer (some ⟨sb, 0, none⟩), .int .i64 0, .int .i64 0] 203)
  rw [World.size_alloc] at this
  exact this
 have nL := (Below.heap_alloc ((w.alloc (.cells #[at37 gb c] 168)).alloc (.cells #[.pointer (some ⟨sb, 0, none⟩), .int .i64 0, .int .i64 0] 203)) (.cells #[.pointer (some ⟨w.heap.size + 1, 0, none⟩)] 201) (w.heap.size + 1) (by simp)).trans nL0
 clear nL0
 have nA := (Below.heap_alloc ((w.alloc (.cells #[at37 gb c] 168)).alloc (.cells #[.pointer (some ⟨sb, 0, none⟩), .int .i64 0, .int .i64 0] 203)) (.cells #[.pointer (some ⟨w.heap.size + 1, 0, none⟩)] 201) w.heap.size (by simp; omega)).trans ((Below.heap_alloc (w.alloc (.cells #[at37 gb c] 168)) (.cells #[.pointer (some ⟨sb, 0, none⟩), .int .i64 0, .int .i64 0] 203) w.heap.size (by simp)).trans (heap_alloc_new w (.cells #[at37 gb c] 168)))
 have hzW : (((w.alloc (.cells #[at37 gb c] 168)).alloc (.cells #[.pointer (some ⟨sb, 0, none⟩), .int .i64 0, .int .i64 0] 203)).alloc (.cells #[.pointer (some ⟨w.heap.size + 1, 0, none⟩)] 201)).heap.size = w.heap.size + 3 := by simp
 rw [World.size_alloc, World.size_alloc] at nX
 generalize ((w.alloc (.cells #[at37 gb c] 168)).alloc (.cells #[.pointer (some ⟨sb, 0, none⟩), .int .i64 0, .int .i64 0] 203)).alloc (.cells #[.pointer (some ⟨w.heap.size + 1, 0, none⟩)] 201) = W at hW nX nL nA hzW ⊢
 obtain ⟨S, hS⟩ : ∃ S, w.heap.size = S := ⟨_, rfl⟩
 have nc : W.heap[c]? = some (.cells #[.slice none 0 0] 23) := (hW.block c hcl).trans hcb
 have ng : W.heap[gb]? = some (.cells #[.string lo, .string hi] 109) := (hW.block gb hgl).trans hgb
 have hst : Stc B0 (S + 3) (S + 1) c gb (S + 1 + 1) S := by
  rw [hS] at hgl hcl hBs
  have hne : gb ≠ c := ne_of_type ng nc (by decide)
  exact ⟨by omega, by omega, by omega, by omega, by omega, by omega, by omega, by omega, by omega, by omega, by omega, by omega, by omega, hne, by omega⟩
 have hbW : Below B0 wg W := hbw.trans (hW.mono hBs)
 rw [hS] at nX nL nA hzW
 have hEn : Env wg B0 (S + 3) (S + 1) c gb (S + 1 + 1) S lo hi W := ⟨nX, nA, ng, hbW, by omega⟩
 have hLn : LD (S + 1) sb 0 0 W := nL
 have hSn : LS c (S + 3) [] none 0 W := ⟨nc, ⟨rfl, .inl ⟨rfl, rfl⟩⟩, by omega⟩
 have HB := branchAt_any root ⟨#[]⟩ ⟨#[]⟩ none W
 have HW : Hid (∀ p w3, LinkAt root ⟨#[]⟩ ⟨#[]⟩ none p w3 -> (∀ q, p = some q -> W.heap.size <= q.block) -> Below W.heap.size W w3 -> Calls prog 150 #[.pointer p, intoV lo hi, atV (S + 1 + 1) S] w3 fun e w' => (∃ x, e = .returned (.bool x)) /\ w'.cell? ⟨S + 1 + 1, 0, none⟩ = some (.pointer (some ⟨S + 1, 0, none⟩)) /\ w'.cell? ⟨S + 1, 2, none⟩ = some (.int .i64 R.1) /\ Fr w.heap.size (fun q => q = c) w w' /\ (R.1 = 0 -> ∃ base a cap, w.heap.size <= base /\ LS c base R.2.2 a cap w')) := fun p w3 hl hp hb3 => by
  refine (walk_any fnd wd hfo wg B0 (S + 3) (S + 1) sb c gb (S + 1 + 1) S lo hi hst HF HR 501 root ⟨#[]⟩ ⟨#[]⟩ ⟨#[]⟩ none p 0 [] none 0 w3 (hEn.below hst hb3) hl (.inl ⟨rfl, rfl⟩) (hLn.below hb3) (hSn.below hb3) (fun q hq => by have := hp q hq; omega) hsz (by omega) (by omega) (Nat.le_refl _)).mono ?_
  rw [hRe]
  rintro e w' ⟨rfl, f', g', n'⟩
  have hE' := (hEn.below hst hb3).fr hst f' (fun q hq => by
   rcases hq with ⟨x, hx, e⟩ | e | e
   · have := hp x hx; exact .inr (.inr (by omega))
   · exact .inl e
   · exact .inr (.inl e))
  have hld : ∃ m, LD (S + 1) sb m R.1 w' := by
   by_cases h0 : R.1 = 0
   · rw [h0]; exact ⟨_, (g' h0).1⟩
   · exact n' h0
  obtain ⟨m, hld⟩ := hld
  refine ⟨⟨_, rfl⟩, ZC hE'.bx 0, ZC hld 2, ?_, fun h0 => ?_⟩
  · refine ((Fr.of_below (base := w.heap.size) (N := fun q => q = c) hW).trans (Fr.of_below (N := fun q => q = c) hb3) (fun _ _ x => x)).trans (f'.base (by omega)) (fun q hq hx => ?_)
    rcases hx with ⟨x, hx, e⟩ | e | e
    · have := hp x hx; omega
    · omega
    · exact e
  · obtain ⟨a', cap', h'⟩ := (g' h0).2
    exact ⟨S + 3, a', cap', by omega, by simpa using h'⟩
 clear hEn hLn hSn nX nL nA nc ng hgl hcl hbW HF HR
 go_wp2_with (first | (go_at_call 151; refine HB.mono ?_; rintro e w3 ⟨p, rfl, hl3, hp3, hb3⟩) | (go_at_call 150; refine (HW.out _ _ hl3 hp3 hb3).mono ?_; rintro e w4 ⟨⟨x, rfl⟩, d1, d2, d3⟩))
 go_ret
 exact ⟨rfl, d3⟩
theorem pw_any (fnd : ByteArray -> FN) (wd : Nat) (hfo : FndOk wd fnd) (sb : Nat) (lo hi root : ByteArray) (v0 v2 : Value) (w : World) (hb : w.heap[sb]? = some (.cells #[v0, .int .i64 (wd : Int), v2] 178)) (hr : root.size <= 1048576)
 (HF : Hid (∀ (hash : ByteArray) w', hash.size = wd -> Below w.heap.size w w' -> Calls prog 176 #[.pointer (some ⟨sb, 0, none⟩), .string hash] w' fun e w'' => e = .returned (nodeT (fnd hash)) /\ Below w'.heap.size w' w''))
 (HR : Hid (∀ (k : ByteArray) w', okKey k = true -> Below w.heap.size w w' -> Calls prog 158 #[Value.string k] w' fun e w'' => e = .returned (.agg (rkL k).toArray) /\ Below w'.heap.size w' w'')) :
 Calls prog 77 #[.pointer (some ⟨sb, 0, none⟩), .string root, .agg #[.string lo, .string hi]] w (RangeAt (if hashOk root.size (wd : Int) = true then (if (goF fnd hgW lo hi 501 root ⟨#[]⟩ ⟨#[]⟩ ⟨#[]⟩ 0).1 = 0 then ((goF fnd hgW lo hi 501 root ⟨#[]⟩ ⟨#[]⟩ ⟨#[]⟩ 0).2.2, 0) else ([], (goF fnd hgW lo hi 501 root ⟨#[]⟩ ⟨#[]⟩ ⟨#[]⟩ 0).1)) else ([], 1)) w) := by
 obtain ⟨R, hR⟩ : ∃ R, goF fnd hgW lo hi 501 root ⟨#[]⟩ ⟨#[]⟩ ⟨#[]⟩ 0 = R := ⟨_, rfl⟩
 rw [hR]
 have hW : Below w.heap.size w ((w.alloc (.cells #[.string lo, .string hi] 109)).alloc (.cells #[.slice none 0 0] 23)) := ((Below.refl _ _).alloc (Nat.le_refl _) _).alloc (by simp) _
 have nC := heap_alloc_new (w.alloc (.cells #[.string lo, .string hi] 109)) (.cells #[.slice none 0 0] 23)
 have nG := (Below.heap_alloc (w.alloc (.cells #[.string lo, .string hi] 109)) (.cells #[.slice none 0 0] 23) w.heap.size (by simp)).trans (heap_alloc_new w (.cells #[.string lo, .string hi] 109))
 rw [World.size_alloc] at nC
 have hzW : ((w.alloc (.cells #[.string lo, .string hi] 109)).alloc (.cells #[.slice none 0 0] 23)).heap.size = w.heap.size + 2 := by simp
 have hbW := (hW.block sb (Array.getElem?_eq_some_iff.1 hb).1).trans hb
 cases hk : hashOk root.size (wd : Int) with
 | false =>
  rw [if_neg (by decide)]
  have HG := gt_bad sb w.heap.size (w.heap.size + 1) wd lo hi root v0 v2 _ hbW hr hk
  have HP : Hid (∀ w', Below w.heap.size w w' -> RangeAt ([], 1) w (.returned (.tuple #[.slice none 0 0, .int .i64 1])) w') := fun w' hw' => ⟨⟨none, 0, rfl, ⟨rfl, .inl ⟨rfl, rfl⟩⟩⟩, hw'⟩
  have HQ : Hid (∀ w2, Below ((w.alloc (.cells #[.string lo, .string hi] 109)).alloc (.cells #[.slice none 0 0] 23)).heap.size ((w.alloc (.cells #[.string lo, .string hi] 109)).alloc (.cells #[.slice none 0 0] 23)) w2 -> Below w.heap.size w w2) := fun w2 hb2 => hW.trans (hb2.mono hW.size)
  clear HF HR hR hzW nC nG hbW hW hb
  go_enter func77, ntmps77
  go_wp2_with (first | (go_at_call 118; refine HG.mono ?_; rintro e w2 ⟨rfl, hb2⟩; replace hb2 := HQ.out _ hb2))
  go_ret2
  exact HP.out _ hb2
 | true =>
  rw [if_pos rfl]
  have hsz : root.size = 0 \/ root.size = wd := by
   unfold hashOk at hk
   rcases (Bool.or_eq_true _ _).mp hk with h | h
   · exact .inl (of_decide_eq_true h)
   · exact .inr (by have := of_decide_eq_true h; omega)
  have HG := gt_ok fnd wd hfo w w.heap.size sb w.heap.size (w.heap.size + 1) lo hi root v0 v2 _ hbW hr hk hsz hW (by omega) hW.size nG nC HF HR R hR
  have HQ : Hid (∀ w2, Fr ((w.alloc (.cells #[.string lo, .string hi] 109)).alloc (.cells #[.slice none 0 0] 23)).heap.size (fun q => q = w.heap.size + 1) ((w.alloc (.cells #[.string lo, .string hi] 109)).alloc (.cells #[.slice none 0 0] 23)) w2 -> Below w.heap.size w w2) := fun w2 hf => hW.trans (hf.below hW.size (fun q e => by omega) hW.size)
  by_cases h0 : R.1 = 0
  · rw [if_pos h0]
    rw [h0] at HG
    have HL : Hid (∀ w2 (base : Nat) a cap, ((w.alloc (.cells #[.string lo, .string hi] 109)).alloc (.cells #[.slice none 0 0] 23)).heap.size <= base -> Below w.heap.size w w2 -> LS (w.heap.size + 1) base R.2.2 a cap w2 -> w2.cell? ⟨w.heap.size + 1, 0, none⟩ = some (.slice a R.2.2.length cap) /\ RangeAt (R.2.2, 0) w (.returned (.tuple #[.slice a R.2.2.length cap, .int .i64 0])) w2) := fun w2 base a cap hbs hb2 hl => ⟨ZC hl.blk 0, ⟨⟨a, cap, rfl, own2_mono hl.own (Nat.le_trans hW.size hbs)⟩, hb2⟩⟩
    clear HF HR hR hzW nC nG hbW hW hb h0
    go_enter func77, ntmps77
    go_wp2_with (first | (go_at_call 118; refine HG.mono ?_; rintro e w2 ⟨rfl, hf2, hl2⟩; obtain ⟨base, a2, cap2, hbs2, hl2⟩ := hl2 (by trivial); obtain ⟨c2, hr2⟩ := HL.out _ _ _ _ hbs2 (HQ.out _ hf2) hl2))
    go_ret2
    exact hr2
  · rw [if_neg h0]
    have HP : Hid (∀ w', Below w.heap.size w w' -> RangeAt ([], R.1) w (.returned (.tuple #[.slice none 0 0, .int .i64 R.1])) w') := fun w' hw' => ⟨⟨none, 0, rfl, ⟨rfl, .inl ⟨rfl, rfl⟩⟩⟩, hw'⟩
    clear HF HR hR hzW nC nG hbW hW hb
    go_enter func77, ntmps77
    go_wp2_with (first | (go_at_call 118; refine HG.mono ?_; rintro e w2 ⟨rfl, hf2, hl2⟩; replace hf2 := HQ.out _ hf2))
    go_ret2
    exact HP.out _ hf2
abbrev KT (w : World) : Prop := ∀ j, j < 64 -> w.cell? ⟨0, j, none⟩ = some (.int .u32 ((kTab.getD j 0).toNat : Int))
theorem KT.below {w w' : World} (h : KT w) (hb : Below w.heap.size w w') : KT w' := fun j hj => by
 have hl0 : 0 < w.heap.size := World.block_lt_of_cell? w _ (h 0 (by omega))
 exact (hb.cell (by exact hl0)).trans (h j hj)
theorem srange_err (HD : Hid DigSaid) (D : Dec) (wd : Nat) (HDd : Hid (DecSaid 148 wd D)) (hdo : DecOk wd D) (a : Option Addr) (ss : List ByteArray) (c : Nat) (root lo hi : ByteArray) (w : World) (h : SArg a ss w) (hq : Hid (∀ j, (ss.getD j ⟨#[]⟩).size <= 1048575)) (h1 : 1 <= wd) (h2 : wd <= 32)
 (hr : root.size <= 1048576) (hlo : lo.size <= 1048576) (hhi : hi.size <= 1048576) (hp : poolOk (wd : Int) ss.length = true) (hk : hashOk root.size (wd : Int) = true) (hR0 : (goF (fndD D wd ss) hgW lo hi 501 root ⟨#[]⟩ ⟨#[]⟩ ⟨#[]⟩ 0).1 ≠ 0) :
 Calls prog 24 #[.agg #[.int .i64 (wd : Int), .slice a ss.length c], .string root, .string lo, .string hi] w (RangeAt (rangeM (fndD D wd ss) (wd : Int) ss.length root lo hi) w) := by
 have HP := fun w' => poolOk_any (wd : Int) a ss.length c w' h.le
 have HH := fun w' => hashOk_any root (wd : Int) w' hr
 rw [hp] at HP
 rw [hk] at HH
 have hS := SR.mk0 w (wd : Int) a ss.length c
 obtain ⟨R, hR⟩ : ∃ R, goF (fndD D wd ss) hgW lo hi 501 root ⟨#[]⟩ ⟨#[]⟩ ⟨#[]⟩ 0 = R := ⟨_, rfl⟩
 rw [hR] at hR0
 have hRM := rangeM_ok (lo := lo) (hi := hi) (by rw [hp, hk]; rfl : (poolOk (wd : Int) ss.length && hashOk root.size (wd : Int)) = true) hR
 obtain ⟨Z, hZ⟩ : ∃ Z, rangeM (fndD D wd ss) (wd : Int) ss.length root lo hi = Z := ⟨_, rfl⟩
 rw [hZ] at hRM ⊢
 obtain ⟨N, hN⟩ : ∃ N, ss.length = N := ⟨_, rfl⟩
 have HHS : Hid (∀ w', Below w.heap.size w w' -> Calls prog 76 #[.agg #[.int .i64 (wd : Int), .slice a N c]] w' fun e w'' => ∃ g c', e = .returned (.slice (some ⟨g, 0, none⟩) N c') /\ (∀ W, Below w''.heap.size w'' W -> Calls prog 75 #[.agg #[.int .i64 (wd : Int), .slice a N c], .slice (some ⟨g, 0, none⟩) N c', .string root, .string ⟨#[]⟩, .agg #[.string ⟨#[]⟩, .string ⟨#[]⟩], .string lo, .string hi, .int .i64 0] W (GoPost R W)) /\ Below w'.heap.size w' w'') := by
  intro w' hb
  have hA := h.below hb
  rw [<- hN]
  refine (hashes_any HD wd a ss c w' hA hq h1 h2).mono ?_
  rintro e w'' ⟨g, c', rfl, hrow, hb2⟩
  refine ⟨g, c', rfl, fun W hW => ?_, hb2⟩
  have hA2 := hA.below hb2
  rw [<- hR]
  refine go_all (fndD D wd ss) wd (fndD_ok D wd ss hdo) a ss.length c g c' lo hi hlo hhi w'' (fun w3 hash hb3 => ?_) 501 root ⟨#[]⟩ ⟨#[]⟩ ⟨#[]⟩ 0 W (by omega) (by omega) hW (by decide) (by decide) (by decide)
  have := lfind_any D wd HDd a ss c g c' (ss.map (hashT wd)) hash w3 (hA2.below hb3) (by rw [List.length_map]) (Nat.lt_of_lt_of_le hrow.lt hb3.size) (fun j hj => by
   have e := (hrow.below hb3).cell j hj
   rw [e, List.getElem?_map, List.getD_eq_getElem?_getD, List.getElem?_eq_getElem (by rw [List.length_map]; exact hj)]
   rfl)
  rw [first_hash] at this
  exact this
 have hRMH : Hid (Z = if R.1 = 0 then (R.2.2, 0) else ([], R.1)) := hRM
 rw [hN] at HP hS ⊢
 clear h hq hN hR hRM hZ hp hk
 go_enter func24, ntmps24
 go_upto_region 2 with fail
 generalize (w.alloc (.cells #[.int .i64 (wd : Int), .slice a N c] 37)).alloc (.cells #[] 34) = W at hS ⊢
 obtain ⟨gz, hgz⟩ : ∃ x, w.heap.size + 1 = x := ⟨_, rfl⟩
 rw [hgz] at hS ⊢
 obtain ⟨ga, hga⟩ : ∃ x, w.heap.size = x := ⟨_, rfl⟩
 rw [show SR w w.heap.size = SR w ga by rw [hga]] at hS
 rw [hga]
 clear hga hgz
 have k0 := ZC hS.na 0
 have k1 := ZC hS.na 1
 go_upto_region 4 with (first | (go_at_call 73; refine (HP _).mono ?_; rintro e w1 ⟨rfl, hb1⟩; have hS1 := hS.below hb1; clear k0 k1; have k0 := ZC hS1.na 0; have k1 := ZC hS1.na 1) | (go_at_call 74; refine (HH _).mono ?_; rintro e w2 ⟨rfl, rfl⟩))
 clear HP HH hb1 hS k0 k1
 have k0 : w1.cell? ⟨ga, 0, none⟩ = some (.int .i64 (wd : Int)) := ZC hS1.na 0
 have k1 : w1.cell? ⟨ga, 1, none⟩ = some (.slice a N c) := ZC hS1.na 1
 have hbd : Below w1.heap.size w1 w1.drew := (Below.refl _ _).drew
 have HC : Hid (∀ W : World, W.heap[ga]? = some (.cells #[.int .i64 (wd : Int), .slice a N c] 37) -> W.cell? ⟨ga, 0, none⟩ = some (.int .i64 (wd : Int)) /\ W.cell? ⟨ga, 1, none⟩ = some (.slice a N c)) := fun W hW => ⟨ZC hW 0, ZC hW 1⟩
 have hna := hS1.na
 have hbw := hS1.bl
 obtain ⟨i, hie⟩ : ∃ i, R.1 = i := ⟨_, rfl⟩
 have hZ : Hid (Z = ([], i)) := by show _ = _; rw [hRMH.out, if_neg hR0, hie]
 have HG : Hid (∀ g c' W, Calls prog 75 #[.agg #[.int .i64 (wd : Int), .slice a N c], .slice (some ⟨g, 0, none⟩) N c', .string root, .string ⟨#[]⟩, .agg #[.string ⟨#[]⟩, .string ⟨#[]⟩], .string lo, .string hi, .int .i64 0] W (GoPost R W) -> Calls prog 75 #[.agg #[.int .i64 (wd : Int), .slice a N c], .slice (some ⟨g, 0, none⟩) N c', .string root, .string ⟨#[]⟩, .agg #[.string ⟨#[]⟩, .string ⟨#[]⟩], .string lo, .string hi, .int .i64 0] W fun e w' => e = .returned (.agg #[.slice none 0 0, .int .i64 0, .int .i64 i]) /\ Below W.heap.size W w') := fun g c' W hc => hc.mono fun e w' h => ⟨by rw [<- hie]; exact h.2.1 hR0, h.2.2⟩
 rw [hie] at hR0
 have hbi : (i == 0) = false := beq_eq_false_iff_ne.2 hR0
 clear hie hRMH
 have hlt1 := hS1.lt
 go_region_held3 (fun W => W.cell? ⟨ga, 0, none⟩ = some (.int .i64 (wd : Int)) /\ W.cell? ⟨ga, 1, none⟩ = some (.slice a N c)) (first | exact HC.out _ hna | exact HC.out _ (hS1.below ((Below.refl _ w1).drew.alloc (Nat.le_refl _) _)).na | exact HC.out _ hS2.na | exact HC.out _ (hS2.below ((Below.refl _ _).alloc (Nat.le_refl _) _)).na | exact HC.out _ hS3.na | exact HC.out _ (hS3.below ((Below.refl _ _).alloc (Nat.le_refl _) _)).na | exact HC.out _ (hS3.set3 hlt1 _ _ _).na | exact HC.out _ (hS3.set3 hlt2 _ _ _).na)
  (first
   | (go_at_call 76; refine (HHS.out (w1.drew.alloc (.cells #[.slice none 0 0, .int .i64 0, .int .i64 0] 102)) (hbw.drew.alloc hbw.size _)).mono ?_; rintro e w2 ⟨g, c', rfl, HGG, hb2⟩; have hS2 := (hS1.below ((Below.refl _ w1).drew.alloc (Nat.le_refl _) (.cells #[.slice none 0 0, .int .i64 0, .int .i64 0] 102))).below hb2; have hlt2 := hS2.lt; have n2 : WB w1.heap.size (.slice none 0 0) (.int .i64 0) (.int .i64 0) w2 := WB.below (show WB w1.heap.size (.slice none 0 0) (.int .i64 0) (.int .i64 0) (w1.drew.alloc (.cells #[.slice none 0 0, .int .i64 0, .int .i64 0] 102)) from heap_alloc_new w1.drew _) hb2; clear hb2)
   | (go_at_call 76; refine (HHS.out w1.drew hbw.drew).mono ?_; rintro e w2 ⟨g, c', rfl, HGG, hb2⟩; have hS2 := hS1.below ((Below.refl w1.heap.size w1).drew.trans hb2); have hlt2 := hS2.lt; clear hb2)
   | (go_at_call 75; refine (HG.out g c' (w2.alloc (.cells #[.slice none 0 0, .int .i64 0, .int .i64 0] 102)) (HGG _ ((Below.refl _ w2).alloc (Nat.le_refl _) _))).mono ?_; rintro e w3 ⟨rfl, hb3⟩; have hS3 := (hS2.below ((Below.refl _ w2).alloc (Nat.le_refl _) (.cells #[.slice none 0 0, .int .i64 0, .int .i64 0] 102))).below hb3; have n3 : WB w2.heap.size (.slice none 0 0) (.int .i64 0) (.int .i64 0) w3 := WB.below (show WB w2.heap.size (.slice none 0 0) (.int .i64 0) (.int .i64 0) (w2.alloc (.cells #[.slice none 0 0, .int .i64 0, .int .i64 0] 102)) from heap_alloc_new w2 _) hb3; clear hb3; obtain ⟨x0, x1, x2, y0, y1, y2⟩ := n3.at)
   | (go_at_call 75; refine (HG.out g c' w2 (HGG _ (Below.refl _ w2))).mono ?_; rintro e w3 ⟨rfl, hb3⟩; have hS3 := hS2.below hb3; have n3 := n2.below hb3; clear hb3; obtain ⟨x0, x1, x2, y0, y1, y2⟩ := n3.at)
   | (go_at_call 75; refine (HG.out g c' w2 (HGG _ (Below.refl _ w2))).mono ?_; rintro e w3 ⟨rfl, hb3⟩; have hS3 := hS2.below hb3; clear hb3))
 · have hS4 := hS3.below ((Below.refl w3.heap.size w3).alloc (Nat.le_refl _) (.cells #[.slice none 0 0, .int .i64 0, .int .i64 i] 102))
   have n4 : WB w3.heap.size (.slice none 0 0) (.int .i64 0) (.int .i64 i) (w3.alloc (.cells #[.slice none 0 0, .int .i64 0, .int .i64 i] 102)) := heap_alloc_new w3 _
   generalize w3.alloc (.cells #[.slice none 0 0, .int .i64 0, .int .i64 i] 102) = W4 at hS4 n4 ⊢
   generalize w3.heap.size = gw at n4 ⊢
   obtain ⟨u0, u1, u2, _, _, _⟩ := n4.at
   have hS5 := hS4.below (Below.refl W4.heap.size W4).drew
   have hfin := hS5.nil i
   rw [<- hZ.out] at hfin
   clear k0 k1 hna hbd HGG hZ hS3 n4
   go_wp2_with fail
   go_region
   go_wp2_with fail
   go_ret2
   exact hfin
 · have hS4 := hS3.set3 hlt2 (.slice none 0 0) (.int .i64 0) (.int .i64 i)
   have n4 := n3.set3 (.slice none 0 0) (.int .i64 0) (.int .i64 i)
   generalize ((w3.setCell ⟨w2.heap.size, 0, none⟩ (.slice none 0 0)).setCell ⟨w2.heap.size, 1, none⟩ (.int .i64 0)).setCell ⟨w2.heap.size, 2, none⟩ (.int .i64 i) = W4 at hS4 n4 ⊢
   clear n3 x0 x1 x2 y0 y1 y2
   generalize w2.heap.size = gw at n4 ⊢
   obtain ⟨u0, u1, u2, _, _, _⟩ := n4.at
   have hS5 := hS4.below (Below.refl W4.heap.size W4).drew
   have hfin := hS5.nil i
   rw [<- hZ.out] at hfin
   clear k0 k1 hna hbd HGG hZ hS3 n4
   go_wp2_with fail
   go_region
   go_wp2_with fail
   go_ret2
   exact hfin
 · have hS4 := hS3.set3 hlt1 (.slice none 0 0) (.int .i64 0) (.int .i64 i)
   have n4 := n3.set3 (.slice none 0 0) (.int .i64 0) (.int .i64 i)
   generalize ((w3.setCell ⟨w1.heap.size, 0, none⟩ (.slice none 0 0)).setCell ⟨w1.heap.size, 1, none⟩ (.int .i64 0)).setCell ⟨w1.heap.size, 2, none⟩ (.int .i64 i) = W4 at hS4 n4 ⊢
   clear n2 n3 x0 x1 x2 y0 y1 y2
   generalize w1.heap.size = gw at n4 ⊢
   obtain ⟨u0, u1, u2, _, _, _⟩ := n4.at
   have hS5 := hS4.below (Below.refl W4.heap.size W4).drew
   have hfin := hS5.nil i
   rw [<- hZ.out] at hfin
   clear k0 k1 hna hbd HGG hZ hS3 n4
   go_wp2_with fail
   go_region
   go_wp2_with fail
   go_ret2
   exact hfin
theorem own2_set3 {w : World} {base gw n : Nat} {v : Value} {xs : List Value} (h : w.ownsRow base 34 2 v n xs) (hg : gw < base) (x y z : Value) : (((w.setCell ⟨gw, 0, none⟩ x).setCell ⟨gw, 1, none⟩ y).setCell ⟨gw, 2, none⟩ z).ownsRow base 34 2 v n xs :=
 own2_kept h (fun q hv _ => by
  have := (own2_cells h hv).1
  rw [Below.heap_setCell _ _ _ _ (by show q ≠ gw; omega), Below.heap_setCell _ _ _ _ (by show q ≠ gw; omega), Below.heap_setCell _ _ _ _ (by show q ≠ gw; omega)])
theorem srange_yes (HD : Hid DigSaid) (D : Dec) (wd : Nat) (HDd : Hid (DecSaid 148 wd D)) (hdo : DecOk wd D) (a : Option Addr) (ss : List ByteArray) (c : Nat) (root lo hi : ByteArray) (w : World) (h : SArg a ss w) (hq : Hid (∀ j, (ss.getD j ⟨#[]⟩).size <= 1048575)) (h1 : 1 <= wd) (h2 : wd <= 32)
 (hr : root.size <= 1048576) (hlo : lo.size <= 1048576) (hhi : hi.size <= 1048576) (hp : poolOk (wd : Int) ss.length = true) (hk : hashOk root.size (wd : Int) = true) (hR0 : (goF (fndD D wd ss) hgW lo hi 501 root ⟨#[]⟩ ⟨#[]⟩ ⟨#[]⟩ 0).1 = 0) :
 Calls prog 24 #[.agg #[.int .i64 (wd : Int), .slice a ss.length c], .string root, .string lo, .string hi] w (RangeAt (rangeM (fndD D wd ss) (wd : Int) ss.length root lo hi) w) := by
 have HP := fun w' => poolOk_any (wd : Int) a ss.length c w' h.le
 have HH := fun w' => hashOk_any root (wd : Int) w' hr
 rw [hp] at HP
 rw [hk] at HH
 have hS := SR.mk0 w (wd : Int) a ss.length c
 obtain ⟨R, hR⟩ : ∃ R, goF (fndD D wd ss) hgW lo hi 501 root ⟨#[]⟩ ⟨#[]⟩ ⟨#[]⟩ 0 = R := ⟨_, rfl⟩
 rw [hR] at hR0
 have hRM := rangeM_ok (lo := lo) (hi := hi) (by rw [hp, hk]; rfl : (poolOk (wd : Int) ss.length && hashOk root.size (wd : Int)) = true) hR
 obtain ⟨Z, hZ⟩ : ∃ Z, rangeM (fndD D wd ss) (wd : Int) ss.length root lo hi = Z := ⟨_, rfl⟩
 rw [hZ] at hRM ⊢
 obtain ⟨N, hN⟩ : ∃ N, ss.length = N := ⟨_, rfl⟩
 have HHS : Hid (∀ w', Below w.heap.size w w' -> Calls prog 76 #[.agg #[.int .i64 (wd : Int), .slice a N c]] w' fun e w'' => ∃ g c', e = .returned (.slice (some ⟨g, 0, none⟩) N c') /\ (∀ W, Below w''.heap.size w'' W -> Calls prog 75 #[.agg #[.int .i64 (wd : Int), .slice a N c], .slice (some ⟨g, 0, none⟩) N c', .string root, .string ⟨#[]⟩, .agg #[.string ⟨#[]⟩, .string ⟨#[]⟩], .string lo, .string hi, .int .i64 0] W (GoPost R W)) /\ Below w'.heap.size w' w'') := by
  intro w' hb
  have hA := h.below hb
  rw [<- hN]
  refine (hashes_any HD wd a ss c w' hA hq h1 h2).mono ?_
  rintro e w'' ⟨g, c', rfl, hrow, hb2⟩
  refine ⟨g, c', rfl, fun W hW => ?_, hb2⟩
  have hA2 := hA.below hb2
  rw [<- hR]
  refine go_all (fndD D wd ss) wd (fndD_ok D wd ss hdo) a ss.length c g c' lo hi hlo hhi w'' (fun w3 hash hb3 => ?_) 501 root ⟨#[]⟩ ⟨#[]⟩ ⟨#[]⟩ 0 W (by omega) (by omega) hW (by decide) (by decide) (by decide)
  have := lfind_any D wd HDd a ss c g c' (ss.map (hashT wd)) hash w3 (hA2.below hb3) (by rw [List.length_map]) (Nat.lt_of_lt_of_le hrow.lt hb3.size) (fun j hj => by
   have e := (hrow.below hb3).cell j hj
   rw [e, List.getElem?_map, List.getD_eq_getElem?_getD, List.getElem?_eq_getElem (by rw [List.length_map]; exact hj)]
   rfl)
  rw [first_hash] at this
  exact this
 have hRMH : Hid (Z = if R.1 = 0 then (R.2.2, 0) else ([], R.1)) := hRM
 rw [hN] at HP hS ⊢
 clear h hq hN hR hRM hZ hp hk
 go_enter func24, ntmps24
 go_upto_region 2 with fail
 generalize (w.alloc (.cells #[.int .i64 (wd : Int), .slice a N c] 37)).alloc (.cells #[] 34) = W at hS ⊢
 obtain ⟨gz, hgz⟩ : ∃ x, w.heap.size + 1 = x := ⟨_, rfl⟩
 rw [hgz] at hS ⊢
 obtain ⟨ga, hga⟩ : ∃ x, w.heap.size = x := ⟨_, rfl⟩
 rw [show SR w w.heap.size = SR w ga by rw [hga]] at hS
 rw [hga]
 clear hga hgz
 have k0 := ZC hS.na 0
 have k1 := ZC hS.na 1
 go_upto_region 4 with (first | (go_at_call 73; refine (HP _).mono ?_; rintro e w1 ⟨rfl, hb1⟩; have hS1 := hS.below hb1; clear k0 k1; have k0 := ZC hS1.na 0; have k1 := ZC hS1.na 1) | (go_at_call 74; refine (HH _).mono ?_; rintro e w2 ⟨rfl, rfl⟩))
 clear HP HH hb1 hS k0 k1
 have k0 : w1.cell? ⟨ga, 0, none⟩ = some (.int .i64 (wd : Int)) := ZC hS1.na 0
 have k1 : w1.cell? ⟨ga, 1, none⟩ = some (.slice a N c) := ZC hS1.na 1
 have hbd : Below w1.heap.size w1 w1.drew := (Below.refl _ _).drew
 have HC : Hid (∀ W : World, W.heap[ga]? = some (.cells #[.int .i64 (wd : Int), .slice a N c] 37) -> W.cell? ⟨ga, 0, none⟩ = some (.int .i64 (wd : Int)) /\ W.cell? ⟨ga, 1, none⟩ = some (.slice a N c)) := fun W hW => ⟨ZC hW 0, ZC hW 1⟩
 have hna := hS1.na
 have hbw := hS1.bl
 obtain ⟨Rc, Rn, Rp⟩ := R
 obtain rfl : Rc = 0 := hR0
 obtain ⟨m1, hm1⟩ : ∃ m1, Rp.length = m1 := ⟨_, rfl⟩
 have hZ : Hid (Z = (Rp, 0)) := by show _ = _; rw [hRMH.out, if_pos rfl]
 have hm1h : Hid (Rp.length = m1) := hm1
 have HG : Hid (∀ g c' W, Calls prog 75 #[.agg #[.int .i64 (wd : Int), .slice a N c], .slice (some ⟨g, 0, none⟩) N c', .string root, .string ⟨#[]⟩, .agg #[.string ⟨#[]⟩, .string ⟨#[]⟩], .string lo, .string hi, .int .i64 0] W (GoPost (0, Rn, Rp) W) -> Calls prog 75 #[.agg #[.int .i64 (wd : Int), .slice a N c], .slice (some ⟨g, 0, none⟩) N c', .string root, .string ⟨#[]⟩, .agg #[.string ⟨#[]⟩, .string ⟨#[]⟩], .string lo, .string hi, .int .i64 0] W fun e w' => (∃ a1 d1, e = .returned (.agg #[.slice a1 m1 d1, .int .i64 (Rn : Int), .int .i64 0]) /\ w'.ownsRow W.heap.size 34 2 (.slice a1 m1 d1) m1 (flatP Rp)) /\ Below W.heap.size W w') := fun g c' W hc => hc.mono fun e w' h => ⟨by rw [<- hm1]; exact h.1 rfl, h.2.2⟩
 clear hm1 hRMH
 have hlt1 := hS1.lt
 go_region_held3 (fun W => W.cell? ⟨ga, 0, none⟩ = some (.int .i64 (wd : Int)) /\ W.cell? ⟨ga, 1, none⟩ = some (.slice a N c)) (first | exact HC.out _ hna | exact HC.out _ (hS1.below ((Below.refl _ w1).drew.alloc (Nat.le_refl _) _)).na | exact HC.out _ hS2.na | exact HC.out _ (hS2.below ((Below.refl _ _).alloc (Nat.le_refl _) _)).na | exact HC.out _ hS3.na | exact HC.out _ (hS3.below ((Below.refl _ _).alloc (Nat.le_refl _) _)).na | exact HC.out _ (hS3.set3 hlt1 _ _ _).na | exact HC.out _ (hS3.set3 hlt2 _ _ _).na)
  (first
   | (go_at_call 76; refine (HHS.out (w1.drew.alloc (.cells #[.slice none 0 0, .int .i64 0, .int .i64 0] 102)) (hbw.drew.alloc hbw.size _)).mono ?_; rintro e w2 ⟨g, c', rfl, HGG, hb2⟩; have hS2 := (hS1.below ((Below.refl _ w1).drew.alloc (Nat.le_refl _) (.cells #[.slice none 0 0, .int .i64 0, .int .i64 0] 102))).below hb2; have hlt2 := hS2.lt; have n2 : WB w1.heap.size (.slice none 0 0) (.int .i64 0) (.int .i64 0) w2 := WB.below (show WB w1.heap.size (.slice none 0 0) (.int .i64 0) (.int .i64 0) (w1.drew.alloc (.cells #[.slice none 0 0, .int .i64 0, .int .i64 0] 102)) from heap_alloc_new w1.drew _) hb2; clear hb2)
   | (go_at_call 76; refine (HHS.out w1.drew hbw.drew).mono ?_; rintro e w2 ⟨g, c', rfl, HGG, hb2⟩; have hS2 := hS1.below ((Below.refl w1.heap.size w1).drew.trans hb2); have hlt2 := hS2.lt; clear hb2)
   | (go_at_call 75; refine (HG.out g c' (w2.alloc (.cells #[.slice none 0 0, .int .i64 0, .int .i64 0] 102)) (HGG _ ((Below.refl _ w2).alloc (Nat.le_refl _) _))).mono ?_; rintro e w3 ⟨⟨a1, d1, rfl, ho3⟩, hb3⟩; have hS3 := (hS2.below ((Below.refl _ w2).alloc (Nat.le_refl _) (.cells #[.slice none 0 0, .int .i64 0, .int .i64 0] 102))).below hb3; have n3 : WB w2.heap.size (.slice none 0 0) (.int .i64 0) (.int .i64 0) w3 := WB.below (show WB w2.heap.size (.slice none 0 0) (.int .i64 0) (.int .i64 0) (w2.alloc (.cells #[.slice none 0 0, .int .i64 0, .int .i64 0] 102)) from heap_alloc_new w2 _) hb3; clear hb3; obtain ⟨x0, x1, x2, y0, y1, y2⟩ := n3.at)
   | (go_at_call 75; refine (HG.out g c' w2 (HGG _ (Below.refl _ w2))).mono ?_; rintro e w3 ⟨⟨a1, d1, rfl, ho3⟩, hb3⟩; have hS3 := hS2.below hb3; have n3 := n2.below hb3; clear hb3; obtain ⟨x0, x1, x2, y0, y1, y2⟩ := n3.at)
   | (go_at_call 75; refine (HG.out g c' w2 (HGG _ (Below.refl _ w2))).mono ?_; rintro e w3 ⟨⟨a1, d1, rfl, ho3⟩, hb3⟩; have hS3 := hS2.below hb3; clear hb3))
 · have hS4 := hS3.below ((Below.refl w3.heap.size w3).alloc (Nat.le_refl _) (.cells #[.slice a1 m1 d1, .int .i64 (Rn : Int), .int .i64 0] 102))
   have n4 : WB w3.heap.size (.slice a1 m1 d1) (.int .i64 (Rn : Int)) (.int .i64 0) (w3.alloc (.cells #[.slice a1 m1 d1, .int .i64 (Rn : Int), .int .i64 0] 102)) := heap_alloc_new w3 _
   have ho4 := own2_mono (ho3.alloc (.cells #[.slice a1 m1 d1, .int .i64 (Rn : Int), .int .i64 0] 102)) hS2.bl.size
   generalize w3.alloc (.cells #[.slice a1 m1 d1, .int .i64 (Rn : Int), .int .i64 0] 102) = W4 at hS4 n4 ho4 ⊢
   generalize w3.heap.size = gw at n4 ⊢
   obtain ⟨u0, u1, u2, _, _, _⟩ := n4.at
   have hbl := hS4.bl
   have hfin : RangeAt (Rp, 0) w (.returned (.tuple #[.slice a1 m1 d1, .int .i64 0])) W4 := ⟨⟨a1, d1, by rw [hm1h.out], by rw [hm1h.out]; exact ho4⟩, hbl⟩
   rw [<- hZ.out] at hfin
   clear k0 k1 hna hbd HGG hZ hS3 n4 ho4 hS4
   go_wp2_with fail
   go_ret2
   exact hfin
 · have hS4 := hS3.set3 hlt2 (.slice a1 m1 d1) (.int .i64 (Rn : Int)) (.int .i64 0)
   have n4 := n3.set3 (.slice a1 m1 d1) (.int .i64 (Rn : Int)) (.int .i64 0)
   have ho4 := own2_mono (own2_set3 ho3 (gw := w2.heap.size) (by simp) (.slice a1 m1 d1) (.int .i64 (Rn : Int)) (.int .i64 0)) (base' := w.heap.size) (by have := hS2.bl.size; simp; omega)
   generalize ((w3.setCell ⟨w2.heap.size, 0, none⟩ (.slice a1 m1 d1)).setCell ⟨w2.heap.size, 1, none⟩ (.int .i64 (Rn : Int))).setCell ⟨w2.heap.size, 2, none⟩ (.int .i64 0) = W4 at hS4 n4 ho4 ⊢
   clear n3 x0 x1 x2 y0 y1 y2 ho3
   generalize w2.heap.size = gw at n4 ⊢
   obtain ⟨u0, u1, u2, _, _, _⟩ := n4.at
   have hbl := hS4.bl
   have hfin : RangeAt (Rp, 0) w (.returned (.tuple #[.slice a1 m1 d1, .int .i64 0])) W4 := ⟨⟨a1, d1, by rw [hm1h.out], by rw [hm1h.out]; exact ho4⟩, hbl⟩
   rw [<- hZ.out] at hfin
   clear k0 k1 hna hbd HGG hZ hS3 n4 ho4 hS4
   go_wp2_with fail
   go_ret2
   exact hfin
 · have hS4 := hS3.set3 hlt1 (.slice a1 m1 d1) (.int .i64 (Rn : Int)) (.int .i64 0)
   have n4 := n3.set3 (.slice a1 m1 d1) (.int .i64 (Rn : Int)) (.int .i64 0)
   have ho4 := own2_mono (own2_set3 ho3 (gw := w1.heap.size) (Array.getElem?_eq_some_iff.1 n2).1 (.slice a1 m1 d1) (.int .i64 (Rn : Int)) (.int .i64 0)) (base' := w.heap.size) hS2.bl.size
   generalize ((w3.setCell ⟨w1.heap.size, 0, none⟩ (.slice a1 m1 d1)).setCell ⟨w1.heap.size, 1, none⟩ (.int .i64 (Rn : Int))).setCell ⟨w1.heap.size, 2, none⟩ (.int .i64 0) = W4 at hS4 n4 ho4 ⊢
   clear n2 n3 x0 x1 x2 y0 y1 y2 ho3
   generalize w1.heap.size = gw at n4 ⊢
   obtain ⟨u0, u1, u2, _, _, _⟩ := n4.at
   have hbl := hS4.bl
   have hfin : RangeAt (Rp, 0) w (.returned (.tuple #[.slice a1 m1 d1, .int .i64 0])) W4 := ⟨⟨a1, d1, by rw [hm1h.out], by rw [hm1h.out]; exact ho4⟩, hbl⟩
   rw [<- hZ.out] at hfin
   clear k0 k1 hna hbd HGG hZ hS3 n4 ho4 hS4
   go_wp2_with fail
   go_ret2
   exact hfin
end Go.Proofs.YtfmpjlpakldheaaGreatDoor
