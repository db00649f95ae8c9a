import Derived.Test.YtibjhkpgaaapaaaGreatDoorZgan
import Derived.Test.YtibjhkpgaaapaaaGreatDoorZgas
import Derived.Test.YtibjhkpgaaapaaaGreatDoorZgai
import Derived.Test.YtibjhkpgaaapaaaGreatDoorZgaa
import Derived.Test.YtibjhkpgaaapaaaGreatDoorZgau
import Derived.Test.YtibjhkpgaaapaaaGreatDoorZgak
import Derived.Test.YtibjhkpgaaapaaaGreatDoorZgax
set_option maxRecDepth 100000
set_option maxHeartbeats 4000000
namespace Go.Proofs.YtibjhkpgaaapaaaGreatDoor
open Go.RowKit Go.Proofs.Sha

/-- What the proof of a map without a pool answers: a text that is not long. -/
def FrAt (n : Nat) (w : World) (e : Ending) (w' : World) : Prop := (∃ t : ByteArray, e = .returned (.string t) ∧ t.size ≤ 2400 * n + 40) ∧ Below w.heap.size w w'
/-- The block of the bounds. -/
structure F5 (w : World) (gb : Nat) (over under : ByteArray) (W : World) : Prop where
  bl : Below w.heap.size w W
  nb : W.heap[gb]? = some (.cells #[.string over, .string under] 94)
theorem F5.below {w : World} {gb : Nat} {over under : ByteArray} {W W' : World} (h : F5 w gb over under W) (hb : Below W.heap.size W W') : F5 w gb over under W' := ⟨h.bl.trans (hb.mono h.bl.size), below_cells hb h.nb⟩
theorem F5.mk0 (w : World) (over under : ByteArray) : F5 w w.heap.size over under (w.alloc (.cells #[.string over, .string under] 94)) := ⟨(Below.refl _ _).alloc (Nat.le_refl _) _, heap_alloc_new w _⟩
theorem fresh_nil (a : Option Addr) (c : Nat) (over under lo hi : ByteArray) (w : World) : Calls Tryz.prog 120 #[.slice a 0 c, .agg #[.string over, .string under], .string lo, .string hi] w (FrAt 0 w) := by
  have hF := F5.mk0 w over under
  go_enter Tryz.func120, Tryz.ntmps120
  go_wp2_with fail
  go_ret
  exact ⟨⟨_, rfl, (by decide)⟩, hF.bl⟩
theorem fresh_step (lo hi : ByteArray) (hlo : lo.size ≤ 1048576) (hhi : hi.size ≤ 1048576) (b off : Nat) (ps : List PairT) (c : Nat) (over under : ByteArray) (w : World) (h : PArg (some ⟨b, off, none⟩) ps w) (hc : ps.length ≤ c) (h0 : 0 < ps.length) (hpl : ps.length ≤ 1000) (hok : ∀ x ∈ ps, x.1.size ≤ 256 ∧ x.2.size ≤ 2000) (ho : over.size ≤ 1048576) (hu : under.size ≤ 1048576)
    (ih : ∀ (a : Option Addr) (qs : List PairT) (c' : Nat) (over under : ByteArray) (w' : World), qs.length < ps.length → (∀ x ∈ qs, x ∈ ps) → qs.length ≤ c' → PArg a qs w' → over.size ≤ 1048576 → under.size ≤ 1048576 → Calls Tryz.prog 120 #[.slice a qs.length c', .agg #[.string over, .string under], .string lo, .string hi] w' (FrAt qs.length w')) :
    Calls Tryz.prog 120 #[.slice (some ⟨b, off, none⟩) ps.length c, .agg #[.string over, .string under], .string lo, .string hi] w (FrAt ps.length w) := by
  have HW : Hid (∀ w', Calls Tryz.prog 106 #[.agg #[.string over, .string under], .string lo, .string hi] w' fun e w'' => e = .returned (.bool (canW over under lo hi)) ∧ Below w'.heap.size w' w'') := fun w' => wants_any over under lo hi w' ho hu hlo hhi
  have hF := F5.mk0 w over under
  cases h2 : canW over under lo hi with
  | false =>
    rw [h2] at HW
    have HR0 := fun w' (hb : Below w.heap.size w w') => rootSpec_any (some ⟨b, off, none⟩) ps c 1 w' (h.below hb) hc
    have hrs2 : (rootS ps 1).size ≤ 1 := by
      unfold rootS
      split
      · have := rootT_size (1 : Int).toNat (by decide) (cutTree ps)
        have e : (1 : Int).toNat = 1 := rfl
        rw [e] at this ⊢
        omega
      · exact Nat.zero_le _
    generalize rootS ps 1 = R at HR0 hrs2
    obtain ⟨n, hn⟩ : ∃ n, ps.length = n := ⟨_, rfl⟩
    rw [hn] at HR0 h0 ⊢
    replace HR0 : Hid _ := HR0
    have z0 : ((n : Int) == 0) = false := by simp; omega
    have z : ¬ (9223372036854775807 < (⟨#[83]⟩ : ByteArray).size + R.size) := by show ¬ _ < 1 + R.size; omega
    have z' : ¬ (9223372036854775807 < 1 + R.size) := by omega
    have HE : Hid (∀ w', Below w.heap.size w w' → FrAt n w (.returned (.string (⟨#[83]⟩ ++ R))) w') := fun w' hb => ⟨⟨_, rfl, (by rw [ByteArray.size_append]; show 1 + R.size ≤ _; omega)⟩, hb⟩
    have h1 := fun j => Lib.cell_of_heap hF.nb j
    have hA := hF.bl
    clear ih hok h hn hF hrs2
    have a0 := h1 0
    have a1 := h1 1
    clear h1
    go_enter Tryz.func120, Tryz.ntmps120
    go_wp2_with (first | (go_at_call 106; refine (HW.out _).mono ?_; rintro e W1 ⟨rfl, hb2⟩; have hb1 := hA.trans (hb2.mono hA.size)) | (go_at_call 29; refine (HR0.out _ hb1).mono ?_; rintro e W2 ⟨rfl, hb3⟩))
    go_ret
    exact HE.out _ (hb1.trans (hb3.mono hb1.size))
  | true =>
    rw [h2] at HW
    have hn := h.le
    have HT := fun w' (hb : Below w.heap.size w w') => top_any (some ⟨b, off, none⟩) ps c w' (h.below hb) h0
    obtain ⟨T, hT⟩ : ∃ T, topTo ps (ps.length - 1) = T := ⟨_, rfl⟩
    have hTl : T < ps.length := by have := topTo_le ps (ps.length - 1); omega
    rw [hT] at HT
    clear hT
    have l1 : (ps.take T).length = T := by rw [List.length_take]; omega
    have l2 : (ps.drop (T + 1)).length = ps.length - (T + 1) := List.length_drop
    have hxm : ps.getD T noPair ∈ ps := by rw [getD_lt _ _ hTl]; exact List.getElem_mem _
    have hx := hok _ hxm
    obtain ⟨b', off', he, hbl, hcs⟩ := h.at_ h0
    obtain ⟨rfl, rfl⟩ : b = b' ∧ off = off' := by simpa using he
    have hcell := hcs T hTl
    have HL := fun w' (hb : Below w.heap.size w w') => ih (some ⟨b, off, none⟩) (ps.take T) c over (ps.getD T noPair).1 w' (by omega) (fun x hx => List.mem_of_mem_take hx) (by omega) ((h.below hb).take T) ho (by omega)
    obtain ⟨A, hA⟩ : ∃ A : Option Addr, (if c = T + 1 then some ⟨b, off, none⟩ else some ⟨b, off + (T + 1) * 2, none⟩) = A := ⟨_, rfl⟩
    have hPA : ∀ w', Below w.heap.size w w' → PArg A (ps.drop (T + 1)) w' := fun w' hb => by
      rw [← hA]
      by_cases e : c = T + 1
      · rw [if_pos e, List.drop_of_length_le (by omega)]; exact PArg.empty _ _
      · rw [if_neg e]; exact (h.below hb).drop (T + 1)
    have HR := fun w' (hb : Below w.heap.size w w') => ih A (ps.drop (T + 1)) (c - (T + 1)) (ps.getD T noPair).1 under w' (by omega) (fun x hx => List.mem_of_mem_drop hx) (by omega) (hPA w' hb) (by omega) hu
    clear hPA
    rw [l1] at HL
    rw [l2] at HR
    obtain ⟨n, hnn⟩ : ∃ n, ps.length = n := ⟨_, rfl⟩
    rw [hnn] at hn hc h0 hTl HT HR hpl ⊢
    clear hok ih hcs he h l1 l2 hxm hnn
    generalize ps.getD T noPair = x at hx hcell HL HR
    obtain ⟨k, v⟩ := x
    dsimp only at hx hcell HL HR
    obtain ⟨n2, hn2⟩ : ∃ n2, n - (T + 1) = n2 := ⟨_, rfl⟩
    rw [hn2] at HR
    replace HL : Hid _ := HL
    replace HR : Hid _ := HR
    replace HT : Hid _ := HT
    have HK : Hid (∀ w', Calls Tryz.prog 90 #[.string k] w' fun e w'' => ∃ t : ByteArray, e = .returned (.string t) ∧ t.size ≤ k.size + 2 ∧ Below w'.heap.size w' w'') := fun w' => (sized_b k (by omega) (by omega) w').mono (fun e w'' ⟨t, h1, h2, _, h4⟩ => ⟨t, h1, h2, h4⟩)
    have HV : Hid (∀ w', Calls Tryz.prog 90 #[.string v] w' fun e w'' => ∃ t : ByteArray, e = .returned (.string t) ∧ t.size ≤ v.size + 2 ∧ Below w'.heap.size w' w'') := fun w' => (sized_b v (by omega) (by omega) w').mono (fun e w'' ⟨t, h1, h2, _, h4⟩ => ⟨t, h1, h2, h4⟩)
    have z0 : ((n : Int) == 0) = false := by simp; omega
    have z1 : (0 : Int) ≤ (T : Int) := Int.natCast_nonneg _
    have z2 : (T : Int) < (n : Int) := by omega
    have z3 : (n : Int) ≤ (c : Int) := by omega
    have z4 : (T : Int) ≤ (c : Int) := by omega
    have HD : Hid (∀ W, Below w.heap.size w W → W.cell? ⟨b, off + T * 2, none⟩ = some (.string k) ∧ W.cell? ⟨b, off + T * 2 + 1, none⟩ = some (.string v)) := fun W hW => ⟨(hW.cell (p := ⟨b, off + T * 2, none⟩) hbl).trans hcell.1, (hW.cell (p := ⟨b, off + T * 2 + 1, none⟩) hbl).trans hcell.2⟩
    clear hcell hbl
    go_enter Tryz.func120, Tryz.ntmps120
    go_upto_region 3 with fail
    generalize (w.alloc (.cells #[.string over, .string under] 94)) = W at hF ⊢
    obtain ⟨gb, hgb⟩ : ∃ x, w.heap.size = x := ⟨_, rfl⟩
    rw [show F5 w w.heap.size = F5 w gb by rw [hgb]] at hF
    rw [hgb]
    clear hgb
    have b0 := Lib.cell_of_heap hF.nb 0
    have b1 := Lib.cell_of_heap hF.nb 1
    go_upto_region 6 with (first | (go_at_call 106; refine (HW.out _).mono ?_; rintro e W1 ⟨rfl, hb2⟩; have hF1 := hF.below hb2; clear hb2 b0 b1) | (go_at_call 126; refine (HT.out _ hF1.bl).mono ?_; rintro e W2 ⟨rfl, hb3⟩; have hF2 := hF1.below hb3; clear hb3; have hd := (HD.out _ hF2.bl).1))
    go_upto_region 7 with fail
    clear hd
    have hdr : Below W2.heap.size W2 W2.drew := (Below.refl _ _).drew
    go_region_held3 (fun W => W.cell? ⟨b, off + T * 2 + 1, none⟩ = some (.string v)) (first | exact (HD.out _ (hF2.below hdr).bl).2 | exact (HD.out _ hF2.bl).2 | exact (HD.out _ hF4.bl).2 | exact (HD.out _ hF5.bl).2) (first | (go_at_call_of 90 (Value.string k); refine (HK.out _).mono ?_; rintro e W4 ⟨tk, rfl, hk2, hb4⟩; have hF4 := (hF2.below hdr).below hb4; have z5 : ¬ (9223372036854775807 < (⟨#[70]⟩ : ByteArray).size + tk.size) := (by show ¬ _ < 1 + tk.size; omega); have z6 : ¬ (9223372036854775807 < 1 + tk.size) := (by omega)) | (go_at_call_of 90 (Value.string v); refine (HV.out _).mono ?_; rintro e W5 ⟨tv, rfl, hv2, hb5⟩; have hF5 := hF4.below hb5; have z7 : ¬ (9223372036854775807 < ((⟨#[70]⟩ : ByteArray) ++ tk).size + tv.size) := (by rw [ByteArray.size_append]; show ¬ _ < 1 + tk.size + tv.size; omega); have z8 : ¬ (9223372036854775807 < 1 + tk.size + tv.size) := (by omega)))
    obtain ⟨s1, hs1⟩ : ∃ s1, (⟨#[70]⟩ : ByteArray) ++ tk ++ tv = s1 := ⟨_, rfl⟩
    rw [hs1]
    have hs1s : s1.size ≤ 2261 := by rw [← hs1, ByteArray.size_append, ByteArray.size_append]; show 1 + tk.size + tv.size ≤ _; omega
    clear z5 z6 z7 z8 hs1 hk2 hv2 hb4 hb5 hdr HK HV HW HT hF hF1 hF2 hF4
    have b0 := Lib.cell_of_heap hF5.nb 0
    have hdr5 : Below W5.heap.size W5 W5.drew := (Below.refl _ _).drew
    have hD5 := hF5.below hdr5
    go_upto_region 8 with fail
    go_region_held3 (fun W => W.cell? ⟨gb, 0, none⟩ = some (.string over)) (first | exact b0 | exact Lib.cell_of_heap hD5.nb 0 | exact Lib.cell_of_heap hF6.nb 0) (first | (go_at_call 120; refine (HL.out _ (hD5.bl)).mono ?_; rintro e W6 ⟨⟨tl, rfl, htl⟩, hb6⟩; have hF6 := hD5.below hb6; have z5 : ¬ (9223372036854775807 < s1.size + tl.size) := (by omega)))
    obtain ⟨s2, hs2⟩ : ∃ s2, s1 ++ tl = s2 := ⟨_, rfl⟩
    rw [hs2]
    have hs2s : s2.size ≤ 2261 + (2400 * T + 40) := by rw [← hs2, ByteArray.size_append]; omega
    clear z5 hs2 htl hs1s hb6 b0 hdr5 hD5 hF5 HL
    have b1 := Lib.cell_of_heap hF6.nb 1
    have hdr6 : Below W6.heap.size W6 W6.drew := (Below.refl _ _).drew
    have hD6 := hF6.below hdr6
    have z8 : (0 : Int) ≤ (T : Int) + 1 := by omega
    have z9 : (T : Int) + 1 ≤ (n : Int) := by omega
    have z6 : IntKind.i64.wrap ((T : Int) + 1) = (T : Int) + 1 := wrap_i64_in _ (by omega) (by omega)
    go_upto_region 9 with fail
    go_region_held3 (fun W => W.cell? ⟨gb, 1, none⟩ = some (.string under)) (first | exact b1 | exact Lib.cell_of_heap hD6.nb 1 | exact Lib.cell_of_heap hF7.nb 1) (first | (go_at_call 120; refine (HR.out _ (hD6.bl)).mono ?_; rintro e W7 ⟨⟨tr, rfl, htr⟩, hb7⟩; have hF7 := hD6.below hb7; have z5 : ¬ (9223372036854775807 < s2.size + tr.size) := (by omega)))
    have hfin : (s2 ++ tr).size ≤ 2400 * n + 40 := by rw [ByteArray.size_append]; omega
    have hbl := hF7.bl
    clear z6
    go_wp2_with fail
    go_ret
    exact ⟨⟨_, rfl, hfin⟩, hbl⟩
theorem fresh_all (lo hi : ByteArray) (hlo : lo.size ≤ 1048576) (hhi : hi.size ≤ 1048576) (n : Nat) : ∀ (a : Option Addr) (ps : List PairT) (c : Nat) (over under : ByteArray) (w : World), ps.length ≤ n → ps.length ≤ 1000 → ps.length ≤ c → PArg a ps w → (∀ x ∈ ps, x.1.size ≤ 256 ∧ x.2.size ≤ 2000) → over.size ≤ 1048576 → under.size ≤ 1048576 → Calls Tryz.prog 120 #[.slice a ps.length c, .agg #[.string over, .string under], .string lo, .string hi] w (FrAt ps.length w) := by
  induction n with
  | zero =>
    intro a ps c over under w hn _ _ _ _ _ _
    obtain rfl : ps = [] := List.length_eq_zero_iff.1 (by omega)
    exact fresh_nil a c over under lo hi w
  | succ n ih =>
    intro a ps c over under w hn hk hc h hok ho hu
    by_cases h0 : 0 < ps.length
    · obtain ⟨b, off, rfl, _, _⟩ := h.at_ h0
      exact fresh_step lo hi hlo hhi b off ps c over under w h hc h0 hk hok ho hu (fun a qs c' over under w' hl hs hc' hP ho' hu' => ih a qs c' over under w' (by omega) (by omega) hc' hP (fun x hx => hok x (hs x hx)) ho' hu')
    · obtain rfl : ps = [] := List.length_eq_zero_iff.1 (by omega)
      exact fresh_nil a c over under lo hi w
theorem fresh_any (a : Option Addr) (ps : List PairT) (c : Nat) (lo hi : ByteArray) (w : World) (hlo : lo.size ≤ 1048576) (hhi : hi.size ≤ 1048576) (hk : ps.length ≤ 1000) (hc : ps.length ≤ c) (h : PArg a ps w) (hok : ∀ x ∈ ps, x.1.size ≤ 256 ∧ x.2.size ≤ 2000) : Calls Tryz.prog 62 #[.slice a ps.length c, .string lo, .string hi] w (FrAt ps.length w) := by
  have HF : Hid (∀ w', Below w.heap.size w w' → Calls Tryz.prog 120 #[.slice a ps.length c, .agg #[.string ⟨#[]⟩, .string ⟨#[]⟩], .string lo, .string hi] w' (FrAt ps.length w')) := fun w' hb => fresh_all lo hi hlo hhi ps.length a ps c ⟨#[]⟩ ⟨#[]⟩ w' (Nat.le_refl _) hk hc (h.below hb) hok (Nat.zero_le _) (Nat.zero_le _)
  generalize ps.length = n at HF hk hc ⊢
  clear h hok
  go_enter Tryz.func62, Tryz.ntmps62
  go_wp2_with (first | (go_at_call 120; refine (HF.out _ (Below.refl _ _)).mono ?_; rintro e W7 ⟨⟨t, rfl, ht⟩, hb7⟩))
  go_ret
  exact ⟨⟨_, rfl, ht⟩, hb7⟩
/-- The proof of a subtree, as bytes. -/
def prL (fnd : ByteArray → FN) (lo hi : ByteArray) : Nat → ByteArray → ByteArray → ByteArray → List UInt8
  | 0, _, _, _ => []
  | f + 1, hash, over, under =>
    if emp hash = true then [69] else
    if canW over under lo hi = false then 83 :: hash.data.toList else
    (70 :: (sized (fnd hash).1.1.data.toList ++ sized (fnd hash).1.2.1.data.toList)) ++ (prL fnd lo hi f (fnd hash).1.2.2.1 over (fnd hash).1.1 ++ prL fnd lo hi f (fnd hash).1.2.2.2 (fnd hash).1.1 under)
theorem prL_e {fnd : ByteArray → FN} {lo hi : ByteArray} {f : Nat} {hash over under : ByteArray} (h : emp hash = true) : prL fnd lo hi (f + 1) hash over under = [69] := by rw [prL, if_pos h]
theorem prL_s {fnd : ByteArray → FN} {lo hi : ByteArray} {f : Nat} {hash over under : ByteArray} (h : emp hash = false) (h2 : canW over under lo hi = false) : prL fnd lo hi (f + 1) hash over under = 83 :: hash.data.toList := by rw [prL, if_neg (by rw [h]; decide), if_pos h2]
theorem prL_f {fnd : ByteArray → FN} {lo hi : ByteArray} {f : Nat} {hash over under : ByteArray} (h : emp hash = false) (h2 : canW over under lo hi = true) : prL fnd lo hi (f + 1) hash over under = (70 :: (sized (fnd hash).1.1.data.toList ++ sized (fnd hash).1.2.1.data.toList)) ++ (prL fnd lo hi f (fnd hash).1.2.2.1 over (fnd hash).1.1 ++ prL fnd lo hi f (fnd hash).1.2.2.2 (fnd hash).1.1 under) := by rw [prL, if_neg (by rw [h]; decide), if_neg (by rw [h2]; decide)]
theorem sized_len (l : List UInt8) : (sized l).length = l.length + 2 := rfl
/-- How long it is at most. -/
theorem prL_len {fnd : ByteArray → FN} {lo hi : ByteArray} {wd : Nat} (hfo : FndOk wd fnd) (hwd : wd ≤ 32) : ∀ (f : Nat) (hash over under par : ByteArray) (cnt : Nat), cnt ≤ 500 → (hash.size = 0 ∨ hash.size = wd) → (goF fnd hgW lo hi f hash over under par cnt).1 = 0 → (prL fnd lo hi f hash over under).length + 2400 * cnt ≤ 2400 * (goF fnd hgW lo hi f hash over under par cnt).2.1 + 40
  | 0, _, _, _, _, _, _, _, h => by rw [goF] at h; exact absurd h (by decide)
  | f + 1, hash, over, under, par, cnt, hc, hs, h => by
    cases h1 : emp hash with
    | true => rw [prL_e h1, goF_skip (by rw [h1]; rfl)]; simp only [List.length_singleton]; omega
    | false =>
      cases h2 : canW over under lo hi with
      | false =>
        rw [prL_s h1 h2, goF_skip (by rw [h2]; simp), List.length_cons]
        have : hash.data.toList.length = hash.size := rfl
        simp only
        omega
      | true =>
        have hsk : (emp hash || !canW over under lo hi) = false := by rw [h1, h2]; rfl
        by_cases hC : codeF fnd hash over under par (cnt + 1) = 0
        · obtain ⟨hz, hfit, hc5⟩ := codeF_zero hC
          obtain ⟨okk, okv, okl, okr⟩ := hfo.node hash hz
          have hfe : fnd hash = (((fnd hash).1.1, (fnd hash).1.2.1, (fnd hash).1.2.2.1, (fnd hash).1.2.2.2), 0) := by rw [← hz]
          obtain ⟨LR, hLR⟩ : ∃ LR, goF fnd hgW lo hi f (fnd hash).1.2.2.1 over (fnd hash).1.1 (fnd hash).1.1 (cnt + 1) = LR := ⟨_, rfl⟩
          obtain ⟨RR, hRR⟩ : ∃ RR, goF fnd hgW lo hi f (fnd hash).1.2.2.2 (fnd hash).1.1 under (fnd hash).1.1 LR.2.1 = RR := ⟨_, rfl⟩
          rw [goF_node hsk hfe hfit hc5 hLR hRR] at h ⊢
          by_cases hl0 : LR.1 = 0
          · rw [if_neg (fun h => h hl0)] at h ⊢
            by_cases hr0 : RR.1 = 0
            · rw [if_neg (fun h => h hr0)] at h ⊢
              have q := goF_cnt f (fnd hash).1.2.2.1 over (fnd hash).1.1 (fnd hash).1.1 (cnt + 1) hc5 (by rw [hLR]; exact hl0)
              rw [hLR] at q
              have il := prL_len hfo hwd f _ _ _ _ _ hc5 okl (by rw [hLR]; exact hl0)
              have ir := prL_len hfo hwd f _ _ _ _ _ q.2 okr (by rw [hRR]; exact hr0)
              rw [hLR] at il
              rw [hRR] at ir
              rw [prL_f h1 h2]
              simp only [List.length_append, List.length_cons, sized_len]
              have e1 : (fnd hash).1.1.data.toList.length = (fnd hash).1.1.size := rfl
              have e2 : (fnd hash).1.2.1.data.toList.length = (fnd hash).1.2.1.size := rfl
              unfold okKey at okk
              unfold okVal at okv
              have okk := of_decide_eq_true okk
              have okv := of_decide_eq_true okv
              omega
            · rw [if_pos hr0] at h; exact absurd h hr0
          · rw [if_pos hl0] at h; exact absurd h hl0
        · rw [goF_code hsk hC] at h; exact absurd h hC
section
variable {base : Nat} {N N' : Nat → Prop} {w w' w1 w2 : World}
end
/-- The two function values. -/
abbrev into5 (gb c : Nat) : Value := .func (.func 108) #[] #[.pointer (some ⟨gb, 0, none⟩), .pointer (some ⟨c, 0, none⟩)]
abbrev at5 (c : Nat) : Value := .func (.func 112) #[] #[.pointer (some ⟨c, 0, none⟩)]
section
variable {wg : World} {B0 base lb c gb xl xa : Nat} {lo hi : ByteArray} {w w' : World} {N : Nat → Prop}
end
section
variable {wg : World} {B0 base lb sb c gb xl xa : Nat} {lo hi : ByteArray} {b : Nat} {w0 w w' : World} {cnt : Nat} {L : List UInt8} {hash over under : ByteArray} {par : Option Addr} {k v l r : ByteArray} {pl pr : Option Addr} {gl gr : Nat}
end
/-- A proof out of a pool: its text, the code. -/
def proveX (fnd : ByteArray → FN) (wd : Nat) (root lo hi : ByteArray) : ByteArray × Int :=
  if hashOk root.size (wd : Int) = true then
    if (goF fnd hgW lo hi 501 root ⟨#[]⟩ ⟨#[]⟩ ⟨#[]⟩ 0).1 = 0 then (⟨(prL fnd lo hi 501 root ⟨#[]⟩ ⟨#[]⟩).toArray⟩, 0) else (⟨#[]⟩, (goF fnd hgW lo hi 501 root ⟨#[]⟩ ⟨#[]⟩ ⟨#[]⟩ 0).1)
  else (⟨#[]⟩, 1)
/-- The whole function's answer. -/
def proveM (fnd : ByteArray → FN) (n : Int) (m : Nat) (root lo hi : ByteArray) : ByteArray × Int :=
  if poolOk n m = true then proveX fnd n.toNat root lo hi else (⟨#[]⟩, 1)
end Go.Proofs.YtibjhkpgaaapaaaGreatDoor
