import Derived.Test.YtmoajibmbppkjaeGreatDoorZak
import Derived.Test.YtmoajibmbppkjaeGreatDoorZad
import Derived.Test.YtmoajibmbppkjaeGreatDoorProg
import Derived.Test.YtmoajibmbppkjaeGreatDoorZaa
import Derived.Test.YtmoajibmbppkjaeGreatDoorZac
import Derived.WalkSpells
import Derived.WalkLawsBesides
import Derived.StillTactics
import Derived.Laws.Pointers
import Derived.Deep.RegionHeld3
namespace Go.Proofs.YtmoajibmbppkjaeGreatDoor
open Go.RowKit Go.Proofs.Sha

abbrev FN := (ByteArray × ByteArray × ByteArray × ByteArray) × Int
/-- What a look-up may answer. -/
structure FndOk (wd : Nat) (fnd : ByteArray → FN) : Prop where
  code : ∀ h, (fnd h).2 = 0 ∨ (fnd h).2 = 2 ∨ (fnd h).2 = 3
  node : ∀ h, (fnd h).2 = 0 → okKey (fnd h).1.1 = true ∧ okVal (fnd h).1.2.1 = true ∧ ((fnd h).1.2.2.1.size = 0 ∨ (fnd h).1.2.2.1.size = wd) ∧ ((fnd h).1.2.2.2.size = 0 ∨ (fnd h).1.2.2.2.size = wd)
def lessB (a b : ByteArray) : Bool := Op.bytesLess a.toList b.toList
def emp (a : ByteArray) : Bool := decide (a.size = 0)
/-- A subtree between two keys can have a key within the bounds. -/
def canW (over under lo hi : ByteArray) : Bool := (emp hi || (lessB lo hi && lessB over hi)) && (emp under || lessB lo under)
/-- A key stands between two keys. -/
def insW (over under k : ByteArray) : Bool := lessB over k && (emp under || lessB k under)
/-- A key is within the bounds. -/
def hasW (lo hi k : ByteArray) : Bool := !lessB k lo && (emp hi || lessB k hi)
/-- One key stands above another, by the order 'hi'; none is above where there is no first one. -/
def parW (hg : ByteArray → ByteArray → Bool) (par k : ByteArray) : Bool := emp par || hg par k
/-- A walk over a subtree: the code, how many nodes, the pairs. -/
def goF (fnd : ByteArray → FN) (hg : ByteArray → ByteArray → Bool) (lo hi : ByteArray) : Nat → ByteArray → ByteArray → ByteArray → ByteArray → Nat → Int × Nat × List PairT
  | 0, _, _, _, _, _ => (9, 0, [])
  | f + 1, hash, over, under, par, cnt =>
    if (emp hash || !canW over under lo hi) = true then (0, cnt, []) else
    if (fnd hash).2 = 2 then (2, 0, []) else
    if (fnd hash).2 ≠ 0 then (3, 0, []) else
    if (insW over under (fnd hash).1.1 && parW hg par (fnd hash).1.1) = false then (3, 0, []) else
    if 500 < cnt + 1 then (6, 0, []) else
    if (goF fnd hg lo hi f (fnd hash).1.2.2.1 over (fnd hash).1.1 (fnd hash).1.1 (cnt + 1)).1 ≠ 0 then ((goF fnd hg lo hi f (fnd hash).1.2.2.1 over (fnd hash).1.1 (fnd hash).1.1 (cnt + 1)).1, 0, []) else
    if (goF fnd hg lo hi f (fnd hash).1.2.2.2 (fnd hash).1.1 under (fnd hash).1.1 (goF fnd hg lo hi f (fnd hash).1.2.2.1 over (fnd hash).1.1 (fnd hash).1.1 (cnt + 1)).2.1).1 ≠ 0 then ((goF fnd hg lo hi f (fnd hash).1.2.2.2 (fnd hash).1.1 under (fnd hash).1.1 (goF fnd hg lo hi f (fnd hash).1.2.2.1 over (fnd hash).1.1 (fnd hash).1.1 (cnt + 1)).2.1).1, 0, []) else
    (0, (goF fnd hg lo hi f (fnd hash).1.2.2.2 (fnd hash).1.1 under (fnd hash).1.1 (goF fnd hg lo hi f (fnd hash).1.2.2.1 over (fnd hash).1.1 (fnd hash).1.1 (cnt + 1)).2.1).2.1,
      (goF fnd hg lo hi f (fnd hash).1.2.2.1 over (fnd hash).1.1 (fnd hash).1.1 (cnt + 1)).2.2 ++ (if hasW lo hi (fnd hash).1.1 = true then [((fnd hash).1.1, (fnd hash).1.2.1)] else []) ++
      (goF fnd hg lo hi f (fnd hash).1.2.2.2 (fnd hash).1.1 under (fnd hash).1.1 (goF fnd hg lo hi f (fnd hash).1.2.2.1 over (fnd hash).1.1 (fnd hash).1.1 (cnt + 1)).2.1).2.2)
section
variable {fnd : ByteArray → FN} {hg : ByteArray → ByteArray → Bool} {lo hi : ByteArray}
theorem goF_skip {f : Nat} {hash over under par : ByteArray} {cnt : Nat} (h : (emp hash || !canW over under lo hi) = true) : goF fnd hg lo hi (f + 1) hash over under par cnt = (0, cnt, []) := by rw [goF, if_pos h]
theorem goF_missing {f : Nat} {hash over under par : ByteArray} {cnt : Nat} (h : (emp hash || !canW over under lo hi) = false) (h2 : (fnd hash).2 = 2) : goF fnd hg lo hi (f + 1) hash over under par cnt = (2, 0, []) := by rw [goF, if_neg (by rw [h]; decide), if_pos h2]
theorem goF_corrupt {f : Nat} {hash over under par : ByteArray} {cnt : Nat} (h : (emp hash || !canW over under lo hi) = false) (h2 : (fnd hash).2 = 3) : goF fnd hg lo hi (f + 1) hash over under par cnt = (3, 0, []) := by rw [goF, if_neg (by rw [h]; decide), if_neg (by rw [h2]; decide), if_pos (by rw [h2]; decide)]
theorem goF_place {f : Nat} {hash over under par : ByteArray} {cnt : Nat} (h : (emp hash || !canW over under lo hi) = false) (h2 : (fnd hash).2 = 0) (h3 : (insW over under (fnd hash).1.1 && parW hg par (fnd hash).1.1) = false) : goF fnd hg lo hi (f + 1) hash over under par cnt = (3, 0, []) := by
  rw [goF, if_neg (by rw [h]; decide), if_neg (by rw [h2]; decide), if_neg (by rw [h2]; decide), if_pos h3]
theorem goF_many {f : Nat} {hash over under par : ByteArray} {cnt : Nat} (h : (emp hash || !canW over under lo hi) = false) (h2 : (fnd hash).2 = 0) (h3 : (insW over under (fnd hash).1.1 && parW hg par (fnd hash).1.1) = true) (h4 : 500 < cnt + 1) : goF fnd hg lo hi (f + 1) hash over under par cnt = (6, 0, []) := by
  rw [goF, if_neg (by rw [h]; decide), if_neg (by rw [h2]; decide), if_neg (by rw [h2]; decide), if_neg (by rw [h3]; decide), if_pos h4]
/-- The node is gone into: what its two subtrees say. -/
theorem goF_node {f : Nat} {hash over under par : ByteArray} {cnt : Nat} {k v l r : ByteArray} (h : (emp hash || !canW over under lo hi) = false) (h2 : fnd hash = ((k, v, l, r), 0)) (h3 : (insW over under k && parW hg par k) = true) (h4 : cnt + 1 ≤ 500)
    {L R : Int × Nat × List PairT} (hL : goF fnd hg lo hi f l over k k (cnt + 1) = L) (hR : goF fnd hg lo hi f r k under k L.2.1 = R) :
    goF fnd hg lo hi (f + 1) hash over under par cnt = if L.1 ≠ 0 then (L.1, 0, []) else if R.1 ≠ 0 then (R.1, 0, []) else (0, R.2.1, L.2.2 ++ (if hasW lo hi k = true then [(k, v)] else []) ++ R.2.2) := by
  rw [goF, h2]
  simp only [hL, hR]
  rw [if_neg (by rw [h]; decide), if_neg (by decide), if_neg (by simp), if_neg (by rw [h3]; decide), if_neg (by omega)]
theorem goF_cnt : ∀ (f : Nat) (hash over under par : ByteArray) (cnt : Nat), cnt ≤ 500 → (goF fnd hg lo hi f hash over under par cnt).1 = 0 → cnt ≤ (goF fnd hg lo hi f hash over under par cnt).2.1 ∧ (goF fnd hg lo hi f hash over under par cnt).2.1 ≤ 500
  | 0, _, _, _, _, _, _, h => by rw [goF] at h; exact absurd h (by decide)
  | f + 1, hash, over, under, par, cnt, hc, h => by
    cases h1 : (emp hash || !canW over under lo hi) with
    | true => rw [goF_skip h1] at h ⊢; exact ⟨Nat.le_refl _, hc⟩
    | false =>
      by_cases h2 : (fnd hash).2 = 2
      · rw [goF_missing h1 h2] at h; exact absurd h (by decide)
      · by_cases h20 : (fnd hash).2 = 0
        · cases h3 : (insW over under (fnd hash).1.1 && parW hg par (fnd hash).1.1) with
          | false => rw [goF_place h1 h20 h3] at h; exact absurd h (by decide)
          | true =>
            by_cases h4 : 500 < cnt + 1
            · rw [goF_many h1 h20 h3 h4] at h; exact absurd h (by decide)
            · have e : fnd hash = (((fnd hash).1.1, (fnd hash).1.2.1, (fnd hash).1.2.2.1, (fnd hash).1.2.2.2), 0) := by rw [← h20]
              rw [goF_node h1 e h3 (by omega) rfl rfl] at h ⊢
              have il := goF_cnt f (fnd hash).1.2.2.1 over (fnd hash).1.1 (fnd hash).1.1 (cnt + 1) (by omega)
              split at h
              · rename_i q; exact absurd h q
              · rename_i q
                have il := il (by simpa using q)
                split at h
                · rename_i q2; exact absurd h q2
                · rename_i q2
                  have ir := goF_cnt f (fnd hash).1.2.2.2 (fnd hash).1.1 under (fnd hash).1.1 _ il.2 (by simpa using q2)
                  rw [if_neg q, if_neg q2]
                  exact ⟨Nat.le_trans (Nat.le_trans (Nat.le_succ _) il.1) ir.1, ir.2⟩
        · rw [goF, if_neg (by rw [h1]; decide), if_neg h2, if_pos h20] at h; exact absurd h (by decide)
end
end Go.Proofs.YtmoajibmbppkjaeGreatDoor
namespace Go.Proofs.YtmoajibmbppkjaeGreatDoor
open Go.RowKit Go.Proofs.Sha

theorem info5 : (Tryz.prog.info? 5).map (fun i => (i.zero, i.size, i.bytes)) = some (some (.int .u8 0), 1, 1) := by kernel_rfl

set_option maxRecDepth 100000 in
set_option maxHeartbeats 400000 in
theorem padded_any (s : ByteArray) (w : World) (hs : s.size ≤ 1048576) :
    Calls Tryz.prog 131 #[.string s] w fun e w' => ∃ g cap, e = .returned (.slice (some ⟨g, 0, none⟩) (pad s.data.toList).length cap) ∧ Row w' w.heap.size g (pad s.data.toList).length cap ((pad s.data.toList).map B) ∧ Below w.heap.size w w' := by
  obtain ⟨i0, hi0, hz0, hz1, hz2⟩ := info_parts info5
  have hl : s.data.toList.length = s.size := rfl
  go_enter Tryz.func131, Tryz.ntmps131
  go_wp2_with (first | (refine wpList_bytes_row _ rfl (.tmp 6) 9 36 5 rfl s rfl Tryz.underlying9 Tryz.underlying36 Tryz.underlying5 ?_; intro g0 cap0 w0 hrow0 hbel0) | (at_builtin; refine wpList_append_row _ rfl (.tmp 8) (.tmp 9) 36 rfl 5 i0 (.int .u8 0) 1 Tryz.underlying36 hi0 hz0 hz1 hz2 rfl w.heap.size g0 s.size cap0 _ rfl (hrow0.alloc _) ⟨w0.heap.size, 0, none⟩ 1 1 [.int .u8 128] rfl rfl (World.news_of_block (heap_alloc_new w0 _)) (by simp [Value.oneCell']) (by unfold maxLen; omega) (by omega) (by have := hbel0.size; simp; omega) (w0.heap.size + 1) (by simp) ?_; intro g1 cap1 w1 hrow1 hgrow1 _ _))
  have hbel1 : Below w.heap.size w w1 := (hbel0.alloc hbel0.size _).grown hgrow1 (by have := hbel0.size; simp; omega) (fun q hq => by cases hq; exact hrow0.ge)
  have hrow1' : Row w1 w.heap.size g1 (s.size + 1 + 0) cap1 ((s.data.toList ++ [128] ++ List.replicate 0 0).map B) := by simpa [B] using hrow1
  clear hgrow1 hrow1 hrow0 hbel0
  go_loopw [3] (fun v wr => ∃ j g cap : Nat, j ≤ zpad s.size ∧ v = .slice (some ⟨g, 0, none⟩) (s.size + 1 + j) cap ∧ Row wr w.heap.size g (s.size + 1 + j) cap ((s.data.toList ++ [128] ++ List.replicate j 0).map B) ∧ Below w.heap.size w wr) (fun v _ => zpad s.size + s.size + 1 - lenOf v)
  case atStart => exact ⟨0, g1, cap1, Nat.zero_le _, rfl, hrow1', hbel1⟩
  case round =>
    clear hrow1' hbel1
    obtain ⟨j, g, cap, hj, rfl, hrow, hbel⟩ := hrel
    have hsz := hbel.size
    have hge := hrow.ge
    have hz := zpad_lt s.size
    by_cases hlt : j < zpad s.size
    · have hm := zpad_ne s.size j hlt
      go_wp2_with (at_builtin; refine wpList_append_row _ rfl (.tmp 15) (.tmp 16) 36 rfl 5 i0 (.int .u8 0) 1 Tryz.underlying36 hi0 hz0 hz1 hz2 rfl w.heap.size g (s.size + 1 + j) cap _ rfl (hrow.alloc _) ⟨wr.heap.size, 0, none⟩ 1 1 [.int .u8 0] rfl rfl (World.news_of_block (heap_alloc_new wr _)) (by simp [Value.oneCell']) (by unfold maxLen; omega) (by omega) (by simp; omega) (wr.heap.size + 1) (by simp) ?_; intro g2 cap2 w2 hrow2 hgrow2 _ _)
      go_roundw
      case rel =>
        have e : (s.data.toList ++ [128] ++ List.replicate j 0).map B ++ [.int .u8 0] = (s.data.toList ++ [128] ++ List.replicate (j + 1) 0).map B := by
          rw [List.replicate_succ', ← List.append_assoc, List.map_append (l₂ := [0])]; rfl
        rw [e] at hrow2
        exact ⟨j + 1, g2, cap2, by omega, rfl, hrow2, (hbel.alloc hsz _).grown hgrow2 (by simp; omega) (fun q hq => by cases hq; exact hge)⟩
      case measure => simp [lenOf]; omega
    · obtain rfl : j = zpad s.size := by omega
      have hm := zpad_eq s.size
      have hm' : ((((s.size : Int) + 1 + ((zpad s.size : Nat) : Int)) % 64) != 56) = false := by
        rw [bne_eq_false_iff_eq]; omega
      go_wp2_with fail
      try rw [hm']
      go_loopw [3, 5] (fun v i wr => ∃ k g cap : Nat, k ≤ 8 ∧ i = .int .i64 (7 - (k : Int)) ∧ v = .slice (some ⟨g, 0, none⟩) (s.size + 1 + zpad s.size + k) cap ∧ Row wr w.heap.size g (s.size + 1 + zpad s.size + k) cap ((s.data.toList ++ [128] ++ List.replicate (zpad s.size) 0 ++ beTo (8 * s.size) k).map B) ∧ Below w.heap.size w wr) (fun v _ _ => zpad s.size + s.size + 9 - lenOf v)
      case atStart => exact ⟨0, g, cap, by omega, rfl, rfl, by simpa [beTo] using hrow, hbel⟩
      case round =>
        clear hrow hbel hge hsz
        obtain ⟨k, g, cap, hk, rfl, rfl, hrow, hbel⟩ := hrel
        have hsz := hbel.size
        have hge := hrow.ge
        by_cases hlt2 : k < 8
        · go_wp2_with (at_builtin; refine wpList_append_row _ rfl (.tmp 26) (.tmp 33) 36 rfl 5 i0 (.int .u8 0) 1 Tryz.underlying36 hi0 hz0 hz1 hz2 rfl w.heap.size g (s.size + 1 + zpad s.size + k) cap _ rfl (hrow.alloc _) ⟨wr.heap.size, 0, none⟩ 1 1 [_] rfl rfl (World.news_of_block (heap_alloc_new wr _)) (by simp [Value.oneCell']) (by unfold maxLen; omega) (by omega) (by simp; omega) (wr.heap.size + 1) (by simp) ?_; intro g2 cap2 w2 hrow2 hgrow2 _ _)
          go_roundw
          case rel =>
            rw [lenByte_form] at hrow2
            have e : (s.data.toList ++ [128] ++ List.replicate (zpad s.size) 0 ++ beTo (8 * s.size) k).map B ++ [.int .u8 ((lenByte (8 * s.size) (7 - k)).toNat : Int)] = (s.data.toList ++ [128] ++ List.replicate (zpad s.size) 0 ++ beTo (8 * s.size) (k + 1)).map B := by
              rw [beTo_succ, ← List.append_assoc, List.map_append (l₂ := [lenByte (8 * s.size) (7 - k)])]; rfl
            rw [e] at hrow2
            exact ⟨k + 1, g2, cap2, by omega, by go_num, rfl, hrow2, (hbel.alloc hsz _).grown hgrow2 (by simp; omega) (fun q hq => by cases hq; exact hge)⟩
          case measure => simp [lenOf]; omega
        · obtain rfl : k = 8 := by omega
          go_wp2
          go_ret
          have e : pad s.data.toList = s.data.toList ++ [128] ++ List.replicate (zpad s.size) 0 ++ beTo (8 * s.size) 8 := by rw [pad, hl]
          have e2 : (pad s.data.toList).length = s.size + 1 + zpad s.size + 8 := by rw [pad_length, hl]; omega
          rw [e2, e]
          exact ⟨g, cap, rfl, hrow, hbel⟩
end Go.Proofs.YtmoajibmbppkjaeGreatDoor
