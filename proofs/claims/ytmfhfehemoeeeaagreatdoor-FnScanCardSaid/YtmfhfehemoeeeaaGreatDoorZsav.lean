import Derived.Test.YtmfhfehemoeeeaaGreatDoorZsaf
import Derived.Test.YtmfhfehemoeeeaaGreatDoorProg
import Derived.Test.YtmfhfehemoeeeaaGreatDoorZsaa
import Derived.Test.YtmfhfehemoeeeaaGreatDoorZsab
import Derived.WalkSpells
import Derived.WalkLawsBesides
import Derived.StillTactics
import Derived.Laws.Pointers
import Derived.Deep.RegionHeld3
import Derived.Deep.AppendLies
import Derived.WalkKit
set_option maxRecDepth 100000
set_option maxHeartbeats 1000000
namespace Go.Proofs.YtmfhfehemoeeeaaGreatDoor
open Go.RowKit Go.Proofs.Sha

/-- A slice of bytes that was handed in, and what it holds. -/
structure BL (a : Option Addr) (xs : List Nat) (w : World) : Prop where
  at_ : 0 < xs.length → ∃ b off : Nat, a = some ⟨b, off, none⟩ ∧ b < w.heap.size ∧ ∀ j, j < xs.length → w.cell? ⟨b, off + j, none⟩ = some (.int .u8 ((xs.getD j 0 : Nat) : Int))
theorem BL.below {a : Option Addr} {xs : List Nat} {w w' : World} (h : BL a xs w) (hb : Below w.heap.size w w') : BL a xs w' := by
  refine ⟨fun hn => ?_⟩
  obtain ⟨b, off, ha, hlt, hc⟩ := h.at_ hn
  exact ⟨b, off, ha, Nat.lt_of_lt_of_le hlt hb.size, fun j hj => (hb.cell hlt).trans (hc j hj)⟩
/-- The bytes of a code. -/
structure Code8 (xs : List Nat) : Prop where
  le : xs.length ≤ 1048576
  lt : ∀ j, xs.getD j 0 < 256

theorem i64_xor_nat (a b : Nat) (ha : a < 4294967296) (hb : b < 4294967296) : bits .xor .i64 (a : Int) (b : Int) = ((a ^^^ b : Nat) : Int) := by
  have hx : a ^^^ b < 2 ^ 32 := Nat.xor_lt_two_pow (by omega) (by omega)
  show IntKind.i64.wrap ((BitVec.ofInt 64 (a : Int) ^^^ BitVec.ofInt 64 (b : Int)).toNat : Int) = _
  rw [BitVec.toNat_xor, ofInt_u64 a (by omega), ofInt_u64 b (by omega)]
  exact wrap_i64_in _ (by omega) (by omega)

theorem take_det (a : Option Addr) (xs : List Nat) (cap : Nat) (p m : Nat) (hX : Code8 xs) (hp : p ≤ 100000) (hm1 : 1 ≤ m) (hm : m ≤ 100000) :
    ∃ x : Nat, x < m ∧ ∀ w, BL a xs w → Calls Tryz.prog 14 #[.slice a xs.length cap, .int .i64 (p : Int), .int .i64 (m : Int)] w fun e w' => e = .returned (.tuple #[.int .i64 (x : Int), .int .i64 ((p + 1 : Nat) : Int)]) ∧ Below w.heap.size w w' := by
  have z0 : decide ((m : Int) < 1) = false := by simp; omega
  have hn := hX.le
  have y1 : IntKind.i64.wrap ((p : Int) + 1) = ((p + 1 : Nat) : Int) := by rw [wrap_i64_in _ (by omega) (by omega)]; omega
  obtain ⟨n, hnn⟩ : ∃ n, xs.length = n := ⟨_, rfl⟩
  rw [hnn] at hn ⊢
  by_cases h0 : n = 0
  · subst h0
    refine ⟨0, hm1, fun w h => ?_⟩
    go_enter Tryz.func14, Tryz.ntmps14
    go_wp2_with fail
    go_ret2
    exact ⟨rfl, Below.refl _ _⟩
  · have z1 : ((n : Int) == 0) = false := by rw [beq_eq_false_iff_ne]; omega
    by_cases h1 : p < n ∧ m ≤ 256
    · have z2 : decide ((p : Int) < (n : Int)) = true := by simp; omega
      have z3 : decide ((m : Int) ≤ 256) = true := by simp; omega
      obtain ⟨x, hx⟩ : ∃ x, xs.getD p 0 = x := ⟨_, rfl⟩
      have hxl : x < 256 := by rw [← hx]; exact hX.lt p
      refine ⟨x % m, Nat.mod_lt _ (by omega), fun w h => ?_⟩
      obtain ⟨b, off, rfl, hlt, hc⟩ := h.at_ (by omega)
      have hcx := hc p (by omega)
      rw [hx] at hcx
      clear hc
      go_enter Tryz.func14, Tryz.ntmps14
      go_wp2_with fail
      go_ret2
      exact ⟨rfl, Below.refl _ _⟩
    · obtain ⟨i1, hi1⟩ : ∃ i, p % n = i := ⟨_, rfl⟩
      obtain ⟨i2, hi2⟩ : ∃ i, (p * 7 + 3) % n = i := ⟨_, rfl⟩
      have l1 : i1 < n := by rw [← hi1]; exact Nat.mod_lt _ (by omega)
      have l2 : i2 < n := by rw [← hi2]; exact Nat.mod_lt _ (by omega)
      obtain ⟨x, hx'⟩ : ∃ x, xs.getD i1 0 = x := ⟨_, rfl⟩
      obtain ⟨y, hy'⟩ : ∃ x, xs.getD i2 0 = x := ⟨_, rfl⟩
      have hx : x < 256 := by rw [← hx']; exact hX.lt i1
      have hy : y < 256 := by rw [← hy']; exact hX.lt i2
      obtain ⟨d, hd⟩ : ∃ d, p / n = d := ⟨_, rfl⟩
      have hdp : d ≤ p := by rw [← hd]; exact Nat.div_le_self _ _
      have u1 : (p : Int) % (n : Int) = (i1 : Int) := by rw [← hi1]; rfl
      have u2 : ((p : Int) * 7 + 3) % (n : Int) = (i2 : Int) := by rw [← hi2]; rfl
      have u3 : (p : Int) / (n : Int) = (d : Int) := by rw [← hd]; rfl
      have z2 : (decide ((p : Int) < (n : Int)) && decide ((m : Int) ≤ 256)) = false := by
        rw [Bool.and_eq_false_iff]
        by_cases g : p < n
        · exact .inr (by simp; omega)
        · exact .inl (by simp; omega)
      clear hi1 hi2 hd
      obtain ⟨Y, HY⟩ : ∃ Y : Nat, Hid ((bits .xor .i64 ((x : Int) * 131 + (y : Int) * 1117 + (p : Int) * 29 + (d : Int) * 53) (((x : Int) * 131 + (y : Int) * 1117 + (p : Int) * 29 + (d : Int) * 53) / 64)) = (Y : Int)) :=
        ⟨_, i64_xor_nat (x * 131 + y * 1117 + p * 29 + d * 53) ((x * 131 + y * 1117 + p * 29 + d * 53) / 64) (by omega) (by omega)⟩
      have HR : Hid ((bits .xor .i64 ((x : Int) * 131 + (y : Int) * 1117 + (p : Int) * 29 + (d : Int) * 53) (((x : Int) * 131 + (y : Int) * 1117 + (p : Int) * 29 + (d : Int) * 53) / 64)).tmod (m : Int) = ((Y % m : Nat) : Int)) := by
        show _ = _
        rw [HY.out]; rfl
      refine ⟨Y % m, Nat.mod_lt _ (by omega), fun w h => ?_⟩
      obtain ⟨b, off, rfl, hlt, hc⟩ := h.at_ (by omega)
      have hcx := hc i1 (by omega)
      have hcy := hc i2 (by omega)
      rw [hx'] at hcx
      rw [hy'] at hcy
      clear hc
      by_cases g : p < n
      · have z3 : decide ((p : Int) < (n : Int)) = true := by simp; omega
        have z4 : decide ((m : Int) ≤ 256) = false := by simp; omega
        go_enter Tryz.func14, Tryz.ntmps14
        go_wp2_with fail
        go_ret2
        exact ⟨by rw [HR.out]; rfl, Below.refl _ _⟩
      · have z3 : decide ((p : Int) < (n : Int)) = false := by simp; omega
        go_enter Tryz.func14, Tryz.ntmps14
        go_wp2_with fail
        go_ret2
        exact ⟨by rw [HR.out]; rfl, Below.refl _ _⟩

theorem width_det (a : Option Addr) (xs : List Nat) (cap : Nat) (p : Nat) (hX : Code8 xs) (hp : p ≤ 100000) :
    ∃ x : Nat, (1 ≤ x ∧ x ≤ 32) ∧ ∀ w, BL a xs w → Calls Tryz.prog 15 #[.slice a xs.length cap, .int .i64 (p : Int)] w fun e w' => e = .returned (.tuple #[.int .i64 (x : Int), .int .i64 ((p + 1 : Nat) : Int)]) ∧ Below w.heap.size w w' := by
  obtain ⟨x, hx, HT⟩ := take_det a xs cap p 10 hX hp (by omega) (by omega)
  replace HT : Hid _ := HT
  by_cases h3 : x < 3
  · have z1 : decide ((x : Int) < 3) = true := by simp; omega
    refine ⟨1, by omega, fun w h => ?_⟩
    go_enter Tryz.func15, Tryz.ntmps15
    go_wp2_with fail
    refine (HT.out w h).mono ?_
    rintro e w1 ⟨rfl, hb⟩
    go_wp2_with fail
    go_ret2
    exact ⟨rfl, hb⟩
  have z1 : decide ((x : Int) < 3) = false := by simp; omega
  by_cases h5 : x < 5
  · have z2 : decide ((x : Int) < 5) = true := by simp; omega
    refine ⟨2, by omega, fun w h => ?_⟩
    go_enter Tryz.func15, Tryz.ntmps15
    go_wp2_with fail
    refine (HT.out w h).mono ?_
    rintro e w1 ⟨rfl, hb⟩
    go_wp2_with fail
    go_ret2
    exact ⟨rfl, hb⟩
  have z2 : decide ((x : Int) < 5) = false := by simp; omega
  by_cases h7 : x < 7
  · have z3 : decide ((x : Int) < 7) = true := by simp; omega
    refine ⟨32, by omega, fun w h => ?_⟩
    go_enter Tryz.func15, Tryz.ntmps15
    go_wp2_with fail
    refine (HT.out w h).mono ?_
    rintro e w1 ⟨rfl, hb⟩
    go_wp2_with fail
    go_ret2
    exact ⟨rfl, hb⟩
  have z3 : decide ((x : Int) < 7) = false := by simp; omega
  refine ⟨x, by omega, fun w h => ?_⟩
  go_enter Tryz.func15, Tryz.ntmps15
  go_wp2_with fail
  refine (HT.out w h).mono ?_
  rintro e w1 ⟨rfl, hb⟩
  go_wp2_with fail
  go_ret2
  exact ⟨rfl, hb⟩
theorem info5 : (Tryz.prog.info? 5).map (fun i => (i.zero, i.size, i.bytes)) = some (some (.int .u8 0), 1, 1) := by kernel_rfl

theorem padded_any (s : ByteArray) (w : World) (hs : s.size ≤ 1048576) :
    Calls Tryz.prog 79 #[.string s] w fun e w' => ∃ g cap, e = .returned (.slice (some ⟨g, 0, none⟩) (pad s.data.toList).length cap) ∧ Row w' w.heap.size g (pad s.data.toList).length cap ((pad s.data.toList).map B) ∧ Below w.heap.size w w' := by
  obtain ⟨i0, hi0, hz0, hz1, hz2⟩ := info_parts info5
  have hl : s.data.toList.length = s.size := rfl
  go_enter Tryz.func79, Tryz.ntmps79
  go_wp2_with (first | (refine wpList_bytes_row _ rfl (.tmp 6) 9 22 5 rfl s rfl Tryz.underlying9 Tryz.underlying22 Tryz.underlying5 ?_; intro g0 cap0 w0 hrow0 hbel0) | (at_builtin; refine wpList_append_row _ rfl (.tmp 8) (.tmp 9) 22 rfl 5 i0 (.int .u8 0) 1 Tryz.underlying22 hi0 hz0 hz1 hz2 rfl w.heap.size g0 s.size cap0 _ rfl (hrow0.alloc _) ⟨w0.heap.size, 0, none⟩ 1 1 [.int .u8 128] rfl rfl (World.news_of_block (heap_alloc_new w0 _)) (by simp [Value.oneCell']) (by unfold maxLen; omega) (by omega) (by have := hbel0.size; simp; omega) (w0.heap.size + 1) (by simp) ?_; intro g1 cap1 w1 hrow1 hgrow1 _ _))
  have hbel1 : Below w.heap.size w w1 := (hbel0.alloc hbel0.size _).grown hgrow1 (by have := hbel0.size; simp; omega) (fun q hq => by cases hq; exact hrow0.ge)
  have hrow1' : Row w1 w.heap.size g1 (s.size + 1 + 0) cap1 ((s.data.toList ++ [128] ++ List.replicate 0 0).map B) := by simpa [B] using hrow1
  clear hgrow1 hrow1 hrow0 hbel0
  go_loopw [3] (fun v wr => ∃ j g cap : Nat, j ≤ zpad s.size ∧ v = .slice (some ⟨g, 0, none⟩) (s.size + 1 + j) cap ∧ Row wr w.heap.size g (s.size + 1 + j) cap ((s.data.toList ++ [128] ++ List.replicate j 0).map B) ∧ Below w.heap.size w wr) (fun v _ => zpad s.size + s.size + 1 - lenOf v)
  case atStart => exact ⟨0, g1, cap1, Nat.zero_le _, rfl, hrow1', hbel1⟩
  case round =>
    clear hrow1' hbel1
    obtain ⟨j, g, cap, hj, rfl, hrow, hbel⟩ := hrel
    have hsz := hbel.size
    have hge := hrow.ge
    have hz := zpad_lt s.size
    by_cases hlt : j < zpad s.size
    · have hm := zpad_ne s.size j hlt
      go_wp2_with (at_builtin; refine wpList_append_row _ rfl (.tmp 15) (.tmp 16) 22 rfl 5 i0 (.int .u8 0) 1 Tryz.underlying22 hi0 hz0 hz1 hz2 rfl w.heap.size g (s.size + 1 + j) cap _ rfl (hrow.alloc _) ⟨wr.heap.size, 0, none⟩ 1 1 [.int .u8 0] rfl rfl (World.news_of_block (heap_alloc_new wr _)) (by simp [Value.oneCell']) (by unfold maxLen; omega) (by omega) (by simp; omega) (wr.heap.size + 1) (by simp) ?_; intro g2 cap2 w2 hrow2 hgrow2 _ _)
      go_roundw
      case rel =>
        have e : (s.data.toList ++ [128] ++ List.replicate j 0).map B ++ [.int .u8 0] = (s.data.toList ++ [128] ++ List.replicate (j + 1) 0).map B := by
          rw [List.replicate_succ', ← List.append_assoc, List.map_append (l₂ := [0])]; rfl
        rw [e] at hrow2
        exact ⟨j + 1, g2, cap2, by omega, rfl, hrow2, (hbel.alloc hsz _).grown hgrow2 (by simp; omega) (fun q hq => by cases hq; exact hge)⟩
      case measure => simp [lenOf]; omega
    · obtain rfl : j = zpad s.size := by omega
      have hm := zpad_eq s.size
      have hm' : ((((s.size : Int) + 1 + ((zpad s.size : Nat) : Int)) % 64) != 56) = false := by
        rw [bne_eq_false_iff_eq]; omega
      go_wp2_with fail
      try rw [hm']
      go_loopw [3, 5] (fun v i wr => ∃ k g cap : Nat, k ≤ 8 ∧ i = .int .i64 (7 - (k : Int)) ∧ v = .slice (some ⟨g, 0, none⟩) (s.size + 1 + zpad s.size + k) cap ∧ Row wr w.heap.size g (s.size + 1 + zpad s.size + k) cap ((s.data.toList ++ [128] ++ List.replicate (zpad s.size) 0 ++ beTo (8 * s.size) k).map B) ∧ Below w.heap.size w wr) (fun v _ _ => zpad s.size + s.size + 9 - lenOf v)
      case atStart => exact ⟨0, g, cap, by omega, rfl, rfl, by simpa [beTo] using hrow, hbel⟩
      case round =>
        clear hrow hbel hge hsz
        obtain ⟨k, g, cap, hk, rfl, rfl, hrow, hbel⟩ := hrel
        have hsz := hbel.size
        have hge := hrow.ge
        by_cases hlt2 : k < 8
        · go_wp2_with (at_builtin; refine wpList_append_row _ rfl (.tmp 26) (.tmp 33) 22 rfl 5 i0 (.int .u8 0) 1 Tryz.underlying22 hi0 hz0 hz1 hz2 rfl w.heap.size g (s.size + 1 + zpad s.size + k) cap _ rfl (hrow.alloc _) ⟨wr.heap.size, 0, none⟩ 1 1 [_] rfl rfl (World.news_of_block (heap_alloc_new wr _)) (by simp [Value.oneCell']) (by unfold maxLen; omega) (by omega) (by simp; omega) (wr.heap.size + 1) (by simp) ?_; intro g2 cap2 w2 hrow2 hgrow2 _ _)
          go_roundw
          case rel =>
            rw [lenByte_form] at hrow2
            have e : (s.data.toList ++ [128] ++ List.replicate (zpad s.size) 0 ++ beTo (8 * s.size) k).map B ++ [.int .u8 ((lenByte (8 * s.size) (7 - k)).toNat : Int)] = (s.data.toList ++ [128] ++ List.replicate (zpad s.size) 0 ++ beTo (8 * s.size) (k + 1)).map B := by
              rw [beTo_succ, ← List.append_assoc, List.map_append (l₂ := [lenByte (8 * s.size) (7 - k)])]; rfl
            rw [e] at hrow2
            exact ⟨k + 1, g2, cap2, by omega, by go_num, rfl, hrow2, (hbel.alloc hsz _).grown hgrow2 (by simp; omega) (fun q hq => by cases hq; exact hge)⟩
          case measure => simp [lenOf]; omega
        · obtain rfl : k = 8 := by omega
          go_wp2
          go_ret
          have e : pad s.data.toList = s.data.toList ++ [128] ++ List.replicate (zpad s.size) 0 ++ beTo (8 * s.size) 8 := by rw [pad, hl]
          have e2 : (pad s.data.toList).length = s.size + 1 + zpad s.size + 8 := by rw [pad_length, hl]; omega
          rw [e2, e]
          exact ⟨g, cap, rfl, hrow, hbel⟩
end Go.Proofs.YtmfhfehemoeeeaaGreatDoor
namespace Go.Proofs.Sha
open Go Go.RowKit

section
variable {P : Program} (w : World)

theorem run_append_keep (t ty : TypeId) (base : Nat) (e : TypeId) (i : TypeInfo) (z : Value) (size bytes : Nat) (ht : P.underlying t = some (.slice e)) (hi : P.info? e = some i) (hz : i.zero = some z)
    (hsize : i.size = size) (hby : i.bytes = bytes) (hzs : z.cells.size = size) (hsz : 0 < size)
    (g n cap : Nat) (xs : List Value) (hown : w.ownsRow base e size (.slice (some ⟨g, 0, none⟩) n cap) n xs)
    (ad : Addr) (m c : Nat) (news : List Value) (hl : news.length = m * size) (hnews : ∀ j u, news[j]? = some u → w.cell? (ad.add j) = some u) (h1 : ∀ u ∈ news, u.oneCell' = true)
    (hm : 0 < m) (h63 : n + m ≤ maxLen) (hbytes : (n + m) * bytes ≤ 140737488355328) (hbase : base ≤ w.heap.size) (H : Nat) (hH : w.heap.size = H) :
    ∃ g' cap' w', (Builtin.append_ #[t, t] ty #[.slice (some ⟨g, 0, none⟩) n cap, .slice (some ad) m c]).run P w = .ok (.slice (some ⟨g', 0, none⟩) (n + m) cap') w' ∧
      w'.ownsRow base e size (.slice (some ⟨g', 0, none⟩) (n + m) cap') (n + m) (xs ++ news) ∧ w.grownBy w' (some g) ∧ (g' = g ∨ g' = H) ∧ g' < w'.heap.size ∧
      (∀ j, j < n * size → w'.cell? ⟨g, j, none⟩ = w.cell? ⟨g, j, none⟩) := by
  obtain ⟨g', cap', w', hr, h2, h3, h4, h5⟩ := run_append_lies (P := P) w t ty base e i z size bytes ht hi hz hsize hby hzs hsz _ n xs hown ad m c news hl hnews h1 hm h63 hbytes hbase H hH
  refine ⟨g', cap', w', hr, h2, h3, ?_, h5, ?_⟩
  · rcases h4 with h4 | h4
    · left
      simpa [Value.ownBlock] using h4.symm
    · exact .inr h4
  · intro j hj
    rcases hown.2 with ⟨hv, _⟩ | ⟨g0, cap0, cur, hv, hbg, hg, hnc, hcm, hcs, htake⟩
    · cases hv
    · cases hv
      by_cases hroom : n + m ≤ cap
      · subst hsize
        have hfit : n * i.size + news.length ≤ cur.size := by rw [hl, hcs, ← Nat.add_mul]; exact Nat.mul_le_mul_right _ hroom
        have hr2 := run_append_room (P := P) w t ty e i ht hi g n cap cur hg ad m c news hl hnews h1 hroom hfit
        rw [hr2] at hr
        injection hr with _ hw
        subst hw
        rw [cell_of_row _ g j _ e (0, 0) (setRow_heap w g cur _ e (0, 0) hg), cell_of_row w g j cur e (0, 0) hg]
        have hjl : j < (List.take (n * i.size) cur.toList).length := by simp; omega
        simp only [List.append_assoc, List.getElem?_toArray]
        rw [List.getElem?_append_left hjl, List.getElem?_take, if_pos hj]
        simp
      · subst hsize
        subst hby
        have holds : ∀ j u, xs[j]? = some u → w.cell? ((⟨g, 0, none⟩ : Addr).add j) = some u := hown.cells (g := g) rfl
        have hr2 := run_append_grow (P := P) w t ty e i z ht hi hz ⟨g, 0, none⟩ n cap xs hown.1 holds ad m c news hl hnews (by omega) (by simp only [maxLen] at h63; omega) (growslice_fits (by omega) hbytes)
        rw [hr2] at hr
        injection hr with _ hw
        subst hw
        have hlt : g < w.heap.size := (Array.getElem?_eq_some_iff.1 hg).1
        exact World.cell?_of_block (w := w) (heap_alloc_old w.drew _ hlt)

theorem wp_append_keep {o : Oper} {a : Act} {K : Act → World → Prop} {Q : Exit → Act → World → Prop} (s x : Operand) (t : TypeId)
    (ho : o.op = .call { callee := .builtin .append, args := #[s, x], argTypes := #[t, t] })
    (base : Nat) (e : TypeId) (i : TypeInfo) (z : Value) (size bytes : Nat) (ht : P.underlying t = some (.slice e)) (hi : P.info? e = some i) (hz : i.zero = some z)
    (hsize : i.size = size) (hby : i.bytes = bytes) (hzs : z.cells.size = size) (hsz : 0 < size)
    (g n cap : Nat) (xs : List Value) (hs : a.eval s = .slice (some ⟨g, 0, none⟩) n cap) (hown : w.ownsRow base e size (.slice (some ⟨g, 0, none⟩) n cap) n xs)
    (ad : Addr) (m c : Nat) (news : List Value) (hx : a.eval x = .slice (some ad) m c) (hl : news.length = m * size) (hnews : ∀ j u, news[j]? = some u → w.cell? (ad.add j) = some u) (h1 : ∀ u ∈ news, u.oneCell' = true)
    (hm : 0 < m) (h63 : n + m ≤ maxLen) (hbytes : (n + m) * bytes ≤ 140737488355328) (hbase : base ≤ w.heap.size) (H : Nat) (hH : w.heap.size = H)
    (h : ∀ g' cap' w', w'.ownsRow base e size (.slice (some ⟨g', 0, none⟩) (n + m) cap') (n + m) (xs ++ news) → w.grownBy w' (some g) → (g' = g ∨ g' = H) → g' < w'.heap.size →
      (∀ j, j < n * size → w'.cell? ⟨g, j, none⟩ = w.cell? ⟨g, j, none⟩) → K (a.put o.dst (.slice (some ⟨g', 0, none⟩) (n + m) cap')) w') : o.wp P a w K Q := by
  obtain ⟨g', cap', w', hr, h2, h3, h4, h5, h6⟩ := run_append_keep (P := P) w t o.type base e i z size bytes ht hi hz hsize hby hzs hsz g n cap xs hown ad m c news hl hnews h1 hm h63 hbytes hbase H hH
  unfold Oper.wp execOp
  simp only [ho, resolve, invoke, builtin, Sem.run_bind, Sem.run_pure, Result.andThen_ok, List.map_toArray, List.map_cons, List.map_nil, hs, hx, hr]
  exact h g' cap' w' h2 h3 h4 h5 h6

theorem step_append_keep {ops : Array Oper} {o : Oper} {a : Act} {K : Act → World → Prop} {Q : Exit → Act → World → Prop} {E : Prop} (hgd : o.guard = none) (s x : Operand) (t : TypeId)
    (ho : o.op = .call { callee := .builtin .append, args := #[s, x], argTypes := #[t, t] })
    (base : Nat) (e : TypeId) (i : TypeInfo) (z : Value) (size bytes : Nat) (ht : P.underlying t = some (.slice e)) (hi : P.info? e = some i) (hz : i.zero = some z)
    (hsize : i.size = size) (hby : i.bytes = bytes) (hzs : z.cells.size = size) (hsz : 0 < size)
    (g n cap : Nat) (xs : List Value) (hs : a.eval s = .slice (some ⟨g, 0, none⟩) n cap) (hown : w.ownsRow base e size (.slice (some ⟨g, 0, none⟩) n cap) n xs)
    (ad : Addr) (m c : Nat) (news : List Value) (hx : a.eval x = .slice (some ad) m c) (hl : news.length = m * size) (hnews : ∀ j u, news[j]? = some u → w.cell? (ad.add j) = some u) (h1 : ∀ u ∈ news, u.oneCell' = true)
    (hm : 0 < m) (h63 : n + m ≤ maxLen) (hbytes : (n + m) * bytes ≤ 140737488355328) (hbase : base ≤ w.heap.size) (H : Nat) (hH : w.heap.size = H)
    (h : ∀ g' cap' w', w'.ownsRow base e size (.slice (some ⟨g', 0, none⟩) (n + m) cap') (n + m) (xs ++ news) → w.grownBy w' (some g) → (g' = g ∨ g' = H) → g' < w'.heap.size →
      (∀ j, j < n * size → w'.cell? ⟨g, j, none⟩ = w.cell? ⟨g, j, none⟩) → K (a.put o.dst (.slice (some ⟨g', 0, none⟩) (n + m) cap')) w') :
    if Region.wanted o (yielded ops a.tmps) = true then Oper.wp P o a w K Q else E := by
  have hw : Region.wanted o (yielded ops a.tmps) = true := by simp [Region.wanted, hgd]
  rw [if_pos hw]
  exact wp_append_keep w s x t ho base e i z size bytes ht hi hz hsize hby hzs hsz g n cap xs hs hown ad m c news hx hl hnews h1 hm h63 hbytes hbase H hH h
end
end Go.Proofs.Sha
