import Derived.Test.YtfmpjlpakldheaaGreatDoorZybr
import Derived.Test.YtfmpjlpakldheaaGreatDoorZyat
import Derived.Test.YtfmpjlpakldheaaGreatDoorZybi
import Derived.Test.YtfmpjlpakldheaaGreatDoorZyac
import Derived.Test.YtfmpjlpakldheaaGreatDoorZybg
namespace Go.Proofs.YtfmpjlpakldheaaGreatDoor
open Go.RowKit Go.Proofs.Sha

end Go.Proofs.YtfmpjlpakldheaaGreatDoor
namespace Go.Proofs.YtfmpjlpakldheaaGreatDoor
open Go.RowKit Go.Proofs.Sha

theorem RangeAt.parg {X : List PairT × Int} {w w' : World} {e : Ending} (hs : SmallP X.1) (h : RangeAt X w e w') : ∃ a c, e = .returned (.tuple #[.slice a X.1.length c, .int .i64 X.2]) ∧ PArg a X.1 w' ∧ Below w.heap.size w w' := by
  obtain ⟨⟨a, c, rfl, ho⟩, hb⟩ := h
  exact ⟨a, c, rfl, own_parg ho hs, hb⟩
end Go.Proofs.YtfmpjlpakldheaaGreatDoor
namespace Go.Proofs.YtfmpjlpakldheaaGreatDoor
open Go.RowKit Go.Proofs.Sha

theorem filterMap_take (f : ByteArray → Option ChT) (ks : List ByteArray) (k : Nat) (_h : k < ks.length) (x : ByteArray) (hx : ks[k]? = some x) : (ks.take (k + 1)).filterMap f = (ks.take k).filterMap f ++ (match f x with | some y => [y] | none => []) := by
  rw [List.take_add_one, hx, List.filterMap_append]
  simp only [Option.toList_some, List.filterMap_cons, List.filterMap_nil]
  cases f x <;> rfl
theorem keys_get (L : List PairT) (k : Nat) (h : k < L.length) : (keys L)[k]? = some (L.getD k noPair).1 := by
  simp [keys, List.getElem?_map, List.getElem?_eq_getElem h, List.getD_eq_getElem?_getD]
set_option maxRecDepth 100000 in
set_option maxHeartbeats 2000000 in
theorem changes_any (a b : Option Addr) (ps qs : List PairT) (c d : Nat) (w : World) (h : PArg a ps w) (h' : PArg b qs w) (hp : ps.length ≤ 500) (hq : qs.length ≤ 500) (bp : Bd ps) (_bq : Bd qs) : Calls Tryz.prog 84 #[.slice a ps.length c, .slice b qs.length d] w (ChAt ((keys (uni ps qs)).filterMap (chOf ps qs)) w) := by
  obtain ⟨i0, hi0, hz0, hz1, hz2⟩ := info_parts2 info115
  obtain ⟨N, hN⟩ : ∃ N, qs.length = N := ⟨_, rfl⟩
  rw [hN] at hq ⊢
  have hNl : Hid (qs.length = N) := hN
  clear hN
  have HW : Hid (∀ (a' : Option Addr) (L : List PairT) (c' : Nat) (key : ByteArray) (w' : World), PArg a' L w' → key.size ≤ 1048576 → L.length ≤ 100000 → Calls Tryz.prog 91 #[.slice a' L.length c', .string key, .string ⟨#[]⟩] w' (PairsAt (wth L key ⟨#[]⟩) w')) := fun a' L c' key w' q1 q2 q3 => with_any a' L c' key ⟨#[]⟩ w' q1 q2 q3
  have HGp : Hid (∀ (key : ByteArray) (w' : World), Below w.heap.size w w' → Calls Tryz.prog 129 #[.slice a ps.length c, .string key] w' fun e w'' => e = .returned (.tuple #[.string (getP ps key).1, .bool (getP ps key).2]) ∧ Below w'.heap.size w' w'') := fun key w' hb => get_any a ps c key w' (h.below hb)
  have HGq : Hid (∀ (key : ByteArray) (w' : World), Below w.heap.size w w' → Calls Tryz.prog 129 #[.slice b N d, .string key] w' fun e w'' => e = .returned (.tuple #[.string (getP qs key).1, .bool (getP qs key).2]) ∧ Below w'.heap.size w' w'') := fun key w' hb => by have := get_any b qs d key w' (h'.below hb); rw [hNl.out] at this; exact this
  go_enter Tryz.func84, Tryz.ntmps84
  go_wp2_with fail
  go_loopw [5, 6] (fun t5 t6 wr => ∃ k : Nat, k ≤ N ∧ t6 = .int .i64 (k : Int) ∧ ∃ (a' : Option Addr) (m c' : Nat), t5 = .slice a' m c' ∧ Hid ((uni ps (qs.take k)).length = m ∧ Bd (uni ps (qs.take k)) ∧ PArg a' (uni ps (qs.take k)) wr) ∧ Below w.heap.size w wr) (fun _ t6 _ => N - (intOf t6).toNat)
  case atStart => exact ⟨0, Nat.zero_le _, rfl, a, ps.length, c, rfl, ⟨rfl, bp, h⟩, Below.refl _ _⟩
  case round =>
    obtain ⟨k, hk, rfl, a', m, c', rfl, hI, hbw⟩ := hrel
    by_cases hlt : k < N
    · have z1 : decide ((k : Int) < (N : Int)) = true := by simp; omega
      have hx0 : (0 : Int) ≤ (k : Int) := Int.natCast_nonneg _
      have hx1 : (k : Int) < (N : Int) := by omega
      have hkr : Hid (k < qs.length) := by show _ < _; rw [hNl.out]; exact hlt
      obtain ⟨b1, off1, rfl, hbl1, hc⟩ := (h'.below hbw).at_ (by rw [hNl.out]; omega)
      obtain ⟨hc1, hc2⟩ := hc k hkr.out
      have hut := uni_take ps qs k hkr.out
      have hks : (qs.getD k noPair).1.size ≤ 1048576 := (h'.sz k).1
      obtain ⟨i1, i2, i3⟩ := hI.out
      have hul : (uni ps (qs.take k)).length ≤ 1000 := by have := uni_len ps (qs.take k); rw [List.length_take] at this; omega
      have HWk := HW.out a' (uni ps (qs.take k)) c' (qs.getD k noPair).1 wr i3 hks (by omega)
      have hbd := i2.wth (v := ⟨#[]⟩) hks (Nat.zero_le _)
      rw [← hut] at HWk hbd
      rw [i1] at HWk
      have HF : Hid (∀ w' a2 c2, OwnP wr (uni ps (qs.take (k + 1))) a2 (uni ps (qs.take (k + 1))).length c2 w' → PArg a2 (uni ps (qs.take (k + 1))) w') := fun w' a2 c2 hO => ownp_parg hO (hbd.small (by have := uni_len ps (qs.take (k + 1)); rw [List.length_take] at this; omega))
      have HBd : Hid (Bd (uni ps (qs.take (k + 1)))) := hbd
      generalize (qs.getD k noPair).1 = qk at *
      clear hI hut i1 i2 i3 hc hbd hul
      go_wp2_with (first | (go_at_call 91; refine HWk.mono ?_; rintro e w3 ⟨a2, c2, rfl, hO⟩))
      go_roundw
      case rel => exact ⟨k + 1, hlt, by go_num, a2, _, c2, rfl, ⟨rfl, HBd.out, HF.out _ _ _ hO⟩, hbw.trans (hO.bel.mono hbw.size)⟩
      case measure => simp [intOf]; omega
    · obtain rfl : k = N := by omega
      have z1 : decide ((k : Int) < (k : Int)) = false := by simp
      have htk : qs.take k = qs := List.take_of_length_le (by rw [hNl.out]; exact Nat.le_refl _)
      rw [htk] at hI
      obtain ⟨i1, i2, i3⟩ := hI.out
      have hul := uni_len ps qs
      rw [i1, hNl.out] at hul
      have hU : Hid ((uni ps qs).length = m) := i1
      obtain ⟨U, hUe⟩ : ∃ U, uni ps qs = U := ⟨_, rfl⟩
      rw [hUe] at i3 hU
      have hUH : Hid (uni ps qs = U) := hUe
      clear hUe hI i1 i2 htk
      obtain ⟨wA, hwA⟩ : ∃ x, x = wr := ⟨_, rfl⟩
      subst hwA
      have hO := OwnC.nil wA
      go_wp2_with fail
      go_loopw [7, 8] (fun t7 t8 wr => ∃ j : Nat, j ≤ m ∧ t8 = .int .i64 (j : Int) ∧ ∃ (a2 : Option Addr) (m2 c2 : Nat), t7 = .slice a2 m2 c2 ∧ OwnC wA ((keys (U.take j)).filterMap (chOf ps qs)) a2 m2 c2 wr) (fun _ t8 _ => m - (intOf t8).toNat)
      case atStart => exact ⟨0, Nat.zero_le _, rfl, _, _, _, rfl, hO⟩
      case round =>
        obtain ⟨j, hj, rfl, a2, m2, c2, rfl, hW⟩ := hrel
        have hbj := hbw.trans (hW.bel.mono hbw.size)
        have own := hW.own
        have hbs := hW.bel.size
        have hm2 : m2 ≤ 1000 := by have h1 := hW.len; have h2 := List.length_filterMap_le (chOf ps qs) (keys (U.take j)); rw [List.length_map, List.length_take] at h2; omega
        by_cases hlj : j < m
        · have z2 : decide ((j : Int) < (m : Int)) = true := by simp; omega
          have hy0 : (0 : Int) ≤ (j : Int) := Int.natCast_nonneg _
          have hy1 : (j : Int) < (m : Int) := by omega
          have hjr : Hid (j < U.length) := by show _ < _; rw [hU.out]; exact hlj
          obtain ⟨b1, off1, rfl, hbl1, hc⟩ := (i3.below hW.bel).at_ (by rw [hU.out]; omega)
          obtain ⟨hc1, hc2⟩ := hc j hjr.out
          have hft : Hid ((keys (U.take (j + 1))).filterMap (chOf ps qs) = (keys (U.take j)).filterMap (chOf ps qs) ++ (match chOf ps qs (U.getD j noPair).1 with | some y => [y] | none => [])) := by
            show _ = _
            have := filterMap_take (chOf ps qs) (keys U) j (by rw [List.length_map]; exact hjr.out) _ (keys_get U j hjr.out)
            have e1 : ∀ i, keys (U.take i) = (keys U).take i := fun i => List.map_take ..
            rw [e1, e1]
            exact this
          have HP1 := fun w' hb => HGp.out (U.getD j noPair).1 w' hb
          have HQ1 := fun w' hb => HGq.out (U.getD j noPair).1 w' hb
          have hco : chOf ps qs (U.getD j noPair).1 = if (getP ps (U.getD j noPair).1).2 ≠ (getP qs (U.getD j noPair).1).2 ∨ (getP ps (U.getD j noPair).1).1 ≠ (getP qs (U.getD j noPair).1).1 then some ((U.getD j noPair).1, (getP ps (U.getD j noPair).1).2, (getP ps (U.getD j noPair).1).1, (getP qs (U.getD j noPair).1).2, (getP qs (U.getD j noPair).1).1) else none := rfl
          rw [hco] at hft
          clear hco
          generalize (U.getD j noPair).1 = uk at *
          generalize getP ps uk = gp at *
          generalize getP qs uk = gq at *
          obtain ⟨old, had⟩ := gp
          obtain ⟨now, has⟩ := gq
          simp only at HP1 HQ1 hft
          have HC1 : Hid (∀ W, Below wr.heap.size wr W → W.cell? ⟨b1, off1 + j * 2, none⟩ = some (.string uk)) := fun W hW' => (hW'.cell (p := ⟨b1, off1 + j * 2, none⟩) hbl1).trans hc1
          have hdec : (had ≠ has ∨ old ≠ now) ∨ (had = has ∧ old = now) := by
            by_cases e1 : had = has
            · by_cases e2 : old = now
              · exact .inr ⟨e1, e2⟩
              · exact .inl (.inr e2)
            · exact .inl (.inl e1)
          go_upto_region 11 with (first | (go_at_call 129; refine (HP1 _ hbj).mono ?_; rintro e w4 ⟨rfl, hb4⟩; have hd1 := HC1.out _ hb4))
          have hbj4 := hbj.trans (hb4.mono hbj.size)
          go_upto_region 12 with (first | (go_at_call 129; refine (HQ1 _ hbj4).mono ?_; rintro e w5 ⟨rfl, hb5⟩; have hd2 := HC1.out _ (hb4.trans (hb5.mono hb4.size))))
          have hb45 := hb4.trans (hb5.mono hb4.size)
          have hW5 := hW.below hb45
          have own5 := hW5.own
          have hbs5 := hW5.bel.size
          clear own hbs HC1 hb4 hb5 hd1 HP1 HQ1
          clear hdec
          cases had with
          | true =>
            cases has with
            | true =>
              by_cases e2 : old = now
              · rw [if_neg (by simp [e2])] at hft
                have z4 : (old.toList == now.toList) = true := by rw [ba_eq, decide_eq_true e2]
                clear e2
                go_wp2_with fail
                go_roundw
                case rel => exact ⟨j + 1, hlj, by go_num, _, _, _, rfl, by rw [hft.out, List.append_nil]; exact hW5⟩
                case measure => simp [intOf]; omega
              · rw [if_pos (.inr e2)] at hft
                have z4 : (old.toList == now.toList) = false := by rw [ba_eq, decide_eq_false e2]
                clear e2
                go_wp2_with (at_builtin; refine wpList_append_lies _ rfl (.tmp 62) (.tmp 73) 57 rfl wA.heap.size 62 i0 (.agg #[.string ⟨#[]⟩, .bool false, .string ⟨#[]⟩, .bool false, .string ⟨#[]⟩]) 5 64 Tryz.underlying57 hi0 hz0 hz1 hz2 rfl (by decide) (.slice a2 m2 c2) m2 (flatC ((keys (U.take j)).filterMap (chOf ps qs))) rfl (own5.alloc _) ⟨w5.heap.size, 0, none⟩ 1 1 [.string uk, .bool true, .string old, .bool true, .string now] rfl rfl (World.news_of_block (heap_alloc_new w5 _)) (by simp [Value.oneCell']) (by decide) (by unfold maxLen; omega) (by omega) (by simp; omega) (w5.heap.size + 1) (by simp) ?_; intro g6 c6 w6 hown6 hgrow6 hat6 hlt6)
                go_roundw
                case rel => exact ⟨j + 1, hlj, by go_num, _, _, _, rfl, by rw [hft.out]; exact hW5.more (y := (uk, true, old, true, now)) hown6 hgrow6 rfl⟩
                case measure => simp [intOf]; omega
            | false =>
              rw [if_pos (.inl (by decide))] at hft
              go_wp2_with (at_builtin; refine wpList_append_lies _ rfl (.tmp 62) (.tmp 73) 57 rfl wA.heap.size 62 i0 (.agg #[.string ⟨#[]⟩, .bool false, .string ⟨#[]⟩, .bool false, .string ⟨#[]⟩]) 5 64 Tryz.underlying57 hi0 hz0 hz1 hz2 rfl (by decide) (.slice a2 m2 c2) m2 (flatC ((keys (U.take j)).filterMap (chOf ps qs))) rfl (own5.alloc _) ⟨w5.heap.size, 0, none⟩ 1 1 [.string uk, .bool true, .string old, .bool false, .string now] rfl rfl (World.news_of_block (heap_alloc_new w5 _)) (by simp [Value.oneCell']) (by decide) (by unfold maxLen; omega) (by omega) (by simp; omega) (w5.heap.size + 1) (by simp) ?_; intro g6 c6 w6 hown6 hgrow6 hat6 hlt6)
              go_roundw
              case rel => exact ⟨j + 1, hlj, by go_num, _, _, _, rfl, by rw [hft.out]; exact hW5.more (y := (uk, true, old, false, now)) hown6 hgrow6 rfl⟩
              case measure => simp [intOf]; omega
          | false =>
            cases has with
            | true =>
              rw [if_pos (.inl (by decide))] at hft
              go_wp2_with (at_builtin; refine wpList_append_lies _ rfl (.tmp 62) (.tmp 73) 57 rfl wA.heap.size 62 i0 (.agg #[.string ⟨#[]⟩, .bool false, .string ⟨#[]⟩, .bool false, .string ⟨#[]⟩]) 5 64 Tryz.underlying57 hi0 hz0 hz1 hz2 rfl (by decide) (.slice a2 m2 c2) m2 (flatC ((keys (U.take j)).filterMap (chOf ps qs))) rfl (own5.alloc _) ⟨w5.heap.size, 0, none⟩ 1 1 [.string uk, .bool false, .string old, .bool true, .string now] rfl rfl (World.news_of_block (heap_alloc_new w5 _)) (by simp [Value.oneCell']) (by decide) (by unfold maxLen; omega) (by omega) (by simp; omega) (w5.heap.size + 1) (by simp) ?_; intro g6 c6 w6 hown6 hgrow6 hat6 hlt6)
              go_roundw
              case rel => exact ⟨j + 1, hlj, by go_num, _, _, _, rfl, by rw [hft.out]; exact hW5.more (y := (uk, false, old, true, now)) hown6 hgrow6 rfl⟩
              case measure => simp [intOf]; omega
            | false =>
              by_cases e2 : old = now
              · rw [if_neg (by simp [e2])] at hft
                have z4 : (old.toList == now.toList) = true := by rw [ba_eq, decide_eq_true e2]
                clear e2
                go_wp2_with fail
                go_roundw
                case rel => exact ⟨j + 1, hlj, by go_num, _, _, _, rfl, by rw [hft.out, List.append_nil]; exact hW5⟩
                case measure => simp [intOf]; omega
              · rw [if_pos (.inr e2)] at hft
                have z4 : (old.toList == now.toList) = false := by rw [ba_eq, decide_eq_false e2]
                clear e2
                go_wp2_with (at_builtin; refine wpList_append_lies _ rfl (.tmp 62) (.tmp 73) 57 rfl wA.heap.size 62 i0 (.agg #[.string ⟨#[]⟩, .bool false, .string ⟨#[]⟩, .bool false, .string ⟨#[]⟩]) 5 64 Tryz.underlying57 hi0 hz0 hz1 hz2 rfl (by decide) (.slice a2 m2 c2) m2 (flatC ((keys (U.take j)).filterMap (chOf ps qs))) rfl (own5.alloc _) ⟨w5.heap.size, 0, none⟩ 1 1 [.string uk, .bool false, .string old, .bool false, .string now] rfl rfl (World.news_of_block (heap_alloc_new w5 _)) (by simp [Value.oneCell']) (by decide) (by unfold maxLen; omega) (by omega) (by simp; omega) (w5.heap.size + 1) (by simp) ?_; intro g6 c6 w6 hown6 hgrow6 hat6 hlt6)
                go_roundw
                case rel => exact ⟨j + 1, hlj, by go_num, _, _, _, rfl, by rw [hft.out]; exact hW5.more (y := (uk, false, old, false, now)) hown6 hgrow6 rfl⟩
                case measure => simp [intOf]; omega
        · obtain rfl : j = m := by omega
          have z2 : decide ((j : Int) < (j : Int)) = false := by simp
          have htU : U.take j = U := List.take_of_length_le (by rw [hU.out]; exact Nat.le_refl _)
          rw [htU] at hW
          have HF : Hid (ChAt ((keys (uni ps qs)).filterMap (chOf ps qs)) w (.returned (.slice a2 m2 c2)) wr) := by
            rw [hUH.out]
            have hl := hW.len
            subst hl
            exact ⟨_, _, rfl, hW.up hbw⟩
          clear hW own htU
          go_wp2_with fail
          go_ret
          exact HF.out
end Go.Proofs.YtfmpjlpakldheaaGreatDoor
