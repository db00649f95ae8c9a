import Derived.Test.YthklibioolnggaaGreatDoorAg
namespace Go.Proofs.YthklibioolnggaaGreatDoor
open Go.RowKit Go.Proofs.Sha

set_option maxRecDepth 100000 in
set_option maxHeartbeats 1000000 in
theorem cut_any (s : ByteArray) (b : UInt8) (w : World) (hs : s.size ≤ 1048576) :
    Calls Tryz.prog 19 #[.string s, .int .u8 (b.toNat : Int)] w fun e w' => ∃ a c, e = .returned (.slice a (cutB b s).length c) ∧ (cutB b s).length ≤ c ∧ TArg a (cutB b s) w' ∧ Below w.heap.size w w' := by
  obtain ⟨i0, hi0, hz0, hz1, hz2⟩ := info_parts2 info9
  have hl : s.data.toList.length = s.size := rfl
  obtain ⟨R, hR⟩ : ∃ R, cutB b s = R := ⟨_, rfl⟩
  have hR' : Hid (cutB b (s.extract 0 s.size) = R) := by
    show _ = _
    rw [← hR]; congr 1; apply ByteArray.ext; apply Array.ext'; simp
  rw [hR]
  clear hR
  have hW : Below w.heap.size w (w.alloc (.cells #[] 9)) := (Below.refl _ _).alloc (Nat.le_refl _) _
  have hO : OwnV 9 1 w [] (some ⟨w.heap.size, 0, none⟩) 0 0 (w.alloc (.cells #[] 9)) := ⟨⟨rfl, .inr ⟨_, 0, #[], rfl, Nat.le_refl _, heap_alloc_new w (.cells #[] 9), by simp⟩⟩, hW⟩
  go_enter Tryz.func19, Tryz.ntmps19
  go_wp2_with fail
  generalize w.alloc (.cells #[] 9) = W0 at hW hO ⊢
  clear hW
  go_loopw [5, 6, 7] (fun t5 t6 t7 wr => ∃ (f k : Nat) (ps : List ByteArray) (a : Option Addr) (c : Nat), f ≤ k ∧ k ≤ s.size ∧ ps.length ≤ k ∧ t6 = .int .i64 (f : Int) ∧ t7 = .int .i64 (k : Int) ∧ t5 = .slice a ps.length c ∧ Hid (ps ++ cutB b (s.extract f s.size) = R) ∧ Hid (∀ j, f ≤ j → j < k → s.data.toList[j]? ≠ some b) ∧ OwnV 9 1 w (ps.map Value.string) a ps.length c wr) (fun _ _ t _ => s.size - (intOf t).toNat)
  case atStart => exact ⟨0, 0, [], _, _, by omega, by omega, by simp, rfl, rfl, rfl, hR', fun j h1 h2 => absurd h2 (by omega), hO⟩
  case round =>
    obtain ⟨f, k, ps, a, c, hf, hk, hp, rfl, rfl, rfl, HR, HN, hT⟩ := hrel
    have own := hT.own
    have hbs := hT.bel.size
    obtain ⟨m, hm⟩ : ∃ m, ps.length = m := ⟨_, rfl⟩
    rw [hm] at hp own hT
    rw [hm]
    have hm' : Hid (ps.length = m) := hm
    clear hm
    by_cases hlt : k < s.size
    · have z1 : (0 : Int) ≤ (k : Int) := by omega
      have z2 : (k : Int) < (s.size : Int) := by omega
      have z3 : (0 : Int) ≤ (f : Int) := by omega
      have z4 : (f : Int) ≤ (k : Int) := by omega
      have z5 : (k : Int) ≤ (s.size : Int) := by omega
      have hx := bget s k hlt
      have HS := cut_step b s f k hf hlt
      obtain ⟨x, hx2⟩ : ∃ x, s.data.toList.getD k 0 = x := ⟨_, rfl⟩
      have hxk : s.data.toList[k]? = some x := by rw [← hx2, List.getD_eq_getElem?_getD, List.getElem?_eq_getElem hlt]; rfl
      rw [hx2] at hx HS
      by_cases hxb : x = b
      · have c1 : ((x.toNat : Int) == (b.toNat : Int)) = true := by rw [hxb]; simp
        have HR' : Hid (ps ++ [s.extract f k] ++ cutB b (s.extract (k + 1) s.size) = R) := by
          show _ = _
          rw [← HR.out, HS hxb HN.out, List.append_assoc]; rfl
        clear HS HN HR hxk hx2 hxb
        go_wp2_with (at_builtin; refine wpList_append_lies _ rfl (.tmp 20) (.tmp 25) 30 rfl w.heap.size 9 i0 (.string ⟨#[]⟩) 1 16 Tryz.underlying30 hi0 hz0 hz1 hz2 rfl (by decide) (.slice a m c) m (ps.map Value.string) rfl (own.alloc _) ⟨wr.heap.size, 0, none⟩ 1 1 [.string (s.extract f k)] rfl rfl (World.news_of_block (heap_alloc_new wr _)) (by simp [Value.oneCell']) (by decide) (by unfold maxLen; omega) (by omega) (by simp; omega) (wr.heap.size + 1) (by simp) ?_; intro g5 c5 w5 hown5 hgrow5 hat5 hlt5)
        go_roundw
        case rel =>
          have hlen : (ps ++ [s.extract f k]).length = m + 1 := by rw [List.length_append, hm'.out]; rfl
          refine ⟨k + 1, k + 1, ps ++ [s.extract f k], some ⟨g5, 0, none⟩, c5, by omega, by omega, by rw [hlen]; omega, by go_num, by go_num, by rw [hlen], HR', fun j h1 h2 => absurd h2 (by omega), ?_⟩
          rw [hlen, List.map_append]
          exact hT.more hown5 hgrow5
        case measure => simp [intOf]; omega
      · have c1 : ((x.toNat : Int) == (b.toNat : Int)) = false := by rw [beq_eq_false_iff_ne]; intro h; exact hxb (UInt8.toNat_inj.1 (by omega))
        have HN' : Hid (∀ j, f ≤ j → j < k + 1 → s.data.toList[j]? ≠ some b) := fun j h1 h2 => by
          by_cases hj : j < k
          · exact HN.out j h1 hj
          · obtain rfl : j = k := by omega
            rw [hxk]; intro e; exact hxb (Option.some.inj e)
        clear HS HN hxk hx2 hxb
        go_wp2_with fail
        go_roundw
        case rel => exact ⟨f, k + 1, ps, a, c, by omega, by omega, by rw [hm'.out]; omega, rfl, by go_num, by rw [hm'.out], HR, HN', by rw [hm'.out]; exact hT⟩
        case measure => simp [intOf]; omega
    · have hk2 : k = s.size := by omega
      have HR' : Hid (ps ++ [s.extract f s.size] = R) := by
        show _ = _
        rw [← HR.out, cut_end b s f k hk2 HN.out]
      have z3 : (0 : Int) ≤ (f : Int) := by omega
      have z4 : (f : Int) ≤ (s.size : Int) := by omega
      have z5 : ¬ ((k : Int) < (s.size : Int)) := by omega
      clear HN HR hk2
      go_wp2_with (at_builtin; refine wpList_append_lies _ rfl (.tmp 29) (.tmp 33) 30 rfl w.heap.size 9 i0 (.string ⟨#[]⟩) 1 16 Tryz.underlying30 hi0 hz0 hz1 hz2 rfl (by decide) (.slice a m c) m (ps.map Value.string) rfl (own.alloc _) ⟨wr.heap.size, 0, none⟩ 1 1 [.string (s.extract f s.size)] rfl rfl (World.news_of_block (heap_alloc_new wr _)) (by simp [Value.oneCell']) (by decide) (by unfold maxLen; omega) (by omega) (by simp; omega) (wr.heap.size + 1) (by simp) ?_; intro g5 c5 w5 hown5 hgrow5 hat5 hlt5)
      go_ret
      have hlen : R.length = m + 1 := by rw [← HR'.out, List.length_append, hm'.out]; rfl
      have hT5 : OwnV 9 1 w (R.map Value.string) (some ⟨g5, 0, none⟩) (m + 1) c5 w5 := by rw [← HR'.out, List.map_append]; exact hT.more hown5 hgrow5
      exact ⟨some ⟨g5, 0, none⟩, c5, by rw [hlen]; rfl, by rw [hlen]; exact hT5.cap, hT5.targ, hT5.bel⟩
end Go.Proofs.YthklibioolnggaaGreatDoor
