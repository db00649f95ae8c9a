import Derived.Test.YthklibioolnggaaGreatDoorAa
namespace Go.Proofs.YthklibioolnggaaGreatDoor
open Go.RowKit Go.Proofs.Sha

theorem tl_eq (s : ByteArray) : s.toList = s.data.toList := ByteArray.toList_eq s
def wchar (c : UInt8) : Bool := decide (33 ≤ c.toNat) && decide (c.toNat ≤ 126)
def isW (s : ByteArray) : Bool := s.data.toList.all wchar && decide (0 < s.size)
/-- What a word means: the sign '_' the empty text. -/
def meanW (s : ByteArray) : ByteArray := if s.data.toList = [95] then ⟨#[]⟩ else s

/-- What the model's l7Word gives as the text. -/
def wordT (s : ByteArray) : ByteArray := if isW s = true then meanW s else if s.data.toList.all wchar = true then s else ⟨#[]⟩
theorem all_step {l : List UInt8} {k : Nat} (hk : k < l.length) (h : (l.take k).all wchar = true) (hc : wchar (l.getD k 0) = true) : (l.take (k + 1)).all wchar = true := by
  rw [List.take_add_one, List.getElem?_eq_getElem hk, List.all_append, h]
  rw [List.getD_eq_getElem?_getD, List.getElem?_eq_getElem hk] at hc
  simpa using hc
theorem all_not {l : List UInt8} {k : Nat} (hk : k < l.length) (hc : wchar (l.getD k 0) = false) : l.all wchar = false := by
  rw [List.getD_eq_getElem?_getD, List.getElem?_eq_getElem hk] at hc
  rw [← Bool.not_eq_true, List.all_eq_true]
  intro h
  have := h (l[k]) (List.getElem_mem hk)
  simp only [Option.getD_some] at hc
  rw [hc] at this; cases this

set_option maxRecDepth 100000 in
set_option maxHeartbeats 400000 in
theorem isWord_any (s : ByteArray) (w : World) (hs : s.size ≤ 1048576) : Calls Tryz.prog 63 #[.string s] w fun e w' => e = .returned (.bool (isW s)) ∧ ∃ m, w' = w.drewN m := by
  have hl : s.data.toList.length = s.size := rfl
  go_enter Tryz.func63, Tryz.ntmps63
  go_wp2_with fail
  go_loopw [6] (fun t wr => ∃ k : Nat, k ≤ s.size ∧ t = .int .i64 (k : Int) ∧ Hid ((s.data.toList.take k).all wchar = true) ∧ ∃ m, wr = w.drewN m) (fun t _ => s.size - (intOf t).toNat)
  case atStart => exact ⟨0, by omega, rfl, rfl, 0, rfl⟩
  case round =>
    obtain ⟨k, hk, rfl, HL, hb⟩ := hrel
    by_cases h1 : k < s.size
    · have z1 : (0 : Int) ≤ (k : Int) := by omega
      have z2 : (k : Int) < (s.size : Int) := by omega
      have HE := all_step (l := s.data.toList) h1 HL.out
      have HN := all_not (l := s.data.toList) (k := k) h1
      have hx := bget s k h1
      obtain ⟨x, hx2⟩ : ∃ x, s.data.toList.getD k 0 = x := ⟨_, rfl⟩
      rw [hx2] at HE HN hx
      clear HL hx2
      by_cases g1 : x.toNat < 33
      · have c1 : ((x.toNat : Int) < 33) := by omega
        have hv : Hid (isW s = false) := by show _ = _; rw [isW, HN (by simp [wchar]; omega)]; rfl
        clear HE HN
        go_wp2_with fail
        go_ret
        exact ⟨by rw [hv.out]; rfl, hb⟩
      · have c1 : ¬ ((x.toNat : Int) < 33) := by omega
        by_cases g2 : 126 < x.toNat
        · have c2 : ((x.toNat : Int) > 126) := by omega
          have hv : Hid (isW s = false) := by show _ = _; rw [isW, HN (by simp [wchar]; omega)]; rfl
          clear HE HN
          go_wp2_with fail
          go_ret
          exact ⟨by rw [hv.out]; rfl, hb⟩
        · have c2 : ¬ ((x.toNat : Int) > 126) := by omega
          have hv : Hid ((s.data.toList.take (k + 1)).all wchar = true) := HE (by simp [wchar]; omega)
          clear HE HN
          go_wp2_with fail
          go_roundw
          case rel => exact ⟨k + 1, by omega, by go_num, hv, hb⟩
          case measure => simp [intOf]; omega
    · have hk2 : k = s.size := by omega
      subst hk2
      have ha : s.data.toList.all wchar = true := by
        have := HL.out
        rwa [← hl, List.take_length] at this
      have hv : Hid (isW s = decide (0 < s.size)) := by show _ = _; rw [isW, ha]; rfl
      clear HL ha h1 hk
      by_cases h0 : s.size = 0
      · have e0 : s = ⟨#[]⟩ := by
          apply ByteArray.ext
          exact Array.eq_empty_of_size_eq_zero h0
        subst e0
        go_wp2_with fail
        go_ret
        exact ⟨by rw [hv.out]; rfl, hb⟩
      · have e0 : s.toList.isEmpty = false := by
          rw [tl_eq, ← Bool.not_eq_true, List.isEmpty_iff]; intro h; rw [h] at hl; simp at hl; omega
        have hv' : Hid (isW s = true) := by show _ = _; rw [hv.out]; simp; omega
        clear hv
        go_wp2_with fail
        go_ret
        exact ⟨by rw [hv'.out]; rfl, hb⟩

set_option maxRecDepth 100000 in
set_option maxHeartbeats 400000 in
theorem lword_any (s : ByteArray) (w : World) (hs : s.size ≤ 1048576) : Calls Tryz.prog 22 #[.string s] w fun e w' => e = .returned (.tuple #[.string (wordT s), .bool (isW s)]) ∧ ∃ m, w' = w.drewN m := by
  have hl : s.data.toList.length = s.size := rfl
  go_enter Tryz.func22, Tryz.ntmps22
  go_wp2_with fail
  go_loopw [4] (fun t wr => ∃ k : Nat, k ≤ s.size ∧ t = .int .i64 (k : Int) ∧ Hid ((s.data.toList.take k).all wchar = true) ∧ ∃ m, wr = w.drewN m) (fun t _ => s.size - (intOf t).toNat)
  case atStart => exact ⟨0, by omega, rfl, rfl, 0, rfl⟩
  case round =>
    obtain ⟨k, hk, rfl, HL, hb⟩ := hrel
    by_cases h1 : k < s.size
    · have z1 : (0 : Int) ≤ (k : Int) := by omega
      have z2 : (k : Int) < (s.size : Int) := by omega
      have HE := all_step (l := s.data.toList) h1 HL.out
      have HN := all_not (l := s.data.toList) (k := k) h1
      have hx := bget s k h1
      obtain ⟨x, hx2⟩ : ∃ x, s.data.toList.getD k 0 = x := ⟨_, rfl⟩
      rw [hx2] at HE HN hx
      clear HL hx2
      by_cases g1 : x.toNat < 33
      · have c1 : ((x.toNat : Int) < 33) := by omega
        have ha := HN (by simp [wchar]; omega)
        have hv0 : isW s = false := by rw [isW, ha]; rfl
        have hv : Hid (isW s = false ∧ wordT s = ⟨#[]⟩) := ⟨hv0, by rw [wordT, hv0, ha]; rfl⟩
        clear HE HN ha hv0
        go_wp2_with fail
        go_ret2
        exact ⟨by rw [hv.out.1, hv.out.2]; rfl, hb⟩
      · have c1 : ¬ ((x.toNat : Int) < 33) := by omega
        by_cases g2 : 126 < x.toNat
        · have c2 : ((x.toNat : Int) > 126) := by omega
          have ha := HN (by simp [wchar]; omega)
          have hv0 : isW s = false := by rw [isW, ha]; rfl
          have hv : Hid (isW s = false ∧ wordT s = ⟨#[]⟩) := ⟨hv0, by rw [wordT, hv0, ha]; rfl⟩
          clear HE HN ha hv0
          go_wp2_with fail
          go_ret2
          exact ⟨by rw [hv.out.1, hv.out.2]; rfl, hb⟩
        · have c2 : ¬ ((x.toNat : Int) > 126) := by omega
          have hv : Hid ((s.data.toList.take (k + 1)).all wchar = true) := HE (by simp [wchar]; omega)
          clear HE HN
          go_wp2_with fail
          go_roundw
          case rel => exact ⟨k + 1, by omega, by go_num, hv, hb⟩
          case measure => simp [intOf]; omega
    · have hk2 : k = s.size := by omega
      subst hk2
      have ha : s.data.toList.all wchar = true := by
        have := HL.out
        rwa [← hl, List.take_length] at this
      have hv : Hid (isW s = decide (0 < s.size) ∧ s.data.toList.all wchar = true) := ⟨by rw [isW, ha]; rfl, ha⟩
      clear HL ha h1 hk
      by_cases h9 : s.data.toList = [95]
      · have e0 : (s.toList == [95]) = true := by rw [tl_eq, h9]; rfl
        have hv0 : isW s = true := by rw [hv.out.1, ← hl, h9]; rfl
        have hv' : Hid (isW s = true ∧ wordT s = ⟨#[]⟩) := ⟨hv0, by rw [wordT, if_pos hv0, meanW, if_pos h9]⟩
        clear hv0
        clear hv h9
        go_wp2_with fail
        go_ret2
        exact ⟨by rw [hv'.out.1, hv'.out.2]; rfl, hb⟩
      · have e0 : (s.toList == [95]) = false := by rw [tl_eq, beq_eq_false_iff_ne]; exact h9
        have hv' : Hid (wordT s = s ∧ isW s = decide (0 < s.size)) := ⟨by rw [wordT, meanW, if_neg h9, hv.out.2]; simp, hv.out.1⟩
        clear hv h9
        go_wp2_with fail
        go_ret2
        refine ⟨?_, hb⟩
        rw [hv'.out.1, hv'.out.2]
        simp

end Go.Proofs.YthklibioolnggaaGreatDoor
