import Derived.Test.YtfmpjlpakldheaaGreatDoorZras
import Derived.Test.YtfmpjlpakldheaaGreatDoorZrad
import Derived.Test.YtfmpjlpakldheaaGreatDoorZrar
import Derived.Test.YtfmpjlpakldheaaGreatDoorZram
import Derived.Test.YtfmpjlpakldheaaGreatDoorZral
import Derived.Deep.AppendLies
set_option maxRecDepth 100000
set_option maxHeartbeats 1000000
namespace Go.Proofs.YtfmpjlpakldheaaGreatDoor
open Go.RowKit Go.Proofs.Sha Tryz
theorem vlink_any (l : ByteArray) (n : Int) (w : World) (_hl : l.size <= 1048576) :
 Calls prog 149 #[.string l, .int .i64 n] w fun e w' => e = .returned (.bool (hashOk l.size n)) /\ w = w' := by
 have e1 := empty_iff l
 by_cases h1 : l.size = 0
 · have e2 : l.toList.isEmpty = true := by rw [e1, h1]; rfl
   have HR : Hid (hashOk l.size n = true) := by show _ = _; unfold hashOk; rw [h1]; rfl
   clear e1 h1
   go_enter func149, ntmps149
   go_wp2
   go_ret
   rw [HR.out]
   exact ⟨rfl, rfl⟩
 · have e2 : l.toList.isEmpty = false := by rw [e1]; simp [h1]
   by_cases h2 : (l.size : Int) = n
   · have HR : Hid (hashOk l.size n = true) := by show _ = _; unfold hashOk; simp [h2]
     have z : ((l.size : Int) == n) = true := by simp [h2]
     clear e1 h1 h2
     go_enter func149, ntmps149
     go_wp2
     go_ret
     rw [HR.out]
     exact ⟨rfl, rfl⟩
   · have HR : Hid (hashOk l.size n = false) := by show _ = _; unfold hashOk; simp [h1, h2]
     have z : ((l.size : Int) == n) = false := by simp [h2]
     clear e1 h1 h2
     go_enter func149, ntmps149
     go_wp2
     go_ret
     rw [HR.out]
     exact ⟨rfl, rfl⟩
theorem valid_any (k v l r : ByteArray) (n : Int) (w : World) (_hk : k.size <= 1048576) (_hv : v.size <= 1048576) (hl : l.size <= 1048576) (hr : r.size <= 1048576) :
 Calls prog 174 #[.agg #[.string k, .string v, .string l, .string r], .int .i64 n] w fun e w' => e = .returned (.bool (nodeOk k.size v.size l.size r.size n)) /\ Below w.heap.size w w' := by
 obtain ⟨x, hx⟩ : ∃ x, hashOk l.size n = x := ⟨_, rfl⟩
 obtain ⟨y, hy⟩ : ∃ y, hashOk r.size n = y := ⟨_, rfl⟩
 have HX : Hid (∀ w', Calls prog 149 #[.string l, .int .i64 n] w' fun e w'' => e = .returned (.bool x) /\ w' = w'') := fun w' => by rw [<- hx]; exact vlink_any l n w' hl
 have HY : Hid (∀ w', Calls prog 149 #[.string r, .int .i64 n] w' fun e w'' => e = .returned (.bool y) /\ w' = w'') := fun w' => by rw [<- hy]; exact vlink_any r n w' hr
 have HR : Hid (nodeOk k.size v.size l.size r.size n = (decide (1 <= n /\ n <= 32 /\ 1 <= k.size /\ k.size <= 256 /\ v.size <= 2000) && (x && y))) := by show _ = _; unfold nodeOk; rw [hx, hy]
 clear hx hy
 obtain ⟨z, hz⟩ : ∃ z, nodeOk k.size v.size l.size r.size n = z := ⟨_, rfl⟩
 rw [hz] at HR ⊢
 clear hz
 have hfin : Below w.heap.size w (w.alloc (.cells #[.string k, .string v, .string l, .string r] 128)) := (Below.refl _ _).alloc (Nat.le_refl _) _
 go_enter func174, ntmps174
 go_wp2_with (first | (go_at_call_of 149 (Value.string l); refine (HX.out _).mono ?_; rintro e w3 ⟨rfl, rfl⟩) | (go_at_call_of 149 (Value.string r); refine (HY.out _).mono ?_; rintro e w4 ⟨rfl, rfl⟩) | go_in)
 all_goals go_ret
 all_goals refine ⟨?_, hfin⟩
 all_goals rw [HR.out]
 all_goals clear HX HY HR
 all_goals first
  | (have e : ¬ (1 <= n /\ n <= 32 /\ 1 <= k.size /\ k.size <= 256 /\ v.size <= 2000) := (by omega); rw [decide_eq_false e]; rfl)
  | (have e : 1 <= n /\ n <= 32 /\ 1 <= k.size /\ k.size <= 256 /\ v.size <= 2000 := (by omega); rw [decide_eq_true e]; cases x <;> simp_all)
theorem wR42 (n : Int) (k v l r : ByteArray) (b : Nat) (q m : List UInt8) (w : World) (h : Bld b q w)
 (HC : Hid (∀ w', Bld b q w' -> Calls prog 208 #[.agg #[.int .i64 n], .pointer (some ⟨b, 0, none⟩), .agg #[.string k, .string v, .string l, .string r]] w' fun e w'' => e = .returned (.tuple #[]) /\ Put b m w' w'')) :
 Calls prog 179 #[.pointer (some ⟨b, 0, none⟩), .iface 227 (.agg #[.int .i64 n]), .agg #[.string k, .string v, .string l, .string r]] w fun e w' => e = .returned (.tuple #[]) /\ Put b m w w' := by
 have hmt : ∀ w : World, (method 388 227 (.agg #[.int .i64 n]) "loop.example/s03048/impl.put").run prog w = .ok (208, .agg #[.int .i64 n]) w := fun _ => by kernel_rfl
 go_enter func179, ntmps179
 go_wp2_with (first | (go_at_call 208; refine (HC.out _ (h.alloc _)).mono ?_; rintro e w2 ⟨rfl, hp2⟩))
 go_end0
 exact ⟨rfl, ((Put.refl h).alloc _).trans hp2⟩
theorem written_N (n : Int) (k v l r : ByteArray) (m : List UInt8) (w : World)
 (HC : Hid (∀ b w', Bld b [] w' -> Calls prog 179 #[.pointer (some ⟨b, 0, none⟩), .iface 227 (.agg #[.int .i64 n]), .agg #[.string k, .string v, .string l, .string r]] w' fun e w'' => e = .returned (.tuple #[]) /\ Put b m w' w'')) :
 Calls prog 175 #[.iface 227 (.agg #[.int .i64 n]), .agg #[.string k, .string v, .string l, .string r]] w fun e w' => ∃ t : ByteArray, e = .returned (.string t) /\ Hid (t.data.toList = m) /\ Below w.heap.size w w' := by
 go_enter func175, ntmps175
 go_wp2_with (first | (go_at_call 179; refine (HC.out (w.heap.size + 1) _ (fresh_bld1 w _)).mono ?_; rintro e w2 ⟨rfl, hp2⟩) | (go_at_call 180; refine (bstring _ _ _ hp2.1).mono ?_; rintro e w3 ⟨rfl, hb3⟩))
 go_ret
 exact ⟨_, rfl, rfl, ((((Below.refl _ _).alloc (Nat.le_refl _) _).alloc (by simp) _).trans (hp2.2.1.mono (by omega))).trans (hb3.mono (by omega))⟩
theorem of_list {t : ByteArray} {l : List UInt8} (h : t.data.toList = l) : t = T l := by rw [<- h, T_of]
theorem enc_impl (k v l r : ByteArray) (n : Int) (w : World) (hk : k.size <= 1048576) (hv : v.size <= 1048576) (hl : l.size <= 1048576) (hr : r.size <= 1048576) :
 Calls prog 164 #[.agg #[.string k, .string v, .string l, .string r], .int .i64 n] w fun e w' => ∃ t, e = .returned (.string t) /\ Hid (t = encS k v l r n) /\ Below w.heap.size w w' := by
 obtain ⟨z, hz⟩ : ∃ z, nodeOk k.size v.size l.size r.size n = z := ⟨_, rfl⟩
 have HV : Hid (∀ w', Calls prog 174 #[.agg #[.string k, .string v, .string l, .string r], .int .i64 n] w' fun e w'' => e = .returned (.bool z) /\ Below w'.heap.size w' w'') := fun w' => by rw [<- hz]; exact valid_any k v l r n w' hk hv hl hr
 cases z
 · have HR : Hid (encS k v l r n = ⟨#[]⟩) := by show _ = _; unfold encS; rw [if_neg (by rw [hz]; decide)]
   clear hz
   go_enter func164, ntmps164
   go_wp2_with (first | (go_at_call 174; refine (HV.out _).mono ?_; rintro e w1 ⟨rfl, hb1⟩))
   go_ret
   exact ⟨_, rfl, HR.out.symm, ((Below.refl _ w).alloc (Nat.le_refl _) _).trans (hb1.mono (by simp))⟩
 · have HR : Hid (encS k v l r n = T (encL k.data.toList v.data.toList l.data.toList r.data.toList)) := by show _ = _; unfold encS; rw [if_pos hz]
   have hsz : k.size <= 256 /\ v.size <= 2000 /\ l.size <= 32 /\ r.size <= 32 := by
    unfold nodeOk hashOk at hz
    simp only [Bool.and_eq_true, Bool.or_eq_true, decide_eq_true_eq] at hz
    omega
   obtain ⟨m, hm⟩ : ∃ m, encL k.data.toList v.data.toList l.data.toList r.data.toList = m := ⟨_, rfl⟩
   have HC : Hid (∀ w', Calls prog 175 #[.iface 227 (.agg #[.int .i64 n]), .agg #[.string k, .string v, .string l, .string r]] w' fun e w'' => ∃ t : ByteArray, e = .returned (.string t) /\ Hid (t.data.toList = m) /\ Below w'.heap.size w' w'') := by
    intro w'
    refine written_N n k v l r m w' ?_
    intro b' w'' h''
    refine wR42 n k v l r b' [] m w'' h'' ?_
    intro w3 h3
    have hf : (flagOf l.size r.size : Int) = 0 \/ (flagOf l.size r.size : Int) = 1 \/ (flagOf l.size r.size : Int) = 2 \/ (flagOf l.size r.size : Int) = 3 := by
     unfold flagOf; split <;> split <;> simp
    have := node_put_f (flagOf l.size r.size) _ rfl hf b' n k v l r [] w3 h3 (by simp) hsz.1 hsz.2.1 hsz.2.2.1 hsz.2.2.2 (fun w' => flags_any k v l r w')
    rw [List.nil_append] at this
    rw [<- hm]
    exact this
   rw [hm] at HR
   clear hz hm hsz
   go_enter func164, ntmps164
   go_wp2_with (first | (go_at_call 174; refine (HV.out _).mono ?_; rintro e w1 ⟨rfl, hb1⟩; have hn1 := below_cells hb1 (heap_alloc_new w (.cells #[.string k, .string v, .string l, .string r] 128)); have c0 := ZC hn1 0; have c1 := ZC hn1 1; have c2 := ZC hn1 2; have c3 := ZC hn1 3) | (go_at_call 175; refine (HC.out _).mono ?_; rintro e w2 ⟨t, rfl, HT, hb2⟩))
   go_ret
   exact ⟨t, rfl, (of_list HT.out).trans HR.out.symm, (((Below.refl _ w).alloc (Nat.le_refl _) _).trans (hb1.mono (by simp))).trans (hb2.mono (by have := hb1.size; simp at this; omega))⟩
abbrev at37 (gb c : Nat) : Value := .func (.func 120) #[] #[.pointer (some ⟨gb, 0, none⟩), .pointer (some ⟨c, 0, none⟩)]
theorem gt_bad (sb gb c wd : Nat) (lo hi root : ByteArray) (v0 v2 : Value) (w : World) (hb : w.heap[sb]? = some (.cells #[v0, .int .i64 (wd : Int), v2] 178)) (hr : root.size <= 1048576) (hk : hashOk root.size (wd : Int) = false) :
 Calls prog 118 #[.pointer (some ⟨sb, 0, none⟩), .string root, intoV lo hi, at37 gb c] w fun e w' => e = .returned (.int .i64 1) /\ Below w.heap.size w w' := by
 have HV := fun w' => vlink_any root (wd : Int) w' hr
 rw [hk] at HV
 have hA : Below w.heap.size w (w.alloc (.cells #[at37 gb c] 168)) := (Below.refl _ _).alloc (Nat.le_refl _) _
 have c1 : (w.alloc (.cells #[at37 gb c] 168)).cell? ⟨sb, 1, none⟩ = some (.int .i64 (wd : Int)) := ZC ((hA.block sb (Array.getElem?_eq_some_iff.1 hb).1).trans hb) 1
 go_enter func118, ntmps118
 go_wp2_with (first | (go_at_call 149; refine (HV _).mono ?_; rintro e w2 ⟨rfl, rfl⟩))
 go_ret
 exact ⟨rfl, hA⟩
theorem gt_ok (fnd : ByteArray -> FN) (wd : Nat) (hfo : FndOk wd fnd) (wg : World) (B0 sb gb c : Nat) (lo hi root : ByteArray) (v0 v2 : Value) (w : World) (hb : w.heap[sb]? = some (.cells #[v0, .int .i64 (wd : Int), v2] 178)) (hr : root.size <= 1048576) (hk : hashOk root.size (wd : Int) = true) (hsz : root.size = 0 \/ root.size = wd)
 (hbw : Below B0 wg w) (hBc : B0 <= c) (hBs : B0 <= w.heap.size) (hgb : w.heap[gb]? = some (.cells #[.string lo, .string hi] 109)) (hcb : w.heap[c]? = some (.cells #[.slice none 0 0] 23))
 (HF : Hid (∀ (hash : ByteArray) w', hash.size = wd -> Below B0 wg w' -> Calls prog 176 #[.pointer (some ⟨sb, 0, none⟩), .string hash] w' fun e w'' => e = .returned (nodeT (fnd hash)) /\ Below w'.heap.size w' w''))
 (HR : Hid (∀ (k : ByteArray) w', okKey k = true -> Below B0 wg w' -> Calls prog 158 #[Value.string k] w' fun e w'' => e = .returned (.agg (rkL k).toArray) /\ Below w'.heap.size w' w'')) (R : Int × Nat × List PairT) (hRe : goF fnd hgW lo hi 501 root ⟨#[]⟩ ⟨#[]⟩ ⟨#[]⟩ 0 = R) :
 Calls prog 118 #[.pointer (some ⟨sb, 0, none⟩), .string root, intoV lo hi, at37 gb c] w fun e w' => e = .returned (.int .i64 R.1) /\ Fr w.heap.size (fun q => q = c) w w' /\ (R.1 = 0 -> ∃ base a cap, w.heap.size <= base /\ LS c base R.2.2 a cap w') := by
 have HV := fun w' => vlink_any root (wd : Int) w' hr
 rw [hk] at HV
 have hA : Below w.heap.size w (w.alloc (.cells #[at37 gb c] 168)) := (Below.refl _ _).alloc (Nat.le_refl _) _
 have c1 : (w.alloc (.cells #[at37 gb c] 168)).cell? ⟨sb, 1, none⟩ = some (.int .i64 (wd : Int)) := ZC ((hA.block sb (Array.getElem?_eq_some_iff.1 hb).1).trans hb) 1
 go_enter func118, ntmps118
 go_upto_region 4 with (first | (go_at_call 149; refine (HV _).mono ?_; rintro e w2 ⟨rfl, rfl⟩))
 have hgl := (Array.getElem?_eq_some_iff.1 hgb).1
 have hcl := (Array.getElem?_eq_some_iff.1 hcb).1
 have hW : Below w.heap.size w (((w.alloc (.cells #[at37 gb c] 168)).alloc (.cells #[.pointer (some ⟨sb, 0, none⟩), .int .i64 0, .int .i64 0] 203)).alloc (.cells #[.pointer (some ⟨w.heap.size + 1, 0, none⟩)] 201)) := (((Below.refl _ _).alloc (Nat.le_refl _) _).alloc (by simp) _).alloc (by simp; omega) _
 have nX := heap_alloc_new ((w.alloc (.cells #[at37 gb c] 168)).alloc (.cells #[.pointer (some ⟨sb, 0, none⟩), .int .i64 0, .int .i64 0] 203)) (.cells #[.pointer (some ⟨w.heap.size + 1, 0, none⟩)] 201)
 have nL0 : ((w.alloc (.cells #[at37 gb c] 168)).alloc (.cells #[.pointer (some ⟨sb, 0, none⟩), .int .i64 0, .int .i64 0] 203)).heap[w.heap.size + 1]? = some (.cells #[.pointer (some ⟨sb, 0, none⟩), .int .i64 0, .int .i64 0] 203) := by
  have := heap_alloc_new (w.alloc (.cells #[at37 gb c] 168)) (.cells #[.pointer (some ⟨sb, 0, none⟩), .int .i64 0, .int .i64 0] 203)
  rw [World.size_alloc] at this
  exact this
 have nL := (Below.heap_alloc ((w.alloc (.cells #[at37 gb c] 168)).alloc (.cells #[.pointer (some ⟨sb, 0, none⟩), .int .i64 0, .int .i64 0] 203)) (.cells #[.pointer (some ⟨w.heap.size + 1, 0, none⟩)] 201) (w.heap.size + 1) (by simp)).trans nL0
 clear nL0
 have nA := (Below.heap_alloc ((w.alloc (.cells #[at37 gb c] 168)).alloc (.cells #[.pointer (some ⟨sb, 0, none⟩), .int .i64 0, .int .i64 0] 203)) (.cells #[.pointer (some ⟨w.heap.size + 1, 0, none⟩)] 201) w.heap.size (by simp; omega)).trans ((Below.heap_alloc (w.alloc (.cells #[at37 gb c] 168)) (.cells #[.pointer (some ⟨sb, 0, none⟩), .int .i64 0, .int .i64 0] 203) w.heap.size (by simp)).trans (heap_alloc_new w (.cells #[at37 gb c] 168)))
 have hzW : (((w.alloc (.cells #[at37 gb c] 168)).alloc (.cells #[.pointer (some ⟨sb, 0, none⟩), .int .i64 0, .int .i64 0] 203)).alloc (.cells #[.pointer (some ⟨w.heap.size + 1, 0, none⟩)] 201)).heap.size = w.heap.size + 3 := by simp
 rw [World.size_alloc, World.size_alloc] at nX
 generalize ((w.alloc (.cells #[at37 gb c] 168)).alloc (.cells #[.pointer (some ⟨sb, 0, none⟩), .int .i64 0, .int .i64 0] 203)).alloc (.cells #[.pointer (some ⟨w.heap.size + 1, 0, none⟩)] 201) = W at hW nX nL nA hzW ⊢
 obtain ⟨S, hS⟩ : ∃ S, w.heap.size = S := ⟨_, rfl⟩
 have nc : W.heap[c]? = some (.cells #[.slice none 0 0] 23) := (hW.block c hcl).trans hcb
 have ng : W.heap[gb]? = some (.cells #[.string lo, .string hi] 109) := (hW.block gb hgl).trans hgb
 have hst : Stc B0 (S + 3) (S + 1) c gb (S + 1 + 1) S := by
  rw [hS] at hgl hcl hBs
  have hne : gb ≠ c := ne_of_type ng nc (by decide)
  exact ⟨by omega, by omega, by omega, by omega, by omega, by omega, by omega, by omega, by omega, by omega, by omega, by omega, by omega, hne, by omega⟩
 have hbW : Below B0 wg W := hbw.trans (hW.mono hBs)
 rw [hS] at nX nL nA hzW
 have hEn : Env wg B0 (S + 3) (S + 1) c gb (S + 1 + 1) S lo hi W := ⟨nX, nA, ng, hbW, by omega⟩
 have hLn : LD (S + 1) sb 0 0 W := nL
 have hSn : LS c (S + 3) [] none 0 W := ⟨nc, ⟨rfl, .inl ⟨rfl, rfl⟩⟩, by omega⟩
 have HB := branchAt_any root ⟨#[]⟩ ⟨#[]⟩ none W
 have HW : Hid (∀ p w3, LinkAt root ⟨#[]⟩ ⟨#[]⟩ none p w3 -> (∀ q, p = some q -> W.heap.size <= q.block) -> Below W.heap.size W w3 -> Calls prog 150 #[.pointer p, intoV lo hi, atV (S + 1 + 1) S] w3 fun e w' => (∃ x, e = .returned (.bool x)) /\ w'.cell? ⟨S + 1 + 1, 0, none⟩ = some (.pointer (some ⟨S + 1, 0, none⟩)) /\ w'.cell? ⟨S + 1, 2, none⟩ = some (.int .i64 R.1) /\ Fr w.heap.size (fun q => q = c) w w' /\ (R.1 = 0 -> ∃ base a cap, w.heap.size <= base /\ LS c base R.2.2 a cap w')) := fun p w3 hl hp hb3 => by
  refine (walk_any fnd wd hfo wg B0 (S + 3) (S + 1) sb c gb (S + 1 + 1) S lo hi hst HF HR 501 root ⟨#[]⟩ ⟨#[]⟩ ⟨#[]⟩ none p 0 [] none 0 w3 (hEn.below hst hb3) hl (.inl ⟨rfl, rfl⟩) (hLn.below hb3) (hSn.below hb3) (fun q hq => by have := hp q hq; omega) hsz (by omega) (by omega) (Nat.le_refl _)).mono ?_
  rw [hRe]
  rintro e w' ⟨rfl, f', g', n'⟩
  have hE' := (hEn.below hst hb3).fr hst f' (fun q hq => by
   rcases hq with ⟨x, hx, e⟩ | e | e
   · have := hp x hx; exact .inr (.inr (by omega))
   · exact .inl e
   · exact .inr (.inl e))
  have hld : ∃ m, LD (S + 1) sb m R.1 w' := by
   by_cases h0 : R.1 = 0
   · rw [h0]; exact ⟨_, (g' h0).1⟩
   · exact n' h0
  obtain ⟨m, hld⟩ := hld
  refine ⟨⟨_, rfl⟩, ZC hE'.bx 0, ZC hld 2, ?_, fun h0 => ?_⟩
  · refine ((Fr.of_below (base := w.heap.size) (N := fun q => q = c) hW).trans (Fr.of_below (N := fun q => q = c) hb3) (fun _ _ x => x)).trans (f'.base (by omega)) (fun q hq hx => ?_)
    rcases hx with ⟨x, hx, e⟩ | e | e
    · have := hp x hx; omega
    · omega
    · exact e
  · obtain ⟨a', cap', h'⟩ := (g' h0).2
    exact ⟨S + 3, a', cap', by omega, by simpa using h'⟩
 clear hEn hLn hSn nX nL nA nc ng hgl hcl hbW HF HR
 go_wp2_with (first | (go_at_call 151; refine HB.mono ?_; rintro e w3 ⟨p, rfl, hl3, hp3, hb3⟩) | (go_at_call 150; refine (HW.out _ _ hl3 hp3 hb3).mono ?_; rintro e w4 ⟨⟨x, rfl⟩, d1, d2, d3⟩))
 go_ret
 exact ⟨rfl, d3⟩
theorem pw_any (fnd : ByteArray -> FN) (wd : Nat) (hfo : FndOk wd fnd) (sb : Nat) (lo hi root : ByteArray) (v0 v2 : Value) (w : World) (hb : w.heap[sb]? = some (.cells #[v0, .int .i64 (wd : Int), v2] 178)) (hr : root.size <= 1048576)
 (HF : Hid (∀ (hash : ByteArray) w', hash.size = wd -> Below w.heap.size w w' -> Calls prog 176 #[.pointer (some ⟨sb, 0, none⟩), .string hash] w' fun e w'' => e = .returned (nodeT (fnd hash)) /\ Below w'.heap.size w' w''))
 (HR : Hid (∀ (k : ByteArray) w', okKey k = true -> Below w.heap.size w w' -> Calls prog 158 #[Value.string k] w' fun e w'' => e = .returned (.agg (rkL k).toArray) /\ Below w'.heap.size w' w'')) :
 Calls prog 77 #[.pointer (some ⟨sb, 0, none⟩), .string root, .agg #[.string lo, .string hi]] w (RangeAt (if hashOk root.size (wd : Int) = true then (if (goF fnd hgW lo hi 501 root ⟨#[]⟩ ⟨#[]⟩ ⟨#[]⟩ 0).1 = 0 then ((goF fnd hgW lo hi 501 root ⟨#[]⟩ ⟨#[]⟩ ⟨#[]⟩ 0).2.2, 0) else ([], (goF fnd hgW lo hi 501 root ⟨#[]⟩ ⟨#[]⟩ ⟨#[]⟩ 0).1)) else ([], 1)) w) := by
 obtain ⟨R, hR⟩ : ∃ R, goF fnd hgW lo hi 501 root ⟨#[]⟩ ⟨#[]⟩ ⟨#[]⟩ 0 = R := ⟨_, rfl⟩
 rw [hR]
 have hW : Below w.heap.size w ((w.alloc (.cells #[.string lo, .string hi] 109)).alloc (.cells #[.slice none 0 0] 23)) := ((Below.refl _ _).alloc (Nat.le_refl _) _).alloc (by simp) _
 have nC := heap_alloc_new (w.alloc (.cells #[.string lo, .string hi] 109)) (.cells #[.slice none 0 0] 23)
 have nG := (Below.heap_alloc (w.alloc (.cells #[.string lo, .string hi] 109)) (.cells #[.slice none 0 0] 23) w.heap.size (by simp)).trans (heap_alloc_new w (.cells #[.string lo, .string hi] 109))
 rw [World.size_alloc] at nC
 have hzW : ((w.alloc (.cells #[.string lo, .string hi] 109)).alloc (.cells #[.slice none 0 0] 23)).heap.size = w.heap.size + 2 := by simp
 have hbW := (hW.block sb (Array.getElem?_eq_some_iff.1 hb).1).trans hb
 cases hk : hashOk root.size (wd : Int) with
 | false =>
  rw [if_neg (by decide)]
  have HG := gt_bad sb w.heap.size (w.heap.size + 1) wd lo hi root v0 v2 _ hbW hr hk
  have HP : Hid (∀ w', Below w.heap.size w w' -> RangeAt ([], 1) w (.returned (.tuple #[.slice none 0 0, .int .i64 1])) w') := fun w' hw' => ⟨⟨none, 0, rfl, ⟨rfl, .inl ⟨rfl, rfl⟩⟩⟩, hw'⟩
  have HQ : Hid (∀ w2, Below ((w.alloc (.cells #[.string lo, .string hi] 109)).alloc (.cells #[.slice none 0 0] 23)).heap.size ((w.alloc (.cells #[.string lo, .string hi] 109)).alloc (.cells #[.slice none 0 0] 23)) w2 -> Below w.heap.size w w2) := fun w2 hb2 => hW.trans (hb2.mono hW.size)
  clear HF HR hR hzW nC nG hbW hW hb
  go_enter func77, ntmps77
  go_wp2_with (first | (go_at_call 118; refine HG.mono ?_; rintro e w2 ⟨rfl, hb2⟩; replace hb2 := HQ.out _ hb2))
  go_ret2
  exact HP.out _ hb2
 | true =>
  rw [if_pos rfl]
  have hsz : root.size = 0 \/ root.size = wd := by
   unfold hashOk at hk
   rcases (Bool.or_eq_true _ _).mp hk with h | h
   · exact .inl (of_decide_eq_true h)
   · exact .inr (by have := of_decide_eq_true h; omega)
  have HG := gt_ok fnd wd hfo w w.heap.size sb w.heap.size (w.heap.size + 1) lo hi root v0 v2 _ hbW hr hk hsz hW (by omega) hW.size nG nC HF HR R hR
  have HQ : Hid (∀ w2, Fr ((w.alloc (.cells #[.string lo, .string hi] 109)).alloc (.cells #[.slice none 0 0] 23)).heap.size (fun q => q = w.heap.size + 1) ((w.alloc (.cells #[.string lo, .string hi] 109)).alloc (.cells #[.slice none 0 0] 23)) w2 -> Below w.heap.size w w2) := fun w2 hf => hW.trans (hf.below hW.size (fun q e => by omega) hW.size)
  by_cases h0 : R.1 = 0
  · rw [if_pos h0]
    rw [h0] at HG
    have HL : Hid (∀ w2 (base : Nat) a cap, ((w.alloc (.cells #[.string lo, .string hi] 109)).alloc (.cells #[.slice none 0 0] 23)).heap.size <= base -> Below w.heap.size w w2 -> LS (w.heap.size + 1) base R.2.2 a cap w2 -> w2.cell? ⟨w.heap.size + 1, 0, none⟩ = some (.slice a R.2.2.length cap) /\ RangeAt (R.2.2, 0) w (.returned (.tuple #[.slice a R.2.2.length cap, .int .i64 0])) w2) := fun w2 base a cap hbs hb2 hl => ⟨ZC hl.blk 0, ⟨⟨a, cap, rfl, own2_mono hl.own (Nat.le_trans hW.size hbs)⟩, hb2⟩⟩
    clear HF HR hR hzW nC nG hbW hW hb h0
    go_enter func77, ntmps77
    go_wp2_with (first | (go_at_call 118; refine HG.mono ?_; rintro e w2 ⟨rfl, hf2, hl2⟩; obtain ⟨base, a2, cap2, hbs2, hl2⟩ := hl2 (by trivial); obtain ⟨c2, hr2⟩ := HL.out _ _ _ _ hbs2 (HQ.out _ hf2) hl2))
    go_ret2
    exact hr2
  · rw [if_neg h0]
    have HP : Hid (∀ w', Below w.heap.size w w' -> RangeAt ([], R.1) w (.returned (.tuple #[.slice none 0 0, .int .i64 R.1])) w') := fun w' hw' => ⟨⟨none, 0, rfl, ⟨rfl, .inl ⟨rfl, rfl⟩⟩⟩, hw'⟩
    clear HF HR hR hzW nC nG hbW hW hb
    go_enter func77, ntmps77
    go_wp2_with (first | (go_at_call 118; refine HG.mono ?_; rintro e w2 ⟨rfl, hf2, hl2⟩; replace hf2 := HQ.out _ hf2))
    go_ret2
    exact HP.out _ hf2
theorem own_cells {w : World} {base g n : Nat} {v : Value} {xs : List Value} (h : w.ownsRow base 9 1 v n xs) (hv : v.ownBlock = some g) : base <= g /\ g < w.heap.size /\ ∃ cur, w.heap[g]? = some (.cells cur 9 (0, 0)) := by
 rcases h.2 with ⟨rfl, _⟩ | ⟨g', cap, cur, rfl, hb, hg, _⟩
 · cases hv
 · obtain rfl : g' = g := Option.some.inj hv
   exact ⟨hb, (Array.getElem?_eq_some_iff.1 hg).1, cur, hg⟩
theorem own_kept {w w' : World} {base n : Nat} {v : Value} {xs : List Value} (h : w.ownsRow base 9 1 v n xs) (hk : ∀ g, v.ownBlock = some g -> g < w.heap.size -> w'.heap[g]? = w.heap[g]?) : w'.ownsRow base 9 1 v n xs := by
 refine ⟨h.1, ?_⟩
 rcases h.2 with ⟨h1, h2⟩ | ⟨g, cap, cur, hv, hb, hg, rest⟩
 · exact .inl ⟨h1, h2⟩
 · exact .inr ⟨g, cap, cur, hv, hb, (hk g (by rw [hv]; rfl) (Array.getElem?_eq_some_iff.1 hg).1).trans hg, rest⟩
theorem own_sarg {w : World} {base n c : Nat} {a : Option Addr} {ss : List ByteArray} (h : w.ownsRow base 9 1 (.slice a ss.length c) n (ss.map Value.string)) (hl : ss.length <= 1048576) (hs : ∀ j, (ss.getD j ⟨#[]⟩).size <= 1048576) : SArg a ss w := by
 refine ⟨hl, hs, fun hn => ?_⟩
 rcases h.2 with ⟨e, h0⟩ | ⟨g, cap, cur, e, hb, hg, q1, q2, q3, q4⟩
 · simp only [Value.slice.injEq] at e; omega
 · simp only [Value.slice.injEq] at e
   obtain ⟨rfl, e2, rfl⟩ := e
   refine ⟨g, 0, rfl, (Array.getElem?_eq_some_iff.1 hg).1, fun j hj => ?_⟩
   rw [Nat.zero_add, cell_of_row w g j cur 9 (0, 0) hg]
   have hx : (ss.map Value.string)[j]? = some (.string (ss.getD j ⟨#[]⟩)) := by
    rw [List.getElem?_map, List.getElem?_eq_getElem hj, List.getD_eq_getElem?_getD, List.getElem?_eq_getElem hj]; rfl
   rw [<- q4, List.getElem?_take, if_pos (by omega)] at hx
   simpa using hx
theorem wrapI_in (x : Int) (h : -9223372036854775808 <= x /\ x <= 9223372036854775807) : IntKind.i64.wrap x = x := by rw [IntKind.wrap_i64]; omega
theorem placesF_app (wd : Nat) (es : List ByteArray) (e : ByteArray) (k : Nat) (hk : k <= es.length) : placesF wd (es ++ [e]) k = placesF wd es k := by
 induction k with
 | zero => rfl
 | succ k ih =>
  rw [placesF, placesF, ih (by omega)]
  congr 2
  rw [List.getD_eq_getElem?_getD, List.getD_eq_getElem?_getD, List.getElem?_append_left (by omega)]
theorem placesF_snoc (wd : Nat) (es : List ByteArray) (e : ByteArray) : placesF wd (es ++ [e]) (es ++ [e]).length = addF (placesF wd es es.length) (cutW wd (sha (78 :: e.data.toList))) (es.length : Int) := by
 rw [List.length_append, List.length_singleton, placesF, placesF_app wd es e es.length (Nat.le_refl _)]
 congr 1
 rw [List.getD_eq_getElem?_getD, List.getElem?_append_right (Nat.le_refl _), Nat.sub_self]
 rfl
structure StockAt (sb r base wd : Nat) (es : List ByteArray) (a : Option Addr) (c : Nat) (w : World) : Prop where
 blk : w.heap[sb]? = some (.cells #[.slice a es.length c, .int .i64 (wd : Int), .map (some r)] 178)
 own : w.ownsRow base 9 1 (.slice a es.length c) es.length (es.map Value.string)
 map : MapF (placesF wd es es.length) r w
 hl : sb < base
 hr : r < base
 hne : sb ≠ r
 hb : base <= w.heap.size
theorem StockAt.below {sb r base wd : Nat} {es : List ByteArray} {a : Option Addr} {c : Nat} {w w' : World} (h : StockAt sb r base wd es a c w) (hb : Below w.heap.size w w') : StockAt sb r base wd es a c w' := by
 have h1 := h.hl
 have h2 := h.hb
 exact ⟨(hb.block sb (by omega)).trans h.blk, own_kept h.own (fun g _ hg => hb.block g hg), h.map.below hb, h1, h.hr, h.hne, Nat.le_trans h2 hb.size⟩
theorem newStock_any (wd : Nat) (w : World) : Calls prog 111 #[.int .i64 (wd : Int)] w fun e w' => ∃ sb r, e = .returned (.pointer (some ⟨sb, 0, none⟩)) /\ StockAt sb r (sb + 1) wd [] none 0 w' /\ Below w.heap.size w w' /\ w.heap.size <= r /\ r < sb := by
 go_enter func111, ntmps111
 go_wp2_with fail
 refine (newP_any (wd : Int) w).mono ?_
 rintro e w1 ⟨r, rfl, hr, hM, hb⟩
 have hrl : r < w1.heap.size := by
  obtain ⟨es, cl, hg, _, _⟩ := hM.is
  exact (Array.getElem?_eq_some_iff.1 hg).1
 have hbA : Below w1.heap.size w1 (w1.alloc (.cells #[.slice none 0 0, .int .i64 (wd : Int), .map (some r)] 178)) := (Below.refl _ _).alloc (Nat.le_refl _) _
 have nA := heap_alloc_new w1 (.cells #[.slice none 0 0, .int .i64 (wd : Int), .map (some r)] 178)
 go_wp2_with fail
 go_ret
 exact ⟨w1.heap.size, r, rfl, ⟨nA, World.ownsRow_nil _ _ _ _, hM.below hbA, by omega, by omega, by omega, by simp⟩, hb.trans (hbA.mono hb.size), hr, hrl⟩
theorem stockAdd_all {K : World -> Prop} (HH : Hid (HashSaid K)) (keep : Hid (∀ w1 w2, K w1 -> Below w1.heap.size w1 w2 -> K w2)) (sb r base wd : Nat) (es : List ByteArray) (a : Option Addr) (c : Nat) (enc : ByteArray) (w : World) (h : StockAt sb r base wd es a c w) (hK : K w) (hs : enc.size <= 1048576) (h1 : wd <= 32) (hlen : es.length <= 1048576) :
 Calls prog 112 #[.pointer (some ⟨sb, 0, none⟩), .string enc] w fun e w' => ∃ a' c', e = .returned (.tuple #[]) /\ StockAt sb r base wd (es ++ [enc]) a' c' w' /\ (∀ n, n <= sb -> n <= r -> Below n w w') /\ ∀ q, q < base -> q ≠ sb -> q ≠ r -> w'.heap[q]? = w.heap[q]? := by
 obtain ⟨F, hF⟩ : ∃ F, placesF wd es es.length = F := ⟨_, rfl⟩
 have HF : Hid (placesF wd (es ++ [enc]) (es ++ [enc]).length = addF F (cutW wd (sha (78 :: enc.data.toList))) (es.length : Int)) := by
  show _ = _
  rw [placesF_snoc, hF]
 obtain ⟨i0, hi0, hz0, hz1, hz2⟩ := info_parts info9
 have hM := h.map
 rw [hF] at hM
 obtain ⟨m, hm⟩ : ∃ m, es.length = m := ⟨_, rfl⟩
 have HAdd : Hid (∀ w', Below w.heap.size w w' -> Calls prog 146 #[.agg #[.int .i64 (wd : Int), .map (some r)], .string enc, .int .i64 (m : Int)] w' fun e w'' => e = .returned (.tuple #[]) /\ MapF (addF F (cutW wd (sha (78 :: enc.data.toList))) (m : Int)) r w'' /\ w'.grownBy w'' (some r)) := fun w' hb => add_any HH wd r F enc _ w' (hM.below hb) (keep.out _ _ hK hb) keep hs h1
 have hblk := h.blk
 have hlb := h.hl
 have hrb := h.hr
 have hne := h.hne
 have hbs := h.hb
 have oA := h.own
 rw [hm] at hblk oA hlen
 have HX : Hid (∀ w5 g4 c4, w5.heap[sb]? = some (.cells #[.slice (some ⟨g4, 0, none⟩) (m + 1) c4, .int .i64 (wd : Int), .map (some r)] 178) →
  w5.ownsRow base 9 1 (.slice (some ⟨g4, 0, none⟩) (m + 1) c4) (m + 1) (es.map Value.string ++ [.string enc]) -> MapF (addF F (cutW wd (sha (78 :: enc.data.toList))) (m : Int)) r w5 -> base <= w5.heap.size →
  StockAt sb r base wd (es ++ [enc]) (some ⟨g4, 0, none⟩) c4 w5) := by
  intro w5 g4 c4 q1 q2 q3 q4
  have hl : (es ++ [enc]).length = m + 1 := by rw [List.length_append, hm]; rfl
  refine ⟨by rw [hl]; exact q1, by rw [hl, List.map_append]; exact q2, ?_, hlb, hrb, hne, q4⟩
  rw [HF.out, hm]; exact q3
 generalize addF F (cutW wd (sha (78 :: enc.data.toList))) (m : Int) = G at HX HAdd
 clear HF hM hF HH keep hK hs h1
 have HC : Hid (∀ W : World, W.heap[sb]? = w.heap[sb]? -> W.cell? ⟨sb, 0, none⟩ = some (.slice a m c) /\ W.cell? ⟨sb, 1, none⟩ = some (.int .i64 (wd : Int)) /\ W.cell? ⟨sb, 2, none⟩ = some (.map (some r))) := fun W hW => by
  have hb := hW.trans hblk
  exact ⟨ZC hb 0, ZC hb 1, ZC hb 2⟩
 have hlt : sb < w.heap.size := by omega
 replace oA : Hid _ := oA
 replace hblk : Hid _ := hblk
 replace hi0 : Hid _ := hi0
 replace hz0 : Hid _ := hz0
 replace hz1 : Hid _ := hz1
 replace hz2 : Hid _ := hz2
 clear h hm
 go_enter func112, ntmps112
 go_wp2_with fail
 go_region_held3 (fun W => W.cell? ⟨sb, 0, none⟩ = some (.slice a m c) /\ W.cell? ⟨sb, 1, none⟩ = some (.int .i64 (wd : Int)) /\ W.cell? ⟨sb, 2, none⟩ = some (.map (some r))) (first | exact HC.out _ rfl | exact HC.out _ hlb1) (first | (go_at_call 146; refine (HAdd.out _ (Below.refl w.heap.size w).drew).mono ?_; rintro e w1 ⟨rfl, hM1, hg1'⟩; have hg1 : w.grownBy w1 (some r) := grownBy_trans (grownBy_of_below (Below.refl w.heap.size w).drew _) hg1'; have hlb1 : w1.heap[sb]? = w.heap[sb]? := hg1.block sb hlt (fun e => hne (Option.some.inj e)); clear hg1'))
 have hb1 := hlb1.trans hblk.out
 have oA1 : w1.ownsRow base 9 1 (.slice a m c) m (es.map Value.string) := own_kept oA.out (fun g hv hg => hg1.block g hg (fun e => by have := Option.some.inj e; have := (own_cells oA.out hv).1; omega))
 have hs1 := hg1.size
 have c3 := ZC hb1 0
 have hbA : Below w1.heap.size w1 (w1.alloc (.cells #[.string enc] 9)) := (Below.refl _ _).alloc (Nat.le_refl _) _
 clear HAdd HC
 go_wp2_with (first | (refine wpList_append_lies _ rfl (.tmp 19) (.tmp 21) 35 rfl base 9 i0 (.string ⟨#[]⟩) 1 16 Tryz.underlying35 hi0.out hz0.out hz1.out hz2.out rfl (by decide) _ m (es.map Value.string) rfl (oA1.alloc _) ⟨w1.heap.size, 0, none⟩ 1 1 [.string enc] rfl rfl (World.news_of_block (heap_alloc_new w1 _)) (by simp [Value.oneCell']) (by decide) (by unfold maxLen; omega) (by omega) (by simp; omega) (w1.heap.size + 1) (by simp) ?_; intro g4 c4 w4 hown4 hgrow4 hat4 hlt4; have hb4 := (hgrow4.block sb (by simp; omega) (fun e => by have := (own_cells oA1 e.symm).1; omega)).trans ((hbA.block sb (by omega)).trans hb1); have k3 := ZC hb4 0; have f3 : w4.frozen? ⟨sb, 0, none⟩ = false := by rw [World.frozen?, hb4]; rfl))
 go_end0
 obtain ⟨w5, hw5⟩ : ∃ w5, w5 = w4.setCell ⟨sb, 0, none⟩ (.slice (some ⟨g4, 0, none⟩) (m + 1) c4) := ⟨_, rfl⟩
 have hs4 := hgrow4.size
 simp at hs4
 have hg5 := grownBy_setCell w4 sb 0 (.slice (some ⟨g4, 0, none⟩) (m + 1) c4)
 have hs5 := hg5.size
 have hg4b : base <= g4 := (own_cells hown4 rfl).1
 rw [<- hw5] at hg5 hs5
 refine ⟨some ⟨g4, 0, none⟩, c4, rfl, ?_, ?_, ?_⟩
 · rw [<- hw5]
   refine HX.out w5 g4 c4 (by rw [hw5]; exact heap_setCell_same w4 sb 0 _ 178 _ hb4) (own_kept hown4 (fun g hv hg => by have e : g4 = g := Option.some.inj hv; exact hg5.block g hg (fun e' => by have := Option.some.inj e'; omega))) ?_ (by omega)
   have hMa := hM1.below hbA
   have hMb : MapF G r w4 := by
    obtain ⟨es', cl, hh, q1, q2⟩ := hMa.is
    exact ⟨es', cl, (hgrow4.block r (Array.getElem?_eq_some_iff.1 hh).1 (fun e => by have := (own_cells oA1 e.symm).1; omega)).trans hh, q1, q2⟩
   exact hMb.kept hg5 (fun e => hne e.symm)
 · rw [<- hw5]
   intro n hn1 hn2
   have b1 : Below n w w1 := below_of_grown hg1 hn2 (by omega)
   have b2 : Below n w1 (w1.alloc (.cells #[.string enc] 9)) := hbA.mono (by omega)
   have b3 : Below n (w1.alloc (.cells #[.string enc] 9)) w4 := ⟨hgrow4.os, hgrow4.tape, hgrow4.output, hgrow4.size, fun k hk => hgrow4.block k (by simp; omega) (fun e => by have := (own_cells oA1 e.symm).1; omega)⟩
   have b4 : Below n w4 w5 := below_of_grown hg5 hn1 (by omega)
   exact ((b1.trans b2).trans b3).trans b4
 · rw [<- hw5]
   intro q hq hq1 hq2
   have e1 := hg1.block q (by omega) (fun e => hq2 (Option.some.inj e))
   have e2 := hbA.block q (by omega)
   have e3 := hgrow4.block q (by simp; omega) (fun e => by have := (own_cells oA1 e.symm).1; omega)
   have e4 := hg5.block q (by omega) (fun e => hq1 (Option.some.inj e))
   exact ((e4.trans e3).trans e2).trans e1
theorem stockAdd_any {K : World -> Prop} (HH : Hid (HashSaid K)) (keep : Hid (∀ w1 w2, K w1 -> Below w1.heap.size w1 w2 -> K w2)) (sb r base wd : Nat) (es : List ByteArray) (a : Option Addr) (c : Nat) (enc : ByteArray) (w : World) (h : StockAt sb r base wd es a c w) (hK : K w) (hs : enc.size <= 1048576) (h1 : wd <= 32) (hlen : es.length <= 1048576) :
 Calls prog 112 #[.pointer (some ⟨sb, 0, none⟩), .string enc] w fun e w' => ∃ a' c', e = .returned (.tuple #[]) /\ StockAt sb r base wd (es ++ [enc]) a' c' w' /\ ∀ n, n <= sb -> n <= r -> Below n w w' :=
 (stockAdd_all HH keep sb r base wd es a c enc w h hK hs h1 hlen).mono (by rintro e w' ⟨a', c', he, q1, q2, _⟩; exact ⟨a', c', he, q1, q2⟩)
end Go.Proofs.YtfmpjlpakldheaaGreatDoor
