import Derived.Test.YtfmpjlpakldheaaGreatDoorZrbe
import Derived.Test.YtfmpjlpakldheaaGreatDoorZrah
import Derived.Test.YtfmpjlpakldheaaGreatDoorZram
import Derived.Test.YtfmpjlpakldheaaGreatDoorZrbd
import Derived.Test.YtfmpjlpakldheaaGreatDoorZrau
set_option maxRecDepth 100000
set_option maxHeartbeats 1000000
namespace Go.Proofs.YtfmpjlpakldheaaGreatDoor
open Go.RowKit Go.Proofs.Sha Tryz
theorem wout_mem {ps : List PairT} {k : ByteArray} {p : PairT} (h : p ∈ wout ps k) : p ∈ ps := (List.mem_filter.1 h).1
theorem ins_mem {k v : ByteArray} : ∀ {ps : List PairT} {p : PairT}, p ∈ ins k v ps -> p = (k, v) \/ p ∈ ps
 | [], p, h => .inl (List.mem_singleton.1 h)
 | q :: qs, p, h => by
  rw [ins] at h
  split at h
  · exact List.mem_cons.1 h
  · rcases List.mem_cons.1 h with h | h
    · exact .inr (by rw [h]; exact List.mem_cons_self ..)
    · rcases ins_mem h with h | h
      · exact .inl h
      · exact .inr (List.mem_cons_of_mem _ h)
theorem ins_len (k v : ByteArray) : ∀ (ps : List PairT), (ins k v ps).length = ps.length + 1
 | [] => rfl
 | q :: qs => by
  rw [ins]
  split
  · rfl
  · rw [List.length_cons, ins_len k v qs]; rfl
theorem wth_mem {ps : List PairT} {k v : ByteArray} {p : PairT} (h : p ∈ wth ps k v) : p = (k, v) \/ p ∈ ps := by
 rcases ins_mem h with h | h
 · exact .inl h
 · exact .inr (wout_mem h)
theorem wthLen (ps : List PairT) (k v : ByteArray) : (wth ps k v).length <= ps.length + 1 := by
 unfold wth
 rw [ins_len]
 have := wout_le ps k
 omega
theorem smallP_of {ps : List PairT} (h : ps.length <= 1048576) (hs : ∀ p ∈ ps, p.1.size <= 1048576 /\ p.2.size <= 1048576) : SmallP ps := by
 refine ⟨h, fun j => ?_⟩
 by_cases hj : j < ps.length
 · rw [getD_lt ps j hj]
   exact hs _ (List.getElem_mem _)
 · rw [pget_out ps j (by omega)]
   exact noP_small
theorem smallP_mem {ps : List PairT} (h : SmallP ps) : ∀ p ∈ ps, p.1.size <= 1048576 /\ p.2.size <= 1048576 := fun p hp => by
 obtain ⟨i, hi, rfl⟩ := List.getElem_of_mem hp
 have := h.2 i
 rw [getD_lt ps i hi] at this
 exact this
def delO (D : Dec) (n : Int) (ss : List ByteArray) (root key : ByteArray) : SvO := chgO n ss (rangeM (fndD D n.toNat ss) n ss.length root ⟨#[]⟩ ⟨#[]⟩) (if okKey key = true then 0 else 1) (wout (rangeM (fndD D n.toNat ss) n ss.length root ⟨#[]⟩ ⟨#[]⟩).1 key)
def putO (D : Dec) (n : Int) (ss : List ByteArray) (root key val : ByteArray) : SvO := chgO n ss (rangeM (fndD D n.toNat ss) n ss.length root ⟨#[]⟩ ⟨#[]⟩) (putCd key val (rangeM (fndD D n.toNat ss) n ss.length root ⟨#[]⟩ ⟨#[]⟩).1) (wth (rangeM (fndD D n.toNat ss) n ss.length root ⟨#[]⟩ ⟨#[]⟩).1 key val)
theorem chgD (HH : Hid (HashSaid KTab)) (D : Dec) (n : Int) (HD : Hid (∀ wd : Nat, (wd : Int) = n -> 1 <= wd -> wd <= 32 -> DecSaid 181 wd D)) (hdo : ∀ wd : Nat, (wd : Int) = n -> DecOk wd D) (a : Option Addr) (ss : List ByteArray) (c : Nat) (root key : ByteArray) (ck : Nat) (w : World) (h : SArg a ss w) (hK : KTab w) (hr : root.size <= 1048576) (hk : key.size <= 1048576) (hc : w.cell? ⟨ck, 0, none⟩ = some (.string key)) :
 Calls prog 61 #[.agg #[.int .i64 n, .slice a ss.length c], .string root, .func (.func 66) #[] #[.pointer (some ⟨ck, 0, none⟩)]] w (SavedIs (delO D n ss root key) w) := by
 refine chgD_any HH D n HD hdo a ss c root ck w h hK hr (fun _ => if okKey key = true then 0 else 1) (fun ps => wout ps key) ?_
 intro wd ps _ hku hlen hsm hok
 refine ⟨fun _ => ⟨ku_apart (ku_wout hku key), fun x hx => smallP_mem hsm x (wout_mem hx)⟩, fun n0 p w1 hb h0 ht => ?_⟩
 refine (delC_any key hk ck n0 ps hku p w1 h0 ht ((hb.cell (World.block_lt_of_cell? w _ hc)).trans hc)).mono ?_
 rintro e w2 ⟨q, he, hq, hb2⟩
 refine ⟨q, he, fun q0 => hq ?_, hb2⟩
 cases ho : okKey key with
 | true => rfl
 | false => rw [ho] at q0; cases q0
theorem chgP (HH : Hid (HashSaid KTab)) (D : Dec) (n : Int) (HD : Hid (∀ wd : Nat, (wd : Int) = n -> 1 <= wd -> wd <= 32 -> DecSaid 181 wd D)) (hdo : ∀ wd : Nat, (wd : Int) = n -> DecOk wd D) (a : Option Addr) (ss : List ByteArray) (c : Nat) (root key val : ByteArray) (ck cv : Nat) (w : World) (h : SArg a ss w) (hK : KTab w) (hr : root.size <= 1048576) (hk : key.size <= 1048576) (hv : val.size <= 1048576) (hc : w.cell? ⟨ck, 0, none⟩ = some (.string key)) (hc2 : w.cell? ⟨cv, 0, none⟩ = some (.string val)) :
 Calls prog 61 #[.agg #[.int .i64 n, .slice a ss.length c], .string root, .func (.func 62) #[] #[.pointer (some ⟨ck, 0, none⟩), .pointer (some ⟨cv, 0, none⟩)]] w (SavedIs (putO D n ss root key val) w) := by
 refine chgP_any HH D n HD hdo a ss c root ck cv w h hK hr (fun ps => putCd key val ps) (fun ps => wth ps key val) ?_
 intro wd ps _ hku hlen hsm hok
 have hsz : ∀ x ∈ wth ps key val, x.1.size <= 1048576 /\ x.2.size <= 1048576 := fun x hx => by
  rcases wth_mem hx with q | q
  · rw [q]; exact ⟨hk, hv⟩
  · exact smallP_mem hsm x q
 have hl := wthLen ps key val
 refine ⟨fun _ => ⟨ku_apart (ku_wth hku key val), hsz⟩, fun n0 p w1 hb h0 ht => ?_⟩
 exact putC_any key val hk hv ck cv n0 ps hku p w1 h0 ht (hK.below hb) (by omega) (smallP_of (by omega) hsz) ((hb.cell (World.block_lt_of_cell? w _ hc)).trans hc) ((hb.cell (World.block_lt_of_cell? w _ hc2)).trans hc2)
theorem idel_any (HH : Hid (HashSaid KTab)) (D : Dec) (n : Int) (HD : Hid (∀ wd : Nat, (wd : Int) = n -> 1 <= wd -> wd <= 32 -> DecSaid 181 wd D)) (hdo : ∀ wd : Nat, (wd : Int) = n -> DecOk wd D) (a : Option Addr) (ss : List ByteArray) (c : Nat) (root key : ByteArray) (w : World) (h : SArg a ss w) (hK : KTab w) (hr : root.size <= 1048576) (hk : key.size <= 1048576) :
 Calls prog 19 #[.agg #[.int .i64 n, .slice a ss.length c], .string root, .string key] w (SavedIs (delO D n ss root key) w) := by
 have hmf : ∀ (fn : Fn) (first cap : Array Value) (w : World), (Instr.makeFunc fn first cap).run prog w = .ok (.func fn first cap) w := fun _ _ _ _ => rfl
 have hbA : Below w.heap.size w (((w.alloc (.cells #[.int .i64 n, .slice a ss.length c] 37)).alloc (.cells #[.string key] 9)).alloc (.cells #[.int .i64 0, .int .i64 0, .slice none 0 0, .string ⟨#[]⟩, .string ⟨#[]⟩, .string ⟨#[]⟩] 40)) := (((Below.refl _ _).alloc (Nat.le_refl _) _).alloc (by simp) _).alloc (by simp; omega) _
 have nB : SB (w.heap.size + 1 + 1) 0 0 none 0 0 ⟨#[]⟩ ⟨#[]⟩ ⟨#[]⟩ (((w.alloc (.cells #[.int .i64 n, .slice a ss.length c] 37)).alloc (.cells #[.string key] 9)).alloc (.cells #[.int .i64 0, .int .i64 0, .slice none 0 0, .string ⟨#[]⟩, .string ⟨#[]⟩, .string ⟨#[]⟩] 40)) := by
  have := heap_alloc_new ((w.alloc (.cells #[.int .i64 n, .slice a ss.length c] 37)).alloc (.cells #[.string key] 9)) (.cells #[.int .i64 0, .int .i64 0, .slice none 0 0, .string ⟨#[]⟩, .string ⟨#[]⟩, .string ⟨#[]⟩] 40)
  rw [World.size_alloc, World.size_alloc] at this
  exact this
 have nK : (((w.alloc (.cells #[.int .i64 n, .slice a ss.length c] 37)).alloc (.cells #[.string key] 9)).alloc (.cells #[.int .i64 0, .int .i64 0, .slice none 0 0, .string ⟨#[]⟩, .string ⟨#[]⟩, .string ⟨#[]⟩] 40)).heap[w.heap.size + 1]? = some (.cells #[.string key] 9) := by
  have := heap_alloc_new (w.alloc (.cells #[.int .i64 n, .slice a ss.length c] 37)) (.cells #[.string key] 9)
  rw [World.size_alloc] at this
  exact (Below.heap_alloc _ (.cells #[.int .i64 0, .int .i64 0, .slice none 0 0, .string ⟨#[]⟩, .string ⟨#[]⟩, .string ⟨#[]⟩] 40) _ (by simp)).trans this
 have HCh := chgD HH D n HD hdo a ss c root key (w.heap.size + 1) _ (h.below hbA) (hK.below hbA) hr hk (ZC nK 0)
 obtain ⟨O, hO⟩ : ∃ O, delO D n ss root key = O := ⟨_, rfl⟩
 rw [hO] at HCh ⊢
 clear hO
 have HCh2 := HCh.mono fun e W hE => SavedIs.put hE hbA nB (by omega)
 obtain ⟨od, on, oxs, oroot, ox, oy⟩ := O
 dsimp only at HCh2
 clear HCh
 go_enter func19, ntmps19
 go_wp2_with (first | (go_at_call 61; refine HCh2.mono ?_; rintro e w6 ⟨a6, m6, c6, rfl, hB6, hF6⟩; obtain ⟨d0, d1, d2, d3, d4, d5, df⟩ := hB6.at))
 exact retS Tryz.results19 rfl rfl (hB6.all od on a6 m6 c6 oroot ox oy) hF6
theorem iput_any (HH : Hid (HashSaid KTab)) (D : Dec) (n : Int) (HD : Hid (∀ wd : Nat, (wd : Int) = n -> 1 <= wd -> wd <= 32 -> DecSaid 181 wd D)) (hdo : ∀ wd : Nat, (wd : Int) = n -> DecOk wd D) (a : Option Addr) (ss : List ByteArray) (c : Nat) (root key val : ByteArray) (w : World) (h : SArg a ss w) (hK : KTab w) (hr : root.size <= 1048576) (hk : key.size <= 1048576) (hv : val.size <= 1048576) :
 Calls prog 17 #[.agg #[.int .i64 n, .slice a ss.length c], .string root, .string key, .string val] w (SavedIs (putO D n ss root key val) w) := by
 have hmf : ∀ (fn : Fn) (first cap : Array Value) (w : World), (Instr.makeFunc fn first cap).run prog w = .ok (.func fn first cap) w := fun _ _ _ _ => rfl
 have hbA : Below w.heap.size w ((((w.alloc (.cells #[.int .i64 n, .slice a ss.length c] 37)).alloc (.cells #[.string key] 9)).alloc (.cells #[.string val] 9)).alloc (.cells #[.int .i64 0, .int .i64 0, .slice none 0 0, .string ⟨#[]⟩, .string ⟨#[]⟩, .string ⟨#[]⟩] 40)) := ((((Below.refl _ _).alloc (Nat.le_refl _) _).alloc (by simp) _).alloc (by simp; omega) _).alloc (by simp; omega) _
 have nB : SB (w.heap.size + 1 + 1 + 1) 0 0 none 0 0 ⟨#[]⟩ ⟨#[]⟩ ⟨#[]⟩ ((((w.alloc (.cells #[.int .i64 n, .slice a ss.length c] 37)).alloc (.cells #[.string key] 9)).alloc (.cells #[.string val] 9)).alloc (.cells #[.int .i64 0, .int .i64 0, .slice none 0 0, .string ⟨#[]⟩, .string ⟨#[]⟩, .string ⟨#[]⟩] 40)) := by
  have := heap_alloc_new (((w.alloc (.cells #[.int .i64 n, .slice a ss.length c] 37)).alloc (.cells #[.string key] 9)).alloc (.cells #[.string val] 9)) (.cells #[.int .i64 0, .int .i64 0, .slice none 0 0, .string ⟨#[]⟩, .string ⟨#[]⟩, .string ⟨#[]⟩] 40)
  rw [World.size_alloc, World.size_alloc, World.size_alloc] at this
  exact this
 have nK : ((((w.alloc (.cells #[.int .i64 n, .slice a ss.length c] 37)).alloc (.cells #[.string key] 9)).alloc (.cells #[.string val] 9)).alloc (.cells #[.int .i64 0, .int .i64 0, .slice none 0 0, .string ⟨#[]⟩, .string ⟨#[]⟩, .string ⟨#[]⟩] 40)).heap[w.heap.size + 1]? = some (.cells #[.string key] 9) := by
  have := heap_alloc_new (w.alloc (.cells #[.int .i64 n, .slice a ss.length c] 37)) (.cells #[.string key] 9)
  rw [World.size_alloc] at this
  exact (Below.heap_alloc _ (.cells #[.int .i64 0, .int .i64 0, .slice none 0 0, .string ⟨#[]⟩, .string ⟨#[]⟩, .string ⟨#[]⟩] 40) _ (by simp)).trans ((Below.heap_alloc _ (.cells #[.string val] 9) _ (by simp)).trans this)
 have nV : ((((w.alloc (.cells #[.int .i64 n, .slice a ss.length c] 37)).alloc (.cells #[.string key] 9)).alloc (.cells #[.string val] 9)).alloc (.cells #[.int .i64 0, .int .i64 0, .slice none 0 0, .string ⟨#[]⟩, .string ⟨#[]⟩, .string ⟨#[]⟩] 40)).heap[w.heap.size + 1 + 1]? = some (.cells #[.string val] 9) := by
  have := heap_alloc_new ((w.alloc (.cells #[.int .i64 n, .slice a ss.length c] 37)).alloc (.cells #[.string key] 9)) (.cells #[.string val] 9)
  rw [World.size_alloc, World.size_alloc] at this
  exact (Below.heap_alloc _ (.cells #[.int .i64 0, .int .i64 0, .slice none 0 0, .string ⟨#[]⟩, .string ⟨#[]⟩, .string ⟨#[]⟩] 40) _ (by simp)).trans this
 have HCh := chgP HH D n HD hdo a ss c root key val (w.heap.size + 1) (w.heap.size + 1 + 1) _ (h.below hbA) (hK.below hbA) hr hk hv (ZC nK 0) (ZC nV 0)
 obtain ⟨O, hO⟩ : ∃ O, putO D n ss root key val = O := ⟨_, rfl⟩
 rw [hO] at HCh ⊢
 clear hO
 have HCh2 := HCh.mono fun e W hE => SavedIs.put hE hbA nB (by omega)
 obtain ⟨od, on, oxs, oroot, ox, oy⟩ := O
 dsimp only at HCh2
 clear HCh
 go_enter func17, ntmps17
 go_wp2_with (first | (go_at_call 61; refine HCh2.mono ?_; rintro e w6 ⟨a6, m6, c6, rfl, hB6, hF6⟩; obtain ⟨d0, d1, d2, d3, d4, d5, df⟩ := hB6.at))
 exact retS Tryz.results17 rfl rfl (hB6.all od on a6 m6 c6 oroot ox oy) hF6
def mapD (kf vf : Nat -> ByteArray) (p : Nat) : Nat -> List PairT
 | 0 => []
 | i + 1 => wth (mapD kf vf p i) (kf (p + 3 * i)) (vf (p + 3 * i + 1))
structure SmP (ps : List PairT) (n : Nat) : Prop where
 len : ps.length <= n
 up : KeysUp (keys ps)
 sz : ∀ q ∈ ps, q.1.size <= 70 /\ q.2.size <= 300
theorem SmP.small {ps : List PairT} {n : Nat} (h : SmP ps n) (hn : n <= 100000) : SmallP ps := smallP_of (by have := h.len; omega) (fun q hq => by have := h.sz q hq; omega)
theorem SmP.wth {ps : List PairT} {n : Nat} (h : SmP ps n) {k v : ByteArray} (hk : k.size <= 70) (hv : v.size <= 300) : SmP (wth ps k v) (n + 1) :=
 ⟨by have := wthLen ps k v; have := h.len; omega, ku_wth h.up k v, fun q hq => by
  rcases wth_mem hq with e | e
  · rw [e]; exact ⟨hk, hv⟩
  · exact h.sz q e⟩
theorem bl_nil {k : ByteArray} (h : 1 <= k.size) : Op.bytesLess (⟨#[]⟩ : ByteArray).toList k.toList = true := by
 rw [ByteArray.toList_eq, ByteArray.toList_eq]
 have : 1 <= k.data.toList.length := h
 cases hk : k.data.toList with
 | nil => rw [hk] at this; cases this
 | cons x xs => simp [Op.bytesLess]
theorem ku_at {ps : List PairT} (h : KeysUp (keys ps)) : ∀ i j, i < j -> j < ps.length -> lessB (ps.getD i noPair).1 (ps.getD j noPair).1 = true := by
 induction ps with
 | nil => intro i j _ hj; cases hj
 | cons x xs ih =>
  intro i j hij hj
  obtain ⟨h1, h2⟩ := h
  cases j with
  | zero => omega
  | succ j =>
   have hj' : j < xs.length := by simpa using hj
   have e : (x :: xs).getD (j + 1) noPair = xs.getD j noPair := by simp [List.getD_eq_getElem?_getD]
   rw [e]
   cases i with
   | zero =>
    have e0 : (x :: xs).getD 0 noPair = x := by simp [List.getD_eq_getElem?_getD]
    rw [e0]
    exact h1 _ (by rw [getD_lt xs j hj']; exact mem_keys (List.getElem_mem _))
   | succ i =>
    have e0 : (x :: xs).getD (i + 1) noPair = xs.getD i noPair := by simp [List.getD_eq_getElem?_getD]
    rw [e0]
    exact ih h2 i j (by omega) hj'
theorem isMapT_of {ps : List PairT} (h : KeysUp (keys ps)) (hok : ∀ p ∈ ps, okKey p.1 = true /\ okVal p.2 = true) (hl : ps.length <= 500) : isMapT ps = true := by
 unfold isMapT
 rw [decide_eq_true hl, Bool.true_and]
 have key : ∀ k, k <= ps.length -> mapTo ps k = true := by
  intro k
  induction k with
  | zero => intro _; rfl
  | succ k ih =>
   intro hk
   rw [mapTo, ih (by omega), Bool.true_and]
   have hm : ps.getD k noPair ∈ ps := by rw [getD_lt ps k (by omega)]; exact List.getElem_mem _
   obtain ⟨o1, o2⟩ := hok _ hm
   unfold goodAt
   rw [o1, o2, Bool.true_and, Bool.true_and]
   cases k with
   | zero =>
    unfold okKey at o1
    exact bl_nil (of_decide_eq_true o1).1
   | succ k => exact ku_at h k (k + 1) (by omega) (by omega)
 exact key _ (Nat.le_refl _)
theorem own2_le {w : World} {base n m c : Nat} {a : Option Addr} {xs : List Value} (h : w.ownsRow base 34 2 (.slice a m c) n xs) : m <= c := by
 rcases h.2 with ⟨e, h0⟩ | ⟨g, cap, cur, e, hb, hg, q1, q2, q3, q4⟩
 · simp only [Value.slice.injEq] at e; omega
 · simp only [Value.slice.injEq] at e
   omega
theorem count_any (a : Option Addr) (L cap per lo hi : Nat) (w : World) (hp : 1 <= per) (hL : L <= 1048576) (hlo : lo <= 1000) (hhi : hi <= 1000) : Calls prog 93 #[.slice a L cap, .int .i64 (per : Int), .int .i64 (lo : Int), .int .i64 (hi : Int)] w fun e w' => e = .returned (.int .i64 ((if hi < lo + L / per then hi else lo + L / per : Nat) : Int)) /\ w' = w := by
 have hq : (L : Int).tdiv (per : Int) = ((L / per : Nat) : Int) := by rw [<- Int.ofNat_tdiv]
 have hle : L / per <= L := Nat.div_le_self L per
 have hne : ¬ ((per : Int) = 0) := by omega
 have z0 : ((per : Int) == 0) = false := by simp; omega
 obtain ⟨d, hd⟩ : ∃ d, L / per = d := ⟨_, rfl⟩
 rw [hd] at hq hle ⊢
 have w1 : wrap64 ((lo : Int) + (d : Int)) = (lo : Int) + (d : Int) := wr_in64 _ (by omega)
 by_cases h : hi < lo + d
 · rw [if_pos h]
   have z : decide ((hi : Int) < (lo : Int) + (d : Int)) = true := by rw [decide_eq_true_eq]; omega
   go_enter func93, ntmps93
   go_wp2_with fail
   go_ret
   exact ⟨rfl, rfl⟩
 · rw [if_neg h]
   have z : decide ((hi : Int) < (lo : Int) + (d : Int)) = false := by rw [decide_eq_false_iff_not]; omega
   go_enter func93, ntmps93
   go_wp2_with fail
   go_ret
   exact ⟨by first | rfl | (congr 2; omega), rfl⟩
structure SmQ (ps : List PairT) (n : Nat) : Prop where
 len : ps.length <= n
 sz : ∀ q ∈ ps, q.1.size <= 300 /\ q.2.size <= 2001
theorem SmQ.small {ps : List PairT} {n : Nat} (h : SmQ ps n) (hn : n <= 100000) : SmallP ps := smallP_of (by have := h.len; omega) (fun q hq => by have := h.sz q hq; omega)
theorem SmP.q {ps : List PairT} {n : Nat} (h : SmP ps n) : SmQ ps n := ⟨h.len, fun q hq => by have := h.sz q hq; omega⟩
end Go.Proofs.YtfmpjlpakldheaaGreatDoor
