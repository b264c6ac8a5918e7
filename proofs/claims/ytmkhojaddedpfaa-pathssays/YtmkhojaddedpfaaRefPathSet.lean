/-
  THE DOCUMENT's TABLE, written: Set, Drop; both tables have the same (Rel).
-/
import Derived.Test.YtmkhojaddedpfaaRefPath
import Derived.Maps.AppendAt
namespace Go.Proofs.Ytmkhojaddedpfaa.rpth
open Go.RowKit
open pth

/-- Paths in no order, and the same rising. -/
structure Rel (R L : List En) : Prop where
  mem : ∀ e, e ∈ R ↔ e ∈ L
  once : R.Pairwise fun e f => ¬ same e f
theorem Rel.nil : Rel [] [] := ⟨fun _ => Iff.rfl, List.Pairwise.nil⟩
theorem sort_spec : ∀ (R N : List En), R.Pairwise (fun e f => ¬ same e f) → N.Pairwise lt → (∀ e ∈ R, ∀ f ∈ N, ¬ same f e) →
    (R.foldl (fun o p => ins p o) N).Pairwise lt ∧ (∀ e, e ∈ R.foldl (fun o p => ins p o) N ↔ e ∈ N ∨ e ∈ R) ∧ (R.foldl (fun o p => ins p o) N).length = N.length + R.length := by
  intro R
  induction R with
  | nil => intro N _ hN _; exact ⟨hN, fun e => by simp, rfl⟩
  | cons x R ih =>
    intro N hR hN hs
    have hR' := List.pairwise_cons.1 hR
    have hx : ∀ f ∈ N, ¬ same f x := hs x (by simp)
    obtain ⟨h1, h2, h3⟩ := ih (ins x N) hR'.2 (rising_ins x N hN) (fun e he f hf => by
      rcases (mem_ins x f N hN).1 hf with q | q
      · rw [q]; exact hR'.1 e he
      · exact hs e (by simp [he]) f q.1)
    refine ⟨h1, fun e => ?_, ?_⟩
    · rw [List.foldl_cons, h2, mem_ins x e N hN, List.mem_cons]
      constructor
      · rintro ((q | q) | q)
        · exact .inr (.inl q)
        · exact .inl q.1
        · exact .inr (.inr q)
      · rintro (q | q | q)
        · exact .inl (.inr ⟨q, hx e q⟩)
        · exact .inl (.inl q)
        · exact .inr q
    · rw [List.foldl_cons, h3, len_ins_new x N hx, List.length_cons]; omega
/-- Sorted they are the rising list. -/
theorem Rel.sort {R L : List En} (h : Rel R L) (hL : Ok L) : R.foldl (fun o p => ins p o) [] = L := by
  obtain ⟨h1, h2, _⟩ := sort_spec R [] h.once List.Pairwise.nil (fun _ _ _ h => (nomatch h))
  refine rising_ext _ _ h1 hL.rising fun e => ?_
  rw [h2 e, ← h.mem e]
  simp
theorem Rel.len {R L : List En} (h : Rel R L) (hL : Ok L) : R.length = L.length := by
  obtain ⟨_, _, h3⟩ := sort_spec R [] h.once List.Pairwise.nil (fun _ _ _ h => (nomatch h))
  rw [h.sort hL] at h3
  simp at h3
  exact h3.symm
theorem Rel.drop {R L : List En} (h : Rel R L) (peer : Int) : Rel (dL R peer) (dL L peer) :=
  ⟨fun e => by unfold dL; rw [List.mem_filter, List.mem_filter, h.mem e], h.once.filter _⟩
theorem Rel.add {R L : List En} (h : Rel R L) (hL : Ok L) {e : En} (hn : ∀ f ∈ R, ¬ same f e) : Rel (R ++ [e]) (ins e L) := by
  refine ⟨fun f => ?_, ?_⟩
  · rw [List.mem_append, List.mem_singleton, mem_ins e f L hL.rising, h.mem f]
    constructor
    · rintro (q | q)
      · exact .inr ⟨q, hn f ((h.mem f).2 q)⟩
      · exact .inl q
    · rintro (q | q)
      · exact .inr q
      · exact .inl q.1
  · rw [List.pairwise_append]
    exact ⟨h.once, by simp, fun x hx y hy => by rw [List.mem_singleton.1 hy]; exact hn x hx⟩
theorem once_at {R : List En} (h : R.Pairwise fun e f => ¬ same e f) {i j : Nat} (hi : i < R.length) (hj : j < R.length) (hs : same R[i] R[j]) : i = j := by
  rcases Nat.lt_trichotomy i j with c | c | c
  · exact absurd hs (List.pairwise_iff_getElem.1 h i j hi hj c)
  · exact c
  · exact absurd (same_symm hs) (List.pairwise_iff_getElem.1 h j i hj hi c)
theorem Rel.turn {R L : List En} (h : Rel R L) (hL : Ok L) {e : En} {k : Nat} (hk : k < R.length) (hs : same R[k] e) : Rel (R.set k e) (ins e L) := by
  refine ⟨fun f => ?_, ?_⟩
  · rw [mem_ins e f L hL.rising]
    constructor
    · intro hf
      obtain ⟨i, hi, rfl⟩ := List.getElem_of_mem hf
      have hi' : i < R.length := by simpa using hi
      by_cases c : i = k
      · subst c; left; simp
      · right
        have e1 : (R.set k e)[i] = R[i] := by rw [List.getElem_set_ne (fun q => c q.symm)]
        rw [e1]
        exact ⟨(h.mem _).1 (List.getElem_mem hi'), fun q => c (once_at h.once hi' hk (by unfold same at *; omega))⟩
    · rintro (q | ⟨q1, q2⟩)
      · rw [q]
        have := List.getElem_mem (l := R.set k e) (n := k) (by simpa using hk)
        rwa [List.getElem_set_self] at this
      · obtain ⟨i, hi, rfl⟩ := List.getElem_of_mem ((h.mem f).2 q1)
        have c : i ≠ k := fun c => by subst c; exact q2 hs
        have := List.getElem_mem (l := R.set k e) (n := i) (by simpa using hi)
        rwa [List.getElem_set_ne (fun q => c q.symm)] at this
  · rw [List.pairwise_iff_getElem]
    intro i j hi hj hij
    have hi' : i < R.length := by simpa using hi
    have hj' : j < R.length := by simpa using hj
    have hg : ∀ m (hm : m < R.length), same ((R.set k e)[m]'(by simpa using hm)) R[m] := fun m hm => by
      by_cases c : k = m
      · subst c; rw [List.getElem_set_self]; exact same_symm hs
      · rw [List.getElem_set_ne c]; exact ⟨rfl, rfl⟩
    intro q
    have := once_at h.once hi' hj' (by have := hg i hi'; have := hg j hj'; unfold same at *; omega)
    omega
theorem rows_set {R : List En} {k : Nat} (hk : k < R.length) (x n p q : Nat) (he : R[k] = (x, n, q)) : (rows R).set (k * 3 + 2) (.int .i64 (p : Int)) = rows (R.set k (x, n, p)) := by
  induction R generalizing k with
  | nil => simp at hk
  | cons e R ih =>
    have e1 : ∀ (y : En) (M : List En), rows (y :: M) = cells3 y ++ rows M := fun y M => by rw [show y :: M = [y] ++ M from rfl, rows_app, rows_one]
    cases k with
    | zero =>
      simp only [List.getElem_cons_zero] at he
      subst he
      rw [List.set_cons_zero, e1, e1]
      rfl
    | succ k =>
      simp only [List.getElem_cons_succ] at he
      rw [List.set_cons_succ, e1, e1, List.set_append_right _ _ (by simp [cells3]; omega), ← ih (by simpa using hk) he]
      congr 2
      simp [cells3]
      omega
theorem at_key {L : List En} (h : Ok L) {x n : Nat} (hx : x % 2 ^ (32 - n) = 0) : at' L n (x / 2 ^ (32 - n)) = none ↔ ∀ f ∈ L, ∀ q, ¬ same f (x, n, q) := by
  rw [at_none h.rising, node_num hx]
  constructor
  · intro k f hf q hs
    obtain ⟨f1, f2, f3⟩ := f
    obtain ⟨s1, s2⟩ := hs
    simp only at s1 s2
    subst s1 s2
    exact k f3 hf
  · intro k p hp
    exact k _ hp 0 ⟨rfl, rfl⟩
set_option maxRecDepth 100000 in
set_option maxHeartbeats 3200000 in
theorem Drop_any (b : Nat) (v : Value) (R : List En) (peer : Int) (hL : R.length ≤ 64) (w : World) (hT : RTab w b 0 v R) :
    Calls Try.prog 10 #[.pointer (some ⟨b, 0, none⟩), .int .i64 peer] w fun e w' => e = .returned (.int .i64 ((R.length : Int) - ((dL R peer).length : Int))) ∧ ∃ v', RTab w' b 0 v' (dL R peer) ∧ Turns (OwnR b v) (OwnR b v') w w' := by
  obtain ⟨av, cv, rfl⟩ := row_slice hT.own
  obtain ⟨D, hD⟩ : ∃ D, w.heap.size = D := ⟨_, rfl⟩
  have hbD : b < D := by have := hT.blk.lt; omega
  have c0 := hT.blk.cell 0 _ rfl
  have HO : Hid (w.ownsRow 0 42 3 (.slice av R.length cv) R.length (rows R)) := hT.own
  have HB : Hid (Blk w b 29 [.slice av R.length cv]) := hT.blk
  have HW : Hid (D ≤ w.heap.size) := by show _ ≤ _; omega
  have hX0 : Below D w w := Below.refl _ _
  have l0 : (0 : Int) ≤ (R.length : Int) := by omega
  have l1 : (R.length : Int) ≤ 64 := by omega
  obtain ⟨i0, hi0, hz0, hz1, hz2⟩ := info_parts infoPATH
  clear hT
  go_enter Try.func10, Try.ntmps10
  go_wp2
  have C0 : Hid (w.cell? ⟨b, 0, none⟩ = some (.slice av R.length cv)) := c0
  clear c0
  go_loopw [5, 14] (fun r i wr => ∃ k v, k ≤ R.length ∧ v = r ∧ i = .int .i64 (k : Int) ∧ wr.ownsRow D 42 3 v (dL (R.take k) peer).length (rows (dL (R.take k) peer)) ∧ Below D w wr) (fun _ i _ => R.length - (intOf i).toNat)
  case atStart => exact ⟨0, _, Nat.zero_le _, rfl, rfl, World.ownsRow_nil _ _ _ _, hX0⟩
  case round =>
    clear hX0
    obtain ⟨k, v, hk, rfl, rfl, hown, hX⟩ := hrel
    have k0 : (0 : Int) ≤ (k : Int) := by omega
    have k1 : (k : Int) ≤ 64 := by omega
    have hCr : D ≤ wr.heap.size := by have := hX.size; omega
    by_cases hlt : k < R.length
    · have d0 : decide ((k : Int) < (R.length : Int)) = true := decide_eq_true (by omega)
      obtain ⟨g, o, hix, hg, _, a1, a2, a3, _⟩ := row_at HO.out rfl k hlt hlt
      have hgD : g < D := by have := (HO.out.lt g hg).2; omega
      replace a1 := (hX.cell (p := ⟨g, o, none⟩) hgD).trans a1
      replace a2 := (hX.cell (p := ⟨g, o + 1, none⟩) hgD).trans a2
      replace a3 := (hX.cell (p := ⟨g, o + 2, none⟩) hgD).trans a3
      have htk : R.take (k + 1) = R.take k ++ [R[k]] := List.take_succ_eq_append_getElem hlt
      have hlen := dL_len (R.take k) peer
      have hlt' : (dL (R.take k) peer).length ≤ 64 := by rw [List.length_take] at hlen; omega
      by_cases hpe : (R[k].2.2 : Int) = peer
      · have HD : Hid (dL (R.take (k + 1)) peer = dL (R.take k) peer) := by show _ = _; rw [htk, dL_app, dL_same hpe, List.append_nil]
        generalize dL (R.take k) peer = M at *
        have t0 : ((R[k].2.2 : Int) != peer) = false := by rw [hpe]; simp
        generalize R[k] = x at *
        have HO2 : Hid (wr.ownsRow D 42 3 v M.length (rows M)) := hown
        clear hown hpe hlen htk hg hgD
        go_wp2
        go_roundw
        case rel => exact ⟨k + 1, v, by omega, rfl, by go_num, by rw [HD.out]; exact HO2.out.alloc _, hX.alloc hCr _⟩
        case measure => simp [intOf]; omega
      · have HD : Hid (dL (R.take (k + 1)) peer = dL (R.take k) peer ++ [R[k]]) := by show _ = _; rw [htk, dL_app, dL_other hpe]
        have t0 : ((R[k].2.2 : Int) != peer) = true := by rw [bne_iff_ne]; exact hpe
        generalize dL (R.take k) peer = M at *
        generalize R[k] = x at *
        have HO2 : Hid (wr.ownsRow D 42 3 v M.length (rows M)) := hown
        have HRl : Hid (rows (M ++ [x]) = rows M ++ cells3 x) := by show _ = _; rw [rows_app, rows_one]
        have HV : Hid (∀ j, v.ownBlock = some j → D ≤ j) := fun j hj => (hown.lt j hj).1
        clear hown hpe hlen htk hg hgD
        go_wp2_with (at_builtin; refine wpList_append_own_at _ rfl _ _ 27 rfl D 42 i0 _ 3 24 Try.underlying27 hi0 hz0 hz1 hz2 rfl (by omega) _ M.length _ rfl ((HO2.out.alloc _).alloc _) ⟨wr.heap.size + 1, 0, none⟩ 1 1 (cells3 x) rfl rfl (World.news_of_block (cs := (cells3 x).toArray) (t := 42) (fr := (0, 0)) (by have := heap_alloc_new (wr.alloc (.cells (cells3 x).toArray 42)) (.cells (cells3 x).toArray 42); rw [World.size_alloc] at this; exact this)) (by simp [cells3, Value.oneCell']) (by unfold maxLen; omega) (by omega) (by simp; omega) ?_; intro v' w4 hown4 hgrow4 _ _)
        go_roundw
        case rel =>
          refine ⟨k + 1, v', by omega, rfl, by go_num, ?_, ?_⟩
          · rw [HD.out, HRl.out, List.length_append]; exact hown4
          · exact ((hX.alloc hCr _).alloc (by simp; omega) _).grown hgrow4 (by simp; omega) (fun j hj => HV.out j hj)
        case measure => simp [intOf]; omega
    · obtain rfl : k = R.length := by omega
      have d0 : decide ((R.length : Int) < (R.length : Int)) = false := decide_eq_false (by omega)
      rw [List.take_of_length_le (Nat.le_refl _)] at hown
      obtain ⟨au, cu, rfl⟩ := row_slice hown
      have c0 := (hX.cell (p := ⟨b, 0, none⟩) hbD).trans C0.out
      have hBw := HB.out.below hX hbD
      have z0 := hBw.frozen 0
      have hlen := dL_len R peer
      have n1 : ((dL R peer).length : Int) ≤ 64 := by omega
      have n2 : (0 : Int) ≤ ((dL R peer).length : Int) := by omega
      have HN : Hid (RTab (wr.setCell ⟨b, 0, none⟩ (.slice au (dL R peer).length cu)) b 0 (.slice au (dL R peer).length cu) (dL R peer) ∧ Turns (OwnR b (.slice av R.length cv)) (OwnR b (.slice au (dL R peer).length cu)) w (wr.setCell ⟨b, 0, none⟩ (.slice au (dL R peer).length cu))) := by
        refine ⟨⟨hBw.set 0 _, ?_⟩, ?_, ?_, ?_⟩
        · refine row_mono (hown.kept (but_set (but_refl wr (some b)) 0 _) (.inr fun e => ?_)) (Nat.zero_le _)
          have := (hown.lt b e).1
          omega
        · exact (hX.mono (Nat.zero_le _)).setCell (Nat.zero_le _) _
        · intro j hj hnj
          rw [Below.heap_setCell _ _ _ _ (fun e => hnj (.inl e))]
          exact hX.block j (by omega)
        · rintro j (rfl | hj)
          · exact .inl (.inl rfl)
          · exact .inr (by have := (hown.lt j hj).1; omega)
      clear hown hX hBw hlen
      go_wp2
      go_ret
      exact ⟨rfl, _, HN.out⟩
theorem out_true {n lo hi : Int} (h : n < lo ∨ hi < n) : out n lo hi = true := decide_eq_true h
theorem out_false {n lo hi : Int} (h : ¬ (n < lo ∨ hi < n)) : out n lo hi = false := decide_eq_false h
theorem mod_num {x n T : Nat} (hT : T = 2 ^ (32 - n)) : Int.tmod (x : Int) (T : Int) = ((x % 2 ^ (32 - n) : Nat) : Int) := by
  rw [Int.tmod_eq_emod_of_nonneg (by omega), hT]
  norm_cast
theorem one_shl {m : Nat} (hm : m ≤ 32) : IntKind.u64.wrap ((1 : Int) * 2 ^ m) = ((2 ^ m : Nat) : Int) := by
  have h : 2 ^ m ≤ 2 ^ 32 := Nat.pow_le_pow_right (by decide) hm
  have h2 : (2 : Nat) ^ 32 = 4294967296 := by decide
  rw [show (1 : Int) * 2 ^ m = ((2 ^ m : Nat) : Int) from by push_cast; omega]
  exact wrap64 (by omega)
set_option maxRecDepth 100000 in
set_option maxHeartbeats 6400000 in
theorem Set_any (b : Nat) (v : Value) (R L : List En) (hrel : Rel R L) (hok : Ok L) (hL : L.length ≤ 64) (x : Nat) (bits peer : Int) (hx : x < 4294967296) (w : World) (hT : RTab w b 0 v R) :
    Calls Try.prog 12 #[.pointer (some ⟨b, 0, none⟩), .agg #[.int .u32 (x : Int), .int .i64 bits], .int .i64 peer] w fun e w' => e = .returned (.int .i64 (rr L x bits peer)) ∧ ∃ v' R', RTab w' b 0 v' R' ∧ Rel R' (sL L x bits peer) ∧ Turns (OwnR b v) (OwnR b v') w w' := by
  obtain ⟨av, cv, rfl⟩ := row_slice hT.own
  have hlen := hrel.len hok
  obtain ⟨D, hD⟩ : ∃ D, w.heap.size = D := ⟨_, rfl⟩
  have hbD : b < D := by have := hT.blk.lt; omega
  have hP : Blk (w.alloc (.cells #[.int .u32 (x : Int), .int .i64 bits] 32)) D 32 [.int .u32 (x : Int), .int .i64 bits] := by rw [← hD]; exact Blk.new w 32 _ _ rfl
  have hX1 : Below D w (w.alloc (.cells #[.int .u32 (x : Int), .int .i64 bits] 32)) := (Below.refl _ _).alloc (by omega) _
  have hT1 : RTab (w.alloc (.cells #[.int .u32 (x : Int), .int .i64 bits] 32)) b 0 (.slice av R.length cv) R := hT.below ((Below.refl _ _).alloc (Nat.le_refl _) _)
  have HT1 : Hid (Turns (OwnR b (.slice av R.length cv)) (OwnR b (.slice av R.length cv)) w (w.alloc (.cells #[.int .u32 (x : Int), .int .i64 bits] 32))) := Turns.alloc _ _ _
  have c0 := hP.cell 0 _ rfl
  have c1 := hP.cell 1 _ rfl
  have g1 := outside_any bits 0 32
  have g2 := outside_any peer 0 7
  by_cases h1 : bits < 0 ∨ 32 < bits
  · have hr := rr_arg (L := L) (a := x) (bits := bits) (peer := peer) (by omega)
    rw [sL_err (by rw [hr]; decide), hr]
    rw [out_true h1] at g1
    clear hr h1 g2
    go_enter Try.func12, Try.ntmps12
    go_wp2_with (go_at_call 24; (with_reducible refine (g1 _).mono ?_); rintro e w3 ⟨rfl, hq⟩; have hq := hq.symm; subst hq)
    go_ret
    exact ⟨rfl, _, R, hT1, hrel, HT1.out⟩
  · rw [out_false h1] at g1
    by_cases h2 : peer < 0 ∨ 7 < peer
    · have hr := rr_arg (L := L) (a := x) (bits := bits) (peer := peer) (by omega)
      rw [sL_err (by rw [hr]; decide), hr]
      rw [out_true h2] at g2
      clear hr h1 h2
      go_enter Try.func12, Try.ntmps12
      go_wp2_with (go_at_call 24; (first | (with_reducible refine (g1 _).mono ?_) | (with_reducible refine (g2 _).mono ?_)); rintro e w3 ⟨rfl, hq⟩; have hq := hq.symm; subst hq)
      go_ret
      exact ⟨rfl, _, R, hT1, hrel, HT1.out⟩
    · rw [out_false h2] at g2
      obtain ⟨n, p, rfl, rfl, hn, hp⟩ : ∃ n p : Nat, bits = n ∧ peer = p ∧ n ≤ 32 ∧ p < 8 := ⟨bits.toNat, peer.toNat, by omega, by omega, by omega, by omega⟩
      have n0 : (0 : Int) ≤ (n : Int) := by omega
      have n1 : (n : Int) ≤ 32 := by omega
      obtain ⟨m, hm⟩ : ∃ m, 32 - n = m := ⟨_, rfl⟩
      have hm1 : (32 : Int) - (n : Int) = (m : Int) := by omega
      have m0 : (0 : Int) ≤ (m : Int) := by omega
      have m1 : (m : Int) ≤ 64 := by omega
      obtain ⟨T, hTT⟩ : ∃ T, 2 ^ (32 - n) = T := ⟨_, rfl⟩
      have s1 : IntKind.u64.wrap ((1 : Int) * 2 ^ m) = (T : Int) := by rw [one_shl (by omega), ← hTT, hm]
      have s1' : IntKind.u64.wrap ((2 : Int) ^ m) = (T : Int) := by rw [← s1, Int.one_mul]
      have s2 : IntKind.u64.wrap (x : Int) = (x : Int) := wrap64 (by omega)
      have T0 : T ≠ 0 := by rw [← hTT]; exact Nat.pos_iff_ne_zero.1 (two_pos _)
      have T1 : ((T : Int) == 0) = false := by rw [beq_eq_false_iff_ne]; omega
      have T2 : (T : Int) ≠ 0 := by omega
      have s3 : Int.tmod (x : Int) (T : Int) = ((x % 2 ^ (32 - n) : Nat) : Int) := mod_num hTT.symm
      have hrr : rr L x n p = if x % 2 ^ (32 - n) ≠ 0 then 5 else if L.length = 64 ∧ at' L n (x / 2 ^ (32 - n)) = none then 9 else 0 := by
        unfold rr
        rw [if_neg (by omega)]
        rfl
      by_cases h3 : x % 2 ^ (32 - n) = 0
      · rw [if_neg (fun h => h h3)] at hrr
        rw [h3] at s3
        have s3' : Int.tmod (x : Int) (T : Int) = 0 := s3
        clear h1 h2 hm hTT T0 s3
        go_enter Try.func12, Try.ntmps12
        go_wp2_with (go_at_call 24; (first | (with_reducible refine (g1 _).mono ?_) | (with_reducible refine (g2 _).mono ?_)); rintro e w3 ⟨rfl, hq⟩; have hq := hq.symm; subst hq)
        go_region
        have hTd : RTab (w.alloc (.cells #[.int .u32 (x : Int), .int .i64 (n : Int)] 32)).drew b 0 (.slice av R.length cv) R := hT1.mono fun _ _ => rfl
        have hPd := hP.drew
        have HTd : Hid (Turns (OwnR b (.slice av R.length cv)) (OwnR b (.slice av R.length cv)) w (w.alloc (.cells #[.int .u32 (x : Int), .int .i64 (n : Int)] 32)).drew) := HT1.out.trans (Turns.drew _ _)
        have hE : (w.alloc (.cells #[.int .u32 (x : Int), .int .i64 (n : Int)] 32)).drew.heap.size = D + 1 := by show (World.alloc _ _).heap.size = _; simp [hD]
        generalize (w.alloc (.cells #[.int .u32 (x : Int), .int .i64 (n : Int)] 32)).drew = W at *
        clear hT1 hP hX1 HT1 c0 c1 g1 g2 s1 s1' s2 T1 T2 s3' hT
        have t0 := hTd.blk.cell 0 _ rfl
        have hX0 : Below (D + 1) W W := Below.refl _ _
        have l0 : (0 : Int) ≤ (R.length : Int) := by omega
        have l1 : (R.length : Int) ≤ 64 := by omega
        have p0 := hPd.cell 0 _ rfl
        have p1 := hPd.cell 1 _ rfl
        have HP0 : Hid (W.cell? ⟨D, 0, none⟩ = some (.int .u32 (x : Int))) := p0
        have HP1 : Hid (W.cell? ⟨D, 1, none⟩ = some (.int .i64 (n : Int))) := p1
        have HT0 : Hid (W.cell? ⟨b, 0, none⟩ = some (.slice av R.length cv)) := t0
        have HR : Hid (RTab W b 0 (.slice av R.length cv) R) := hTd
        have HRR : Hid (rr L x n p = if L.length = 64 ∧ at' L n (x / 2 ^ (32 - n)) = none then 9 else 0) := hrr
        have HKEY : Hid (at' L n (x / 2 ^ (32 - n)) = none ↔ ∀ f ∈ L, ∀ q, ¬ same f (x, n, q)) := at_key hok h3
        have HOK : Hid (Ok L) := hok
        have HREL : Hid (Rel R L) := hrel
        have HLEN : Hid (R.length = L.length) := hlen
        have HES : Hid (W.heap.size = D + 1) := hE
        have hEle : D + 1 ≤ W.heap.size := by omega
        clear hTd hPd hrr h3 hok hrel hlen p0 p1 hE
        go_wp2
        clear t0
        go_loopw [29] (fun i wr => ∃ k, k ≤ R.length ∧ i = .int .i64 (k : Int) ∧ (∀ e ∈ R.take k, ∀ q, ¬ same e (x, n, q)) ∧ Below (D + 1) W wr) (fun i _ => R.length - (intOf i).toNat)
        case atStart => exact ⟨0, Nat.zero_le _, rfl, fun e h => by simp at h, hX0⟩
        case round =>
          clear hX0
          obtain ⟨k, hk, rfl, hno, hX⟩ := hrel
          have k0 : (0 : Int) ≤ (k : Int) := by omega
          have k1 : (k : Int) ≤ 64 := by omega
          have HNo : Hid (∀ e ∈ R.take k, ∀ q, ¬ same e (x, n, q)) := hno
          clear hno
          have p0 := (hX.cell (p := ⟨D, 0, none⟩) (by show D < D + 1; omega)).trans HP0.out
          have p1 := (hX.cell (p := ⟨D, 1, none⟩) (by show D < D + 1; omega)).trans HP1.out
          have t0 := (hX.cell (p := ⟨b, 0, none⟩) (by show b < D + 1; omega)).trans HT0.out
          have hRw := HR.out.mono (w' := wr) (fun j hj => hX.block j (by have := HR.out.lt j hj; have := HES.out; omega))
          by_cases hlt : k < R.length
          · have d0 : decide ((k : Int) < (R.length : Int)) = true := decide_eq_true (by omega)
            obtain ⟨g, o, hix, hg, ho, a1, a2, a3, af⟩ := row_at hRw.own rfl k hlt hlt
            have z2 := af (o + 2)
            have htk : R.take (k + 1) = R.take k ++ [R[k]] := List.take_succ_eq_append_getElem hlt
            have HN2 : Hid ((∀ q, ¬ same R[k] (x, n, q)) → ∀ e ∈ R.take (k + 1), ∀ q, ¬ same e (x, n, q)) := fun hn e he => by
              rw [htk] at he
              rcases List.mem_append.1 he with h | h
              · exact HNo.out e h
              · rw [List.mem_singleton.1 h]; exact hn
            by_cases hs1 : R[k].1 = x
            · by_cases hs2 : R[k].2.1 = n
              · rw [hs1] at a1
                rw [hs2] at a2
                have hsame : ∀ q, same R[k] (x, n, q) := fun q => ⟨hs1, hs2⟩
                have h0 : rr L x n p = 0 := by
                  rw [HRR.out, if_neg]
                  rintro ⟨_, h⟩
                  exact HKEY.out.1 h R[k] ((HREL.out.mem _).1 (List.getElem_mem hlt)) 0 (hsame 0)
                have hSL : sL L x n p = ins (x, n, p) L := by rw [sL_ok h0]; simp only [Int.toNat_natCast]
                have H0 : Hid (rr L x n p = 0) := h0
                have HF : Hid (∀ W2 : World, (∀ j, W2.heap[j]? = wr.heap[j]?) → Below 0 wr W2 → RTab (W2.setCell ⟨g, o + 2, none⟩ (.int .i64 (p : Int))) b 0 (.slice av R.length cv) (R.set k (x, n, p)) ∧ Rel (R.set k (x, n, p)) (sL L x n p) ∧
                    Turns (OwnR b (.slice av R.length cv)) (OwnR b (.slice av R.length cv)) w (W2.setCell ⟨g, o + 2, none⟩ (.int .i64 (p : Int)))) := fun W2 hsame2 hlow2 => by
                  have hR2 := hRw.mono (w' := W2) (fun j _ => hsame2 j)
                  obtain ⟨g', cap', e', _⟩ := hR2.own.form (by omega)
                  have e1 : av = some ⟨g', 0, none⟩ := by injection e'
                  have e2 : cap' = cv := by injection e' with _ _ e3; exact e3.symm
                  subst e1 e2
                  have hgg : g' = g := by simpa [Value.ownBlock] using hg
                  subst hgg
                  refine ⟨⟨hR2.blk.other (fun e => hR2.sep (by rw [hg, e])) _, ?_⟩, by rw [hSL]; exact HREL.out.turn HOK.out hlt (hsame p), ?_⟩
                  · have hst := (hR2.own.stored (o + 2) (.int .i64 (p : Int))).1
                    rw [ho.out, rows_set hlt x n p R[k].2.2 (by rw [← hs1, ← hs2])] at hst
                    rw [ho.out, List.length_set]
                    exact hst
                  · refine HTd.out.trans ⟨((hX.mono (Nat.zero_le _)).trans hlow2).setCell (Nat.zero_le _) _, fun j hj hnj => ?_, fun j hj => .inl hj⟩
                    rw [Below.heap_setCell _ _ _ _ (fun e => hnj (.inr (by rw [hg, e]))), hsame2 j]
                    exact hX.block j (by have := HES.out; omega)
                clear hsame HN2 htk HRR HKEY h0 hSL hRw hs1 hs2 hg
                generalize R[k].2.2 = q3 at *
                go_wp2
                go_quiet (fail)
                go_wp2
                go_ret
                exact ⟨by rw [H0.out]; rfl, _, _, HF.out _ (fun _ => rfl) (Go.Joins.below_draws 0 wr _)⟩
              · rw [hs1] at a1
                have u1 : ((R[k].2.1 : Int) == (n : Int)) = false := by rw [beq_eq_false_iff_ne]; omega
                have u2 : ((R[k].2.1 : Int) != (n : Int)) = true := by rw [bne_iff_ne]; omega
                have HNE : ∀ {q}, same R[k] (x, n, q) → False := fun h => hs2 h.2
                clear hs1 hs2
                have HNE' := @HNE
                have HN3 : Hid (∀ e ∈ R.take (k + 1), ∀ q, ¬ same e (x, n, q)) := HN2.out (fun q h => HNE' h)
                clear HN2 htk HNE HNE' hRw hg ho a3 z2 af
                generalize R[k] = y at *
                go_wp2
                go_quiet (fail)
                go_wp2
                go_roundw
                case rel => exact ⟨k + 1, by omega, by go_num, HN3.out, hX.trans (Go.Joins.below_draws (D + 1) wr _)⟩
                case measure => simp [intOf]; omega
            · have u1 : ((R[k].1 : Int) == (x : Int)) = false := by rw [beq_eq_false_iff_ne]; omega
              have u2 : ((R[k].1 : Int) != (x : Int)) = true := by rw [bne_iff_ne]; omega
              have HNE : ∀ {q}, same R[k] (x, n, q) → False := fun h => hs1 h.1
              clear hs1
              have HNE' := @HNE
              have HN3 : Hid (∀ e ∈ R.take (k + 1), ∀ q, ¬ same e (x, n, q)) := HN2.out (fun q h => HNE' h)
              clear HN2 htk HNE HNE' hRw hg ho a3 z2 af
              generalize R[k] = y at *
              go_wp2
              go_quiet (fail)
              go_wp2
              go_roundw
              case rel => exact ⟨k + 1, by omega, by go_num, HN3.out, hX.trans (Go.Joins.below_draws (D + 1) wr _)⟩
              case measure => simp [intOf]; omega
          · obtain rfl : k = R.length := by omega
            have d0 : decide ((R.length : Int) < (R.length : Int)) = false := decide_eq_false (by omega)
            have hno := HNo.out
            rw [List.take_of_length_le (Nat.le_refl _)] at hno
            have hat : at' L n (x / 2 ^ (32 - n)) = none := HKEY.out.2 fun f hf q => hno f ((HREL.out.mem f).2 hf) q
            by_cases h64 : R.length = 64
            · have h9 : rr L x n p = 9 := by rw [HRR.out, if_pos ⟨by have := HLEN.out; omega, hat⟩]
              have H9 : Hid (rr L x n p = 9) := h9
              have HS : Hid (sL L x n p = L) := sL_err (by rw [h9]; decide)
              have t64 : ((R.length : Int) == 64) = true := by rw [beq_iff_eq]; omega
              have HTf : Hid (Turns (OwnR b (.slice av R.length cv)) (OwnR b (.slice av R.length cv)) w wr) := HTd.out.trans (Turns.below (hX.mono (by have := HES.out; omega)))
              clear h9 hno hat
              go_wp2
              go_ret
              exact ⟨by rw [H9.out]; rfl, _, R, hRw, by rw [HS.out]; exact HREL.out, HTf.out⟩
            · have h0 : rr L x n p = 0 := by rw [HRR.out, if_neg (fun h => h64 (by have := HLEN.out; omega))]
              have H0 : Hid (rr L x n p = 0) := h0
              have HS : Hid (sL L x n p = ins (x, n, p) L) := by show _ = _; rw [sL_ok h0]; simp only [Int.toNat_natCast]
              have HADD : Hid (Rel (R ++ [(x, n, p)]) (ins (x, n, p) L)) := HREL.out.add HOK.out (fun f hf => hno f hf p)
              have t64 : ((R.length : Int) == 64) = false := by rw [beq_eq_false_iff_ne]; omega
              have hBb := hRw.blk
              have z0 := hBb.frozen 0
              have hsep := hRw.sep
              have hown := hRw.own
              have HBb : Hid (Blk wr b 29 [.slice av R.length cv]) := hBb
              have hbw : b < wr.heap.size := hBb.lt
              obtain ⟨i0, hi0, hz0, hz1, hz2⟩ := info_parts infoPATH
              have HV : Hid (∀ j, (Value.slice av R.length cv).ownBlock = some j → j < wr.heap.size) := fun j hj => (hown.lt j hj).2
              have HXw : Hid (Below (D + 1) W wr) := hX
              clear h0 hno hat hBb hX hRw
              go_wp2
              go_region_law ((refine step_append_lies _ (by rfl) _ _ _ (by rfl) 0 42 i0 _ 3 24 Try.underlying27 hi0 hz0 hz1 hz2 rfl (by omega) _ R.length _ (by rfl) ((hown.alloc _).drew) ⟨wr.heap.size, 0, none⟩ 1 1 [.int .u32 (x : Int), .int .i64 (n : Int), .int .i64 (p : Int)] (by rfl) (by rfl) (World.news_of_block (cs := #[.int .u32 (x : Int), .int .i64 (n : Int), .int .i64 (p : Int)]) (t := 42) (fr := (0, 0)) (heap_alloc_new wr _)) (by simp [Value.oneCell']) (by omega) (by unfold maxLen; omega) (by omega) (Nat.zero_le _) (wr.heap.size + 1) (by simp) ?_; intro gg cap1 w8 hown8 hgr8 hat8 hlt8; have HB8 : Hid (Blk w8 b 29 [.slice av R.length cv]) := (hgr8.block b (by simp; omega) (by intro h; exact hsep h.symm)).trans (HBb.out.alloc (.cells #[.int .u32 (x : Int), .int .i64 (n : Int), .int .i64 (p : Int)] 42)); have hk8 := HB8.out.cell 0 _ rfl; have hf8 := HB8.out.frozen 0))
              all_goals
                have hne : (Value.slice (some ⟨gg, 0, none⟩) (R.length + 1) cap1).ownBlock ≠ some b := fun h => by
                  have e : gg = b := by simpa [Value.ownBlock] using h
                  rcases hat8 with q | q
                  · exact hsep (by rw [q, e])
                  · omega
                have hF : RTab (w8.setCell ⟨b, 0, none⟩ (.slice (some ⟨gg, 0, none⟩) (R.length + 1) cap1)) b 0 (.slice (some ⟨gg, 0, none⟩) (R.length + 1) cap1) (R ++ [(x, n, p)]) ∧
                    Turns (OwnR b (.slice av R.length cv)) (OwnR b (.slice (some ⟨gg, 0, none⟩) (R.length + 1) cap1)) w (w8.setCell ⟨b, 0, none⟩ (.slice (some ⟨gg, 0, none⟩) (R.length + 1) cap1)) := by
                  refine ⟨⟨HB8.out.set 0 _, ?_⟩, HTd.out.trans ⟨?_, ?_, ?_⟩⟩
                  · rw [rows_app, rows_one, List.length_append]
                    exact hown8.kept (but_set (but_refl w8 (some b)) 0 _) (.inr hne)
                  · exact ((((HXw.out.mono (Nat.zero_le _)).alloc (Nat.zero_le _) _).drew).grown hgr8 (Nat.zero_le _) (fun _ _ => Nat.zero_le _)).setCell (Nat.zero_le _) _
                  · intro j hj hnj
                    have hjw : j < wr.heap.size := by have := HXw.out.size; omega
                    rw [Below.heap_setCell _ _ _ _ (fun e => hnj (.inl e))]
                    refine (hgr8.block j (by show j < (World.alloc _ _).heap.size; simp; omega) (fun e => hnj (.inr e.symm))).trans ?_
                    refine (Below.heap_alloc wr _ j hjw).trans (HXw.out.block j (by have := HES.out; omega))
                  · rintro j (rfl | hj)
                    · exact .inl (.inl rfl)
                    · have e : gg = j := by simpa [Value.ownBlock] using hj
                      rcases hat8 with q | q
                      · exact .inl (.inr (by rw [q, e]))
                      · exact .inr (by have := HXw.out.size; omega)
                have HF : Hid _ := hF
                clear hF hne HB8 hk8 hf8 hgr8 hat8 hlt8 hown8
                generalize w8.setCell ⟨b, 0, none⟩ (.slice (some ⟨gg, 0, none⟩) (R.length + 1) cap1) = w9 at *
                go_wp2
                go_ret
                exact ⟨by rw [H0.out]; rfl, _, _, HF.out.1, by rw [HS.out]; exact HADD.out, HF.out.2⟩
      · rw [if_pos h3] at hrr
        rw [sL_err (by rw [hrr]; decide), hrr]
        generalize x % 2 ^ (32 - n) = y at *
        have t1 : ((y : Int) == 0) = false := by rw [beq_eq_false_iff_ne]; omega
        have t2 : ((y : Int) != 0) = true := by rw [bne_iff_ne]; omega
        clear h1 h2 h3 hrr hm hTT T0
        go_enter Try.func12, Try.ntmps12
        go_wp2_with (go_at_call 24; (first | (with_reducible refine (g1 _).mono ?_) | (with_reducible refine (g2 _).mono ?_)); rintro e w3 ⟨rfl, hq⟩; have hq := hq.symm; subst hq)
        go_region
        all_goals go_wp2
        all_goals go_ret
        all_goals exact ⟨rfl, _, R, hT1.mono (fun _ _ => rfl), hrel, HT1.out.trans (Turns.drew _ _)⟩
end Go.Proofs.Ytmkhojaddedpfaa.rpth
