/-
  PathsLongest: whatever steps a table was made by, whatever address is asked: Find answers whose the longest of all prefixes is that has it, and nobody's, where none has.
-/
import Derived.Test.YtmkhojaddedpfaaKeepTable
import Derived.Test.YtmkhojaddedpfaaBit32
namespace Go.Proofs.Ytmkhojaddedpfaa.pathsLongest
open Go.ChangeShapes Go.WideShapes Go.ChangeAt Go.RowKit
open pth

theorem xor_zero {x a k : Nat} : (x ^^^ a) / 2 ^ k = 0 ↔ a / 2 ^ k = x / 2 ^ k := by
  rw [← Nat.shiftRight_eq_div_pow, ← Nat.shiftRight_eq_div_pow, ← Nat.shiftRight_eq_div_pow, Nat.shiftRight_xor_distrib]
  constructor
  · intro h
    have := congrArg (fun z => z ^^^ (a >>> k)) h
    simp only [Nat.xor_assoc, Nat.xor_self, Nat.xor_zero, Nat.zero_xor] at this
    exact this.symm
  · intro h
    rw [h, Nat.xor_self]
theorem has_any (x n p a : Nat) (hx : x < 4294967296) (hn : n ≤ 32) (ha : a < 4294967296) (w : World) :
    Calls Try.prog 19 #[.agg #[.int .u32 (x : Int), .int .i64 (n : Int)], .int .u32 (a : Int)] w fun e w' => e = .returned (.bool (decide (hasA (x, n, p) a))) ∧ Below w.heap.size w w' := by
  have hX : Below w.heap.size w (w.alloc (.cells #[.int .u32 (x : Int), .int .i64 (n : Int)] 32)) := (Below.refl _ _).alloc (Nat.le_refl _) _
  have hxor := b32.xor32 x a hx ha
  have hd : hasA (x, n, p) a ↔ (x ^^^ a) / 2 ^ (32 - n) = 0 := by rw [xor_zero]; rfl
  have n0 : (0 : Int) ≤ (n : Int) := by omega
  have n1 : (n : Int) ≤ 32 := by omega
  obtain ⟨m, hm⟩ : ∃ m, 32 - n = m := ⟨_, rfl⟩
  have hm1 : (32 : Int) - (n : Int) = (m : Int) := by omega
  have m0 : (0 : Int) ≤ (m : Int) := by omega
  have m1 : (m : Int) ≤ 64 := by omega
  obtain ⟨z, hz⟩ : ∃ z, x ^^^ a = z := ⟨_, rfl⟩
  obtain ⟨y, hy⟩ : ∃ y, z / 2 ^ m = y := ⟨_, rfl⟩
  rw [hm, hz, hy] at hd
  rw [hz] at hxor
  have hdiv : (z : Int) / 2 ^ m = (y : Int) := by rw [← hy]; norm_cast
  by_cases h0 : y = 0
  · have HD : Hid (decide (hasA (x, n, p) a) = true) := decide_eq_true (hd.2 h0)
    subst h0
    have hdiv' : (z : Int) / 2 ^ m = 0 := hdiv
    clear hd hy hdiv hz hm
    go_enter Try.func19, Try.ntmps19
    go_wp2
    go_ret
    exact ⟨by rw [HD.out]; rfl, hX⟩
  · have HD : Hid (decide (hasA (x, n, p) a) = false) := decide_eq_false (fun h => h0 (hd.1 h))
    have hn0 : n ≠ 0 := fun e => by
      subst e
      have : z < 4294967296 := by rw [← hz]; exact Nat.xor_lt_two_pow (n := 32) hx ha
      rw [← hm] at hy
      rw [show (2 : Nat) ^ (32 - 0) = 4294967296 from rfl, Nat.div_eq_of_lt this] at hy
      exact h0 hy.symm
    have t1 : ((y : Int) == 0) = false := by rw [beq_eq_false_iff_ne]; omega
    have t2 : ((n : Int) == 0) = false := by rw [beq_eq_false_iff_ne]; omega
    clear hd hy hz hm
    go_enter Try.func19, Try.ntmps19
    go_wp2
    go_ret
    exact ⟨by rw [HD.out]; rfl, hX⟩
/-- The most bits of those that have an address (-1: none has it). -/
def mbStep (a : Nat) (m : Int) (e : En) : Int := if hasA e a ∧ (e.2.1 : Int) > m then (e.2.1 : Int) else m
def mb (M : List En) (a : Nat) : Int := M.foldl (mbStep a) (-1)
theorem mb_snoc (M : List En) (e : En) (a : Nat) : mb (M ++ [e]) a = mbStep a (mb M a) e := by simp [mb, List.foldl_append]
theorem mb_spec (a : Nat) (M : List En) : ((mb M a = -1 ∧ ∀ e ∈ M, ¬ hasA e a) ∨ ∃ e ∈ M, hasA e a ∧ (e.2.1 : Int) = mb M a) ∧ ∀ f ∈ M, hasA f a → (f.2.1 : Int) ≤ mb M a := by
  suffices h : ∀ N : List En, ((mb N.reverse a = -1 ∧ ∀ e ∈ N.reverse, ¬ hasA e a) ∨ ∃ e ∈ N.reverse, hasA e a ∧ (e.2.1 : Int) = mb N.reverse a) ∧ ∀ f ∈ N.reverse, hasA f a → (f.2.1 : Int) ≤ mb N.reverse a by
    have := h M.reverse
    rwa [List.reverse_reverse] at this
  intro N
  induction N with
  | nil => exact ⟨.inl ⟨rfl, fun e h => (nomatch h)⟩, fun f h => (nomatch h)⟩
  | cons e N ih =>
    rw [List.reverse_cons]
    generalize N.reverse = M at *
    rw [mb_snoc]
    obtain ⟨h1, h2⟩ := ih
    unfold mbStep
    split
    · rename_i h
      refine ⟨.inr ⟨e, by simp, h.1, rfl⟩, fun f hf hfa => ?_⟩
      rcases List.mem_append.1 hf with k | k
      · have := h2 f k hfa; omega
      · rw [List.mem_singleton.1 k]; exact Int.le_refl _
    · rename_i h
      refine ⟨?_, fun f hf hfa => ?_⟩
      · rcases h1 with ⟨h1, h3⟩ | ⟨x, hx, h3, h4⟩
        · left
          refine ⟨h1, fun f hf => ?_⟩
          rcases List.mem_append.1 hf with k | k
          · exact h3 f k
          · rw [List.mem_singleton.1 k]
            exact fun q => h ⟨q, by rw [h1]; omega⟩
        · exact .inr ⟨x, by simp [hx], h3, h4⟩
      · rcases List.mem_append.1 hf with k | k
        · exact h2 f k hfa
        · rw [List.mem_singleton.1 k] at hfa ⊢
          by_cases q : (e.2.1 : Int) ≤ mb M a
          · exact q
          · exact absurd ⟨hfa, by omega⟩ h
theorem mb_bd {M : List En} (h : ∀ e ∈ M, e.2.1 ≤ 32) (a : Nat) : -1 ≤ mb M a ∧ mb M a ≤ 32 := by
  obtain ⟨h1, _⟩ := mb_spec a M
  rcases h1 with ⟨h1, _⟩ | ⟨e, he, _, h3⟩
  · omega
  · have := h e he
    omega
/-- Who has the longest. -/
theorem longest_is {L : List En} (h : Ok L) {a : Nat} {e : En} (he : e ∈ L) (hh : hasA e a) (hm : (e.2.1 : Int) = mb L a) : lng L a 33 = some e.2.2 := by
  cases hc : lng L a 33 with
  | none =>
    have := lng_none h 33 hc e he hh
    have := (h.each e he).1
    omega
  | some q =>
    obtain ⟨f, hf, f1, f2, f3, f4⟩ := lng_some h 33 q hc
    have h1 := f4 e he hh (by have := (h.each e he).1; omega)
    have h2 := (mb_spec a L).2 f hf f2
    have : e = f := has_same h he hf hh f2 (by omega)
    rw [this, f3]
theorem longest_no {L : List En} (h : Ok L) {a : Nat} (hm : mb L a < 0) : lng L a 33 = none := by
  cases hc : lng L a 33 with
  | none => rfl
  | some q =>
    obtain ⟨f, hf, f1, f2, f3, f4⟩ := lng_some h 33 q hc
    have h2 := (mb_spec a L).2 f hf f2
    omega
set_option maxRecDepth 100000 in
set_option maxHeartbeats 6400000 in
theorem walk (w : World) (av : Option Addr) (n c : Nat) (zs : List StepV) (hi : Steps w w.heap.size av n zs) (hr : n * 64 ≤ reachBytes) (hz : ∀ z ∈ zs, z.Fits)
    (ad : Int) (had : (Lit.int .u32 ad).wf = true) :
    Calls Try.prog 4 #[.slice av n c, .int .u32 ad] w fun e w' => e = .returned (.bool true) ∧ Below w.heap.size w w' := by
  have hrb : reachBytes < 140737488355328 := by decide
  have f0 := table_any w av n c zs hi (by omega) hz
  obtain ⟨hok, hle⟩ := allL_fits zs hz
  obtain ⟨a, rfl, hax⟩ : ∃ x : Nat, ad = x ∧ x < 4294967296 := by
    have := u32_bd had
    exact ⟨ad.toNat, by omega, by omega⟩
  generalize allL zs = L at *
  obtain ⟨D, hD⟩ : ∃ D, w.heap.size = D := ⟨_, rfl⟩
  rw [hD] at f0 ⊢
  have f1 := fun W B hW => Find_any D L B a hax W hW
  have HO : Hid (Ok L) := hok
  have hbd := fun k => mb_bd (M := L.take k) (fun e he => (hok.each e (List.mem_of_mem_take he)).1) a
  clear hi hr hz had hrb
  cases hr' : lng L a 33 with
  | none =>
    rw [hr'] at f1
    have f1' : ∀ W B, Tab W D L B → Calls Try.prog 13 #[.pointer (some ⟨D, 0, none⟩), .int .u32 (a : Int)] W fun e w' => e = .returned (.tuple #[.int .i64 0, .bool false]) ∧ Below W.heap.size W w' := f1
    have HR : Hid (lng L a 33 = none) := hr'
    clear hr' f1
    go_enter Try.func4, Try.ntmps4
    go_wp2_with (first
      | (go_at_call 18; (with_reducible refine f0.mono ?_); rintro e w1 ⟨rfl, hX1, B, hT1, hO1⟩)
      | (go_at_call 13; (with_reducible refine (f1' _ _ hT1).mono ?_); rintro e w2 ⟨rfl, h2⟩
         have hT2 := hT1.below h2
         have hX2 := hX1.trans (h2.mono (by have := hX1.size; omega)))
      | (go_at_call 16; (with_reducible refine (All_any D _ _ hle _ hT2).mono ?_); rintro e w3 ⟨v3, rfl, hr3, h3⟩; obtain ⟨a3, c3, rfl⟩ := row_slice hr3))
    have hT3 := hT2.below h3
    have hX3 := hX2.trans (h3.mono (by have := hX2.size; omega))
    obtain ⟨C, hC⟩ : ∃ C, w3.heap.size = C := ⟨_, rfl⟩
    have hDC : D ≤ C := by have := hX3.size; omega
    have hX30 : Below C w3 w3 := Below.refl _ _
    have HA : Hid (w3.ownsRow w2.heap.size 42 3 (.slice a3 L.length c3) L.length (rows L)) := hr3
    have HT : Hid (Tab w3 D L B) := hT3
    have HX : Hid (Below D w w3) := hX3
    clear hT1 hT2 hX1 hX2 h2 h3 hr3 hT3 hX3 f0 f1' hO1 hok
    go_loopw [8, 26] (fun m i wr => ∃ k, k ≤ L.length ∧ m = .int .i64 (mb (L.take k) a) ∧ i = .int .i64 (k : Int) ∧ Below C w3 wr) (fun _ i _ => L.length - (intOf i).toNat)
    case atStart => exact ⟨0, Nat.zero_le _, rfl, rfl, hX30⟩
    case round =>
      clear hX30
      obtain ⟨k, hk, rfl, rfl, hX⟩ := hrel
      have k0 : (0 : Int) ≤ (k : Int) := by omega
      have k1 : (k : Int) ≤ 64 := by omega
      have l1 : (L.length : Int) ≤ 64 := by omega
      obtain ⟨b0, b1⟩ := hbd k
      by_cases hlt : k < L.length
      · have d0 : decide ((k : Int) < (L.length : Int)) = true := decide_eq_true (by omega)
        obtain ⟨g, o, hix, hg, _, q1, q2, q3, _⟩ := row_at HA.out rfl k hlt hlt
        have hgC : g < C := by have := (HA.out.lt g hg).2; omega
        replace q1 := (hX.cell (p := ⟨g, o, none⟩) hgC).trans q1
        replace q2 := (hX.cell (p := ⟨g, o + 1, none⟩) hgC).trans q2
        replace q3 := (hX.cell (p := ⟨g, o + 2, none⟩) hgC).trans q3
        have hxm : L[k] ∈ L := List.getElem_mem _
        obtain ⟨v1, v2, v3, v4⟩ := HO.out.each _ hxm
        have htk : L.take (k + 1) = L.take k ++ [L[k]] := List.take_succ_eq_append_getElem hlt
        have HM : Hid (mb (L.take (k + 1)) a = mbStep a (mb (L.take k) a) L[k]) := by show _ = _; rw [htk, mb_snoc]
        have HN : Hid (¬ hasA L[k] a) := fun hh => by
          have := lng_none HO.out 33 HR.out L[k] hxm hh
          omega
        generalize mb (L.take k) a = m at *
        generalize L[k] = x at *
        obtain ⟨e1, e2, e3⟩ := x
        simp only at q1 q2 q3 v1 v2 v3 v4
        clear hxm htk hg hgC hk hbd
        have fh := fun W => has_any e1 e2 e3 a v2 v1 hax W
        have hBE := Blk.new wr 42 [.int .u32 (e1 : Int), .int .i64 (e2 : Int), .int .i64 (e3 : Int)] _ rfl
        have hCr : C ≤ wr.heap.size := by have := hX.size; omega
        have hXE : Below C w3 (wr.alloc (.cells #[.int .u32 (e1 : Int), .int .i64 (e2 : Int), .int .i64 (e3 : Int)] 42)) := hX.alloc hCr _
        have hse : (wr.alloc (.cells #[.int .u32 (e1 : Int), .int .i64 (e2 : Int), .int .i64 (e3 : Int)] 42)).heap.size = wr.heap.size + 1 := by simp
        obtain ⟨Z, hZ⟩ : ∃ Z, wr.heap.size = Z := ⟨_, rfl⟩
        rw [hZ] at hBE hse hCr
        have r1 := hBE.cell 0 _ rfl
        have r2 := hBE.cell 1 _ rfl
        have r3 := hBE.cell 2 _ rfl
        have y0 : (0 : Int) ≤ (e2 : Int) := by omega
        have y1 : (e2 : Int) ≤ 32 := by omega
        have z1 : decide ((e2 : Int) < 0) = false := decide_eq_false (by omega)
        have z2 : decide ((e2 : Int) > 32) = false := decide_eq_false (by omega)
        have hh := HN.out
        rw [decide_eq_false hh] at fh
        have HM2 : Hid (mb (L.take (k + 1)) a = m) := by show _ = _; rw [HM.out, mbStep, if_neg (fun h => hh h.1)]
        clear hh HM HN
        go_wp2_with (go_at_call 19; (with_reducible refine (fh _).mono ?_); rintro e w6 ⟨rfl, h6⟩; have hX6 := hXE.trans (h6.mono (by omega)); have r2' := (h6.cell (p := ⟨Z, 1, none⟩) (by show Z < _; omega)).trans r2; have r3' := (h6.cell (p := ⟨Z, 2, none⟩) (by show Z < _; omega)).trans r3)
        go_roundw
        case rel => exact ⟨k + 1, by omega, by rw [HM2.out], by go_num, hX6⟩
        case measure => simp [intOf]; omega
      · obtain rfl : k = L.length := by omega
        have d0 : decide ((L.length : Int) < (L.length : Int)) = false := decide_eq_false (by omega)
        rw [List.take_of_length_le (Nat.le_refl _)] at b0 b1 ⊢
        have hXf := HX.out.trans (hX.mono hDC)
        have hneg : mb L a < 0 := by
          rcases (mb_spec a L).1 with ⟨h1, _⟩ | ⟨e, he, h2, h3⟩
          · omega
          · have := longest_is HO.out he h2 h3
            rw [HR.out] at this
            cases this
        have d1 : decide (mb L a < 0) = true := decide_eq_true hneg
        clear hneg hbd
        generalize mb L a = m at *
        go_wp2
        go_ret
        exact ⟨rfl, hXf⟩
  | some q =>
    rw [hr'] at f1
    have f1' : ∀ W B, Tab W D L B → Calls Try.prog 13 #[.pointer (some ⟨D, 0, none⟩), .int .u32 (a : Int)] W fun e w' => e = .returned (.tuple #[.int .i64 (q : Int), .bool true]) ∧ Below W.heap.size W w' := f1
    have HR : Hid (lng L a 33 = some q) := hr'
    clear hr' f1
    go_enter Try.func4, Try.ntmps4
    go_wp2_with (first
      | (go_at_call 18; (with_reducible refine f0.mono ?_); rintro e w1 ⟨rfl, hX1, B, hT1, hO1⟩)
      | (go_at_call 13; (with_reducible refine (f1' _ _ hT1).mono ?_); rintro e w2 ⟨rfl, h2⟩
         have hT2 := hT1.below h2
         have hX2 := hX1.trans (h2.mono (by have := hX1.size; omega)))
      | (go_at_call 16; (with_reducible refine (All_any D _ _ hle _ hT2).mono ?_); rintro e w3 ⟨v3, rfl, hr3, h3⟩; obtain ⟨a3, c3, rfl⟩ := row_slice hr3))
    have hT3 := hT2.below h3
    have hX3 := hX2.trans (h3.mono (by have := hX2.size; omega))
    obtain ⟨C, hC⟩ : ∃ C, w3.heap.size = C := ⟨_, rfl⟩
    have hDC : D ≤ C := by have := hX3.size; omega
    have hX30 : Below C w3 w3 := Below.refl _ _
    have HA : Hid (w3.ownsRow w2.heap.size 42 3 (.slice a3 L.length c3) L.length (rows L)) := hr3
    have HT : Hid (Tab w3 D L B) := hT3
    have HX : Hid (Below D w w3) := hX3
    clear hT1 hT2 hX1 hX2 h2 h3 hr3 hT3 hX3 f0 f1' hO1 hok
    go_loopw [8, 26] (fun m i wr => ∃ k, k ≤ L.length ∧ m = .int .i64 (mb (L.take k) a) ∧ i = .int .i64 (k : Int) ∧ Below C w3 wr) (fun _ i _ => L.length - (intOf i).toNat)
    case atStart => exact ⟨0, Nat.zero_le _, rfl, rfl, hX30⟩
    case round =>
      clear hX30
      obtain ⟨k, hk, rfl, rfl, hX⟩ := hrel
      have k0 : (0 : Int) ≤ (k : Int) := by omega
      have k1 : (k : Int) ≤ 64 := by omega
      have l1 : (L.length : Int) ≤ 64 := by omega
      obtain ⟨b0, b1⟩ := hbd k
      by_cases hlt : k < L.length
      · have d0 : decide ((k : Int) < (L.length : Int)) = true := decide_eq_true (by omega)
        obtain ⟨g, o, hix, hg, _, q1, q2, q3, _⟩ := row_at HA.out rfl k hlt hlt
        have hgC : g < C := by have := (HA.out.lt g hg).2; omega
        replace q1 := (hX.cell (p := ⟨g, o, none⟩) hgC).trans q1
        replace q2 := (hX.cell (p := ⟨g, o + 1, none⟩) hgC).trans q2
        replace q3 := (hX.cell (p := ⟨g, o + 2, none⟩) hgC).trans q3
        have hxm : L[k] ∈ L := List.getElem_mem _
        obtain ⟨v1, v2, v3, v4⟩ := HO.out.each _ hxm
        have htk : L.take (k + 1) = L.take k ++ [L[k]] := List.take_succ_eq_append_getElem hlt
        have HM : Hid (mb (L.take (k + 1)) a = mbStep a (mb (L.take k) a) L[k]) := by show _ = _; rw [htk, mb_snoc]
        have HQ : Hid (hasA L[k] a → L[k].2.1 = 32 → q = L[k].2.2) := fun hh h32 => by
          have h1 := (mb_spec a L).2 L[k] hxm hh
          have h2 := (mb_bd (fun e he => (HO.out.each e he).1) a (M := L)).2
          have := longest_is HO.out hxm hh (by omega)
          rw [HR.out] at this
          injection this
        generalize mb (L.take k) a = m at *
        generalize L[k] = x at *
        obtain ⟨e1, e2, e3⟩ := x
        simp only at q1 q2 q3 v1 v2 v3 v4
        clear hxm htk hg hgC hk hbd
        have fh := fun W => has_any e1 e2 e3 a v2 v1 hax W
        have hBE := Blk.new wr 42 [.int .u32 (e1 : Int), .int .i64 (e2 : Int), .int .i64 (e3 : Int)] _ rfl
        have hCr : C ≤ wr.heap.size := by have := hX.size; omega
        have hXE : Below C w3 (wr.alloc (.cells #[.int .u32 (e1 : Int), .int .i64 (e2 : Int), .int .i64 (e3 : Int)] 42)) := hX.alloc hCr _
        have hse : (wr.alloc (.cells #[.int .u32 (e1 : Int), .int .i64 (e2 : Int), .int .i64 (e3 : Int)] 42)).heap.size = wr.heap.size + 1 := by simp
        obtain ⟨Z, hZ⟩ : ∃ Z, wr.heap.size = Z := ⟨_, rfl⟩
        rw [hZ] at hBE hse hCr
        have r1 := hBE.cell 0 _ rfl
        have r2 := hBE.cell 1 _ rfl
        have r3 := hBE.cell 2 _ rfl
        have y0 : (0 : Int) ≤ (e2 : Int) := by omega
        have y1 : (e2 : Int) ≤ 32 := by omega
        have z1 : decide ((e2 : Int) < 0) = false := decide_eq_false (by omega)
        have z2 : decide ((e2 : Int) > 32) = false := decide_eq_false (by omega)
        by_cases hh : hasA (e1, e2, e3) a
        · rw [decide_eq_true hh] at fh
          by_cases hgt : (e2 : Int) > m
          · have HM2 : Hid (mb (L.take (k + 1)) a = (e2 : Int)) := by show _ = _; rw [HM.out, mbStep, if_pos ⟨hh, hgt⟩]
            have d1 : decide ((e2 : Int) > m) = true := decide_eq_true hgt
            by_cases hpq : e3 = q
            · have t2 : ((e3 : Int) != (q : Int)) = false := by rw [hpq]; simp
              clear hh HM HQ hgt hpq
              go_wp2_with (go_at_call 19; (with_reducible refine (fh _).mono ?_); rintro e w6 ⟨rfl, h6⟩; have hX6 := hXE.trans (h6.mono (by omega)); have r2' := (h6.cell (p := ⟨Z, 1, none⟩) (by show Z < _; omega)).trans r2; have r3' := (h6.cell (p := ⟨Z, 2, none⟩) (by show Z < _; omega)).trans r3)
              go_roundw
              case rel => exact ⟨k + 1, by omega, by rw [HM2.out], by go_num, hX6⟩
              case measure => simp [intOf]; omega
            · have h32 : e2 ≠ 32 := fun h => hpq (HQ.out hh h).symm
              have t1 : ((e3 : Int) != (q : Int)) = true := by rw [bne_iff_ne]; omega
              have t2 : ((e2 : Int) == 32) = false := by rw [beq_eq_false_iff_ne]; omega
              clear hh HM HQ hgt hpq h32
              go_wp2_with (go_at_call 19; (with_reducible refine (fh _).mono ?_); rintro e w6 ⟨rfl, h6⟩; have hX6 := hXE.trans (h6.mono (by omega)); have r2' := (h6.cell (p := ⟨Z, 1, none⟩) (by show Z < _; omega)).trans r2; have r3' := (h6.cell (p := ⟨Z, 2, none⟩) (by show Z < _; omega)).trans r3)
              go_roundw
              case rel => exact ⟨k + 1, by omega, by rw [HM2.out], by go_num, hX6⟩
              case measure => simp [intOf]; omega
          · have HM2 : Hid (mb (L.take (k + 1)) a = m) := by show _ = _; rw [HM.out, mbStep, if_neg (fun h => hgt h.2)]
            have d1 : decide ((e2 : Int) > m) = false := decide_eq_false hgt
            have d2 : decide (m < (e2 : Int)) = false := decide_eq_false (by omega)
            clear hh HM HQ hgt
            go_wp2_with (go_at_call 19; (with_reducible refine (fh _).mono ?_); rintro e w6 ⟨rfl, h6⟩; have hX6 := hXE.trans (h6.mono (by omega)); have r2' := (h6.cell (p := ⟨Z, 1, none⟩) (by show Z < _; omega)).trans r2; have r3' := (h6.cell (p := ⟨Z, 2, none⟩) (by show Z < _; omega)).trans r3)
            go_roundw
            case rel => exact ⟨k + 1, by omega, by rw [HM2.out], by go_num, hX6⟩
            case measure => simp [intOf]; omega
        · rw [decide_eq_false hh] at fh
          have HM2 : Hid (mb (L.take (k + 1)) a = m) := by show _ = _; rw [HM.out, mbStep, if_neg (fun h => hh h.1)]
          clear hh HM HQ
          go_wp2_with (go_at_call 19; (with_reducible refine (fh _).mono ?_); rintro e w6 ⟨rfl, h6⟩; have hX6 := hXE.trans (h6.mono (by omega)); have r2' := (h6.cell (p := ⟨Z, 1, none⟩) (by show Z < _; omega)).trans r2; have r3' := (h6.cell (p := ⟨Z, 2, none⟩) (by show Z < _; omega)).trans r3)
          go_roundw
          case rel => exact ⟨k + 1, by omega, by rw [HM2.out], by go_num, hX6⟩
          case measure => simp [intOf]; omega
      · obtain rfl : k = L.length := by omega
        have d0 : decide ((L.length : Int) < (L.length : Int)) = false := decide_eq_false (by omega)
        rw [List.take_of_length_le (Nat.le_refl _)] at b0 b1 ⊢
        have hXf := HX.out.trans (hX.mono hDC)
        have hsr : D ≤ wr.heap.size := by have := hXf.size; have := hX.size; omega
        have hpos : ¬ mb L a < 0 := fun h => by
          have := longest_no HO.out h
          rw [HR.out] at this
          cases this
        have d1 : decide (mb L a < 0) = false := decide_eq_false hpos
        have hT4 := HT.out.below (hX.mono (by omega))
        have HE : Hid (∃ e ∈ L, hasA e a ∧ (e.2.1 : Int) = mb L a) := by
          rcases (mb_spec a L).1 with ⟨h1, _⟩ | h
          · omega
          · exact h
        have HQ : Hid (∀ e ∈ L, hasA e a → (e.2.1 : Int) = mb L a → e.2.2 = q) := fun e he h1 h2 => by
          have := longest_is HO.out he h1 h2
          rw [HR.out] at this
          injection this with this
          exact this.symm
        clear hbd hpos
        generalize mb L a = m at *
        go_wp2_with (go_at_call 16; (with_reducible refine (All_any D _ _ hle _ hT4).mono ?_); rintro e w4 ⟨v4, rfl, hr4, h4⟩; obtain ⟨a4, c4, rfl⟩ := row_slice hr4)
        obtain ⟨C4, hC4⟩ : ∃ C4, w4.heap.size = C4 := ⟨_, rfl⟩
        have hX40 : Below C4 w4 w4 := Below.refl _ _
        have HA4 : Hid (w4.ownsRow wr.heap.size 42 3 (.slice a4 L.length c4) L.length (rows L)) := hr4
        have HX4 : Hid (Below D w w4) := hXf.trans (h4.mono (by omega))
        have hDC4 : D ≤ C4 := by have := h4.size; omega
        clear h4 hr4 hT4 hXf hX hk HA HX
        go_loopw [78] (fun i w5 => ∃ k, k ≤ L.length ∧ i = .int .i64 (k : Int) ∧ (∀ e ∈ L.take k, ¬ (hasA e a ∧ (e.2.1 : Int) = m)) ∧ Below C4 w4 w5) (fun i _ => L.length - (intOf i).toNat)
        case atStart => exact ⟨0, Nat.zero_le _, rfl, fun e h => by simp at h, hX40⟩
        case round =>
          clear hX40
          obtain ⟨k, hk, rfl, hno, hX⟩ := hrel
          have k0 : (0 : Int) ≤ (k : Int) := by omega
          have k1 : (k : Int) ≤ 64 := by omega
          have l1 : (L.length : Int) ≤ 64 := by omega
          have HNo : Hid (∀ e ∈ L.take k, ¬ (hasA e a ∧ (e.2.1 : Int) = m)) := hno
          clear hno
          by_cases hlt : k < L.length
          · have d0 : decide ((k : Int) < (L.length : Int)) = true := decide_eq_true (by omega)
            obtain ⟨g, o, hix, hg, _, q1, q2, q3, _⟩ := row_at HA4.out rfl k hlt hlt
            have hgC : g < C4 := by have := (HA4.out.lt g hg).2; omega
            replace q1 := (hX.cell (p := ⟨g, o, none⟩) hgC).trans q1
            replace q2 := (hX.cell (p := ⟨g, o + 1, none⟩) hgC).trans q2
            replace q3 := (hX.cell (p := ⟨g, o + 2, none⟩) hgC).trans q3
            have hxm : L[k] ∈ L := List.getElem_mem _
            obtain ⟨v1, v2, v3, v4⟩ := HO.out.each _ hxm
            have htk : L.take (k + 1) = L.take k ++ [L[k]] := List.take_succ_eq_append_getElem hlt
            have HN2 : Hid (¬ (hasA L[k] a ∧ (L[k].2.1 : Int) = m) → ∀ e ∈ L.take (k + 1), ¬ (hasA e a ∧ (e.2.1 : Int) = m)) := fun hn e he => by
              rw [htk] at he
              rcases List.mem_append.1 he with h | h
              · exact HNo.out e h
              · rw [List.mem_singleton.1 h]; exact hn
            have HQ2 := fun h1 h2 => HQ.out _ hxm h1 h2
            generalize L[k] = x at *
            obtain ⟨e1, e2, e3⟩ := x
            simp only at q1 q2 q3 v1 v2 v3 v4 HQ2
            clear hxm htk hg hgC hk
            have fh := fun W => has_any e1 e2 e3 a v2 v1 hax W
            have hBE := Blk.new wr 42 [.int .u32 (e1 : Int), .int .i64 (e2 : Int), .int .i64 (e3 : Int)] _ rfl
            have hCr : C4 ≤ wr.heap.size := by have := hX.size; omega
            have hXE : Below C4 w4 (wr.alloc (.cells #[.int .u32 (e1 : Int), .int .i64 (e2 : Int), .int .i64 (e3 : Int)] 42)) := hX.alloc hCr _
            have hse : (wr.alloc (.cells #[.int .u32 (e1 : Int), .int .i64 (e2 : Int), .int .i64 (e3 : Int)] 42)).heap.size = wr.heap.size + 1 := by simp
            obtain ⟨Z, hZ⟩ : ∃ Z, wr.heap.size = Z := ⟨_, rfl⟩
            rw [hZ] at hBE hse hCr
            have r1 := hBE.cell 0 _ rfl
            have r2 := hBE.cell 1 _ rfl
            have r3 := hBE.cell 2 _ rfl
            by_cases hm : (e2 : Int) = m
            · by_cases hh : hasA (e1, e2, e3) a
              · rw [decide_eq_true hh] at fh
                have h3 : e3 = q := HQ2 hh hm
                subst hm h3
                clear HQ2 HN2 hh
                go_wp2_with (go_at_call 19; (with_reducible refine (fh _).mono ?_); rintro e w6 ⟨rfl, h6⟩; have hX6 := hXE.trans (h6.mono (by omega)); have r3' := (h6.cell (p := ⟨Z, 2, none⟩) (by show Z < _; omega)).trans r3)
                go_ret
                exact ⟨rfl, HX4.out.trans (hX6.mono hDC4)⟩
              · rw [decide_eq_false hh] at fh
                have HN3 := HN2.out (fun h => hh h.1)
                have HN4 : Hid (∀ e ∈ L.take (k + 1), ¬ (hasA e a ∧ (e.2.1 : Int) = m)) := HN3
                have t1 : ((e2 : Int) == m) = true := by rw [beq_iff_eq]; exact hm
                clear HQ2 HN2 HN3 hh hm
                go_wp2_with (go_at_call 19; (with_reducible refine (fh _).mono ?_); rintro e w6 ⟨rfl, h6⟩; have hX6 := hXE.trans (h6.mono (by omega)); have r3' := (h6.cell (p := ⟨Z, 2, none⟩) (by show Z < _; omega)).trans r3)
                go_roundw
                case rel => exact ⟨k + 1, by omega, by go_num, HN4.out, hX6⟩
                case measure => simp [intOf]; omega
            · have HN3 := HN2.out (fun h => hm h.2)
              have HN4 : Hid (∀ e ∈ L.take (k + 1), ¬ (hasA e a ∧ (e.2.1 : Int) = m)) := HN3
              have t1 : ((e2 : Int) == m) = false := by rw [beq_eq_false_iff_ne]; exact hm
              clear HQ2 HN2 HN3 hm
              go_wp2
              go_roundw
              case rel => exact ⟨k + 1, by omega, by go_num, HN4.out, hXE⟩
              case measure => simp [intOf]; omega
          · obtain rfl : k = L.length := by omega
            exfalso
            obtain ⟨e, he, h1, h2⟩ := HE.out
            have := HNo.out e (by rw [List.take_of_length_le (Nat.le_refl _)]; exact he)
            exact this ⟨h1, h2⟩

/-! ### The row's step -/
set_option maxRecDepth 100000 in
theorem lifted (os : Os) (started : os.Started) (H : Type) (enc : TypeId × Value → H) :
    ReturnsInHanded {} Try.checked os 4 .any (Rows.pathsLongestSpec.pre6 enc Try.prog Try.f4 Rows.pathsLongestRow.domain false) (Rows.pathsLongestSpec.post enc Try.prog Try.f4 false true false false) := by
  refine returnsInHanded_of_change_sized (C := Try.checked) own started (by kernel_rfl) Try.func4
    (ChangeSpec.witness6 (enc := enc) (C := Try.checked) false ⟨#[], #[.slice none 0 0, .int .u32 0], []⟩ 8 (by kernel_rfl) (by kernel_rfl) (by kernel_rfl) (by kernel_rfl)) ?_
  intro W base args ds gs before hval0 hW _ hz0 _
  have hz : (DataW.weightsEach Try.prog (Try.f4.params.toList ++ Rows.pathsLongestSpec.plain.varTypes Try.prog) (ds ++ gs)).all (· ≤ reachBytes) = true := hz0
  clear hz0
  have hval : ∀ (j : Nat) t v, Try.f4.params[j]? = some t → args[j]? = some v → Value.okWide Try.prog W .any base t v := hval0
  have hW' := hW
  obtain ⟨p, q, hA0, hV, rfl, hfz, hnd⟩ := hW
  have hA : DataW.TrodAll enc Try.prog W 0 (fun _ => true) true Try.f4.params.toList args.toList ds p := hA0
  rw [Try.params4] at hA hval hz
  obtain ⟨v0, vs0, d0, ds0, p0, q0, hargs, rfl, rfl, h0, r0⟩ := trodAll_cons hA
  obtain ⟨v1, vs1, d1, ds1, p1, q1, rfl, rfl, rfl, h1, r1⟩ := trodAll_cons r0
  obtain ⟨rfl, rfl, rfl⟩ := trodAll_nil r1
  obtain rfl : args = #[v0, v1] := by cases args; simp_all
  obtain ⟨rfl, rfl⟩ := trodVars_none hV
  obtain ⟨a0, n0, c0, rfl⟩ := okWide_slice Try.underlying22 (hval 0 22 v0 rfl rfl)
  have l0 : ∀ x ∈ p0, x.block < W.heap.size := fun x hx => by
    have := hW'.lt x (by simp [hx])
    simpa using this
  obtain ⟨z0, i0, b0, e0⟩ := step_open h0 l0
  have y0 : n0 * 64 ≤ reachBytes := by
    rcases e0 with ⟨_, e0⟩ | ⟨es, sp, e0, g0⟩
    · rw [e0]; decide
    · have h := sized_slice hz (j := 0) (t := 22) (e := 34) (by rfl) (by rw [e0]; rfl) Try.underlying22
      rw [bytesSTEP] at h
      try simp only [List.length_append] at h
      omega
  obtain ⟨s1, rfl, rfl, rfl, m1⟩ := open_int Try.underlying30 (hval 1 30 v1 rfl rfl) h1
  clear hA0 hval0 hz
  simp only [List.append_nil] at hW'
  refine (walk W a0 n0 c0 z0 i0 y0 b0 s1 m1).mono fun e W' ⟨he, hg⟩ => ?_
  subst he
  exact ⟨_, rfl, _, _, _, [], (p0 ++ ([] ++ [])), [], hW', trodAll_cons_mk (shut_bool Try.underlying4 _) trodAll_mk0, (trodAll_cons_mk (step_shut h0 l0 hg) (trodAll_cons_mk (shut_int Try.underlying30 m1) trodAll_mk0)), rfl, hg.frame _, fun h => by cases h⟩

/-- THE STATEMENT. -/
theorem proved : Rows.PathsLongestSaid :=
  OpenClaim.holds_of_wide 4 Try.f4 rfl rfl rfl rfl rfl rfl rfl ⟨rfl, rfl, rfl, rfl, rfl⟩ rfl rfl rfl rfl rfl (by kernel_rfl) Try.func4 (by kernel_rfl)
    (of_decide_eq_true (by kernel_rfl)) (by unfold Func.isWrapper; first | (rw [if_pos (by decide +kernel)]; kernel_rfl) | (rw [if_neg (by decide +kernel)]; exact ⟨rfl, rfl⟩))
    (fun os started H enc _ => lifted os started H enc)
end Go.Proofs.Ytmkhojaddedpfaa.pathsLongest
