/-
  PLAIN MATHEMATICS OF the ladder's answers: each number stands for a point of the curve or of its twist; multiples of multiples don't hang on the order; what eight times makes nought has no multiples; multiples of 9 are never nought. No program is named here.
-/
import Derived.Test.YtdpokjhoedhadabDoorPlainLad
import Derived.Test.YtdpokjhoedhadabDoorPlainEll
namespace Go.Proofs.YtdpokjhoedhadabDoor.edw
open Go.Proofs.YtdpokjhoedhadabDoor.num
set_option maxHeartbeats 4000000

theorem Cv.nz {d s : K} (h : Cv d s) : s ≠ 0 := fun e => one_ne (by rw [← h.sq, e]; decide)
theorem up_rep {d s x : K} {b : Pt} (hd : NS d) (hc : Cv d s) (hb : On d b) (hx : x ≠ 0) (hu : x * (1 - b.y) = s * (1 + b.y)) (bit : Bool) (n : Nat) (t : (K × K) × (K × K))
    (h1 : Rep s t.1 (mul d n b)) (h2 : Rep s t.2 (mul d (n + 1) b)) :
    Rep s (up x t bit).1 (mul d (2 * n + (if bit then 1 else 0)) b) ∧ Rep s (up x t bit).2 (mul d (2 * n + (if bit then 1 else 0) + 1) b) := by
  have o1 := on_mul hd hb n
  have o2 := on_mul hd hb (n + 1)
  have t1 : Rep s (tog t.1 t.2 x) (mul d (2 * n + 1) b) := by
    have h := rep_tog hd hc o1 hb hx hu h1 h2
    rw [show add d (mul d n b) b = mul d (n + 1) b from rfl, ← mul_add hd hb, show n + (n + 1) = 2 * n + 1 from by omega] at h
    exact h
  cases bit with
  | true =>
    have t2 := rep_dbl hd hc o2 h2
    rw [← mul_add hd hb, show n + 1 + (n + 1) = 2 * n + 1 + 1 from by omega] at t2
    exact ⟨t1, t2⟩
  | false =>
    have t2 := rep_dbl hd hc o1 h1
    rw [← mul_add hd hb, show n + n = 2 * n + 0 from by omega] at t2
    exact ⟨t2, t1⟩
theorem fold_rep {d s x : K} {b : Pt} (hd : NS d) (hc : Cv d s) (hb : On d b) (hx : x ≠ 0) (hu : x * (1 - b.y) = s * (1 + b.y)) (bs : List Bool) : ∀ (n : Nat) (t : (K × K) × (K × K)),
    Rep s t.1 (mul d n b) → Rep s t.2 (mul d (n + 1) b) →
    Rep s (bs.foldl (up x) t).1 (mul d (bs.foldl (fun n b => 2 * n + (if b then 1 else 0)) n) b) ∧ Rep s (bs.foldl (up x) t).2 (mul d (bs.foldl (fun n b => 2 * n + (if b then 1 else 0)) n + 1) b) := by
  induction bs with
  | nil => intro n t h1 h2; exact ⟨h1, h2⟩
  | cons c bs ih =>
    intro n t h1 h2
    obtain ⟨g1, g2⟩ := up_rep hd hc hb hx hu c n t h1 h2
    exact ih _ _ g1 g2
theorem lad_rep {d s x : K} {b : Pt} (hd : NS d) (hc : Cv d s) (hb : On d b) (hx : x ≠ 0) (hu : x * (1 - b.y) = s * (1 + b.y)) (bs : List Bool) :
    Rep s (lad x bs).1 (mul d (bval bs) b) ∧ Rep s (lad x bs).2 (mul d (bval bs + 1) b) := by
  refine fold_rep hd hc hb hx hu bs 0 _ ?_ ?_
  · obtain ⟨f, hf⟩ := half
    refine ⟨f, fun e => one_ne (by rw [← hf, e]; decide), ?_, ?_⟩
    · show (1 : K) = f * (1 + 1); grind -lia -linarith
    · show (0 : K) = s * f * (1 - 1); grind -lia -linarith
  · show Rep s (x, 1) (mul d 1 b)
    rw [mul_one]
    exact rep_of hc.sq (by grind -lia -linarith) (fun _ e => one_ne e)

/-! ### What a point's number is -/
def U (s : K) (p : Pt) (u : K) : Prop := (p = O ∧ u = 0) ∨ (p ≠ O ∧ u * (1 - p.y) = s * (1 + p.y))
theorem ns_one {d : K} (hd : NS d) : 1 - d ≠ 0 := fun e => one_ne (hd 1 1 (by grind -lia -linarith))
theorem x_nought {d : K} {p : Pt} (hd : NS d) (h : On d p) (h1 : p.y * p.y = 1) : p.x = 0 := by
  unfold On at h
  have k : (1 - d) * (p.x * p.x) = 0 := by grind -lia -linarith
  exact sq0 ((mul0 k).resolve_left (ns_one hd))
theorem y_one {d : K} {p : Pt} (hd : NS d) (h : On d p) (h1 : p.y = 1) : p = O := by
  have h2 := x_nought hd h (by rw [h1]; decide)
  cases p
  exact congr (congrArg Pt.mk h2) h1
theorem rep_U {d s : K} {p : Pt} {q : K × K} (hd : NS d) (hc : Cv d s) (h : On d p) (hr : Rep s q p) : U s p (q.1 * kinv q.2) := by
  obtain ⟨l, hl, h1, h2⟩ := hr
  by_cases hp : p = O
  · refine .inl ⟨hp, ?_⟩
    rw [hp] at h2
    have h3 : q.2 = 0 := by rw [h2]; show s * l * (1 - 1) = 0; grind -lia -linarith
    rw [h3, kinv_0]
    grind -lia -linarith
  · refine .inr ⟨hp, ?_⟩
    have hy : 1 - p.y ≠ 0 := fun e => hp (y_one hd h (by grind -lia -linarith))
    have hz : q.2 ≠ 0 := by rw [h2]; exact mul_ne (mul_ne hc.nz hl) hy
    have hi := kinv_mul _ hz
    have hs := hc.sq
    generalize kinv q.2 = i at *
    rw [h1]
    rw [h2] at hi
    generalize p.y = y at *
    clear hy hz h1 h2 hp hl
    grind -lia -linarith
theorem U_one {d s : K} {p : Pt} {u v : K} (hd : NS d) (h : On d p) (h1 : U s p u) (h2 : U s p v) : u = v := by
  rcases h1 with ⟨a, b⟩ | ⟨a, b⟩ <;> rcases h2 with ⟨a2, b2⟩ | ⟨a2, b2⟩
  · rw [b, b2]
  · exact absurd a a2
  · exact absurd a2 a
  · have hy : 1 - p.y ≠ 0 := fun e => a (y_one hd h (by grind -lia -linarith))
    exact cancel hy (by grind -lia -linarith)
theorem mlt_U {d s x : K} {b : Pt} (hd : NS d) (hc : Cv d s) (hb : On d b) (hx : x ≠ 0) (hu : x * (1 - b.y) = s * (1 + b.y)) (bs : List Bool) : U s (mul d (bval bs) b) (mlt bs x) :=
  rep_U hd hc (on_mul hd hb _) (lad_rep hd hc hb hx hu bs).1
theorem lad_0 (bs : List Bool) : ∀ t : (K × K) × (K × K), t.1.2 = 0 → (bs.foldl (up 0) t).1.2 = 0 := by
  induction bs with
  | nil => intro t h; exact h
  | cons c bs ih =>
    intro t h
    refine ih _ ?_
    cases c
    · show (dbl t.1).2 = 0
      unfold dbl
      rw [h]
      generalize t.1.1 = x
      grind -lia -linarith
    · show (tog t.1 t.2 0).2 = 0
      unfold tog
      dsimp only
      grind -lia -linarith
theorem mlt_0 (bs : List Bool) : mlt bs 0 = 0 := by
  unfold mlt
  rw [show (lad 0 bs).1.2 = 0 from lad_0 bs _ rfl, kinv_0]
  grind -lia -linarith

/-! ### Each number stands for a point -/
theorem ns_d0 : NS 20800338683988658368647408995589388737092878452977063003340006470870624536394 := ns_of 20800338683988658368647408995589388737092878452977063003340006470870624536394 (by decide) (by decide +kernel) (by decide)
theorem ns_d1 : NS 28692721048178265397853269683490922171210976843790175684556505508326675974058 := ns_of 28692721048178265397853269683490922171210976843790175684556505508326675974058 (by decide) (by decide +kernel) (by decide)
theorem ns_a : NS 486660 := ns_of 486660 (by decide) (by decide +kernel) (by decide)
theorem ns_aa : NS 236839902240 := ns_of 236839902240 (by decide) (by decide +kernel) (by decide)
theorem some_root (x : K) (hx : x ≠ 0) (h : x * (x * x + 486662 * x + 1) = 0) : False := by
  have h1 := (mul0 h).resolve_left hx
  exact one_ne (ns_aa (2 * x + 486662) 1 (by grind -lia -linarith))
theorem fin4 {V W X Y A B d : K} (a1 : V * X = A) (a2 : W * Y = B) (a4 : V * W + d * A * B = A * W + V * B) : V * W * (X + Y) = V * W * (1 + d * X * Y) := by
  rw [← a1, ← a2] at a4
  clear a1 a2
  grind -lia -linarith
theorem point_d0 {x v : K} (hx : x ≠ 0) (h : x * (x * x + 486662 * x + 1) = v * v) : ∃ d s : K, ∃ b : Pt, NS d ∧ Cv d s ∧ On d b ∧ x * (1 - b.y) = s * (1 + b.y) := by
  have hv : v ≠ 0 := fun e => some_root x hx (by rw [h, e]; decide)
  have h1 : x + 1 ≠ 0 := fun e => one_ne (ns_a v 1 (by
    obtain rfl : x = -1 := by grind -lia -linarith
    grind -lia -linarith))
  have i1 := kinv_mul _ h1
  have i2 := kinv_mul _ hv
  obtain ⟨t, ht⟩ : ∃ t : K, t * t = 486664 := ⟨48802004052532134862652268456126542835229456083994414501085850622543968879637, by decide⟩
  obtain ⟨d, hd⟩ : ∃ d : K, d = 20800338683988658368647408995589388737092878452977063003340006470870624536394 := ⟨_, rfl⟩
  have hd1 : (1 - d) * 121665 = d := by rw [hd]; decide
  refine ⟨d, 1, ⟨t * x * kinv v, (x - 1) * kinv (x + 1)⟩, by rw [hd]; exact ns_d0, .inl ⟨rfl, hd1⟩, ?_, ?_⟩
  · show t * x * kinv v * (t * x * kinv v) + (x - 1) * kinv (x + 1) * ((x - 1) * kinv (x + 1)) = 1 + d * (t * x * kinv v * (t * x * kinv v)) * ((x - 1) * kinv (x + 1) * ((x - 1) * kinv (x + 1)))
    generalize kinv (x + 1) = j at *
    generalize kinv v = i at *
    refine cancel (mul_ne (mul_ne hv hv) (mul_ne h1 h1)) ?_
    have a1 : v * v * (t * x * i * (t * x * i)) = 486664 * (x * x) := by clear h hd1 i1; grind -lia -linarith
    have a2 : (x + 1) * (x + 1) * ((x - 1) * j * ((x - 1) * j)) = (x - 1) * (x - 1) := by clear h hd1 i2; grind -lia -linarith
    generalize t * x * i * (t * x * i) = X at *
    generalize (x - 1) * j * ((x - 1) * j) = Y at *
    have a3 : d * 121666 = 121665 := by grind -lia -linarith
    have a4 : (x * (x * x + 486662 * x + 1)) * ((x + 1) * (x + 1)) + d * (486664 * (x * x)) * ((x - 1) * (x - 1)) = 486664 * (x * x) * ((x + 1) * (x + 1)) + (x * (x * x + 486662 * x + 1)) * ((x - 1) * (x - 1)) := by
      clear a1 a2 h hd1 i1 i2; grind -lia -linarith
    rw [h] at a4
    exact fin4 a1 a2 a4
  · show x * (1 - (x - 1) * kinv (x + 1)) = 1 * (1 + (x - 1) * kinv (x + 1))
    generalize kinv (x + 1) = j at *
    refine cancel h1 ?_
    clear h i2
    grind -lia -linarith
theorem point_d1 {x v : K} (hx : x ≠ 0) (h : x * (x * x + 486662 * x + 1) = 2 * (v * v)) : ∃ d s : K, ∃ b : Pt, NS d ∧ Cv d s ∧ On d b ∧ x * (1 - b.y) = s * (1 + b.y) := by
  obtain ⟨t, ht⟩ : ∃ t : K, t * t = 486664 := ⟨48802004052532134862652268456126542835229456083994414501085850622543968879637, by decide⟩
  have hv : v ≠ 0 := fun e => some_root x hx (by rw [h, e]; decide)
  have h1 : x - 1 ≠ 0 := fun e => hv (ns_2 t v (by
    obtain rfl : x = 1 := by grind -lia -linarith
    grind -lia -linarith))
  clear ht t
  have i1 := kinv_mul _ h1
  have i2 := kinv_mul _ hv
  obtain ⟨t, ht⟩ : ∃ t : K, t * t = 243330 := ⟨51433253462520500264212897900760618405213415304451317506555883227270826074491, by decide⟩
  obtain ⟨d, hd⟩ : ∃ d : K, d = 28692721048178265397853269683490922171210976843790175684556505508326675974058 := ⟨_, rfl⟩
  have hd1 : (d - 1) * 121665 = 1 := by rw [hd]; decide
  refine ⟨d, -1, ⟨t * x * kinv v, (x + 1) * kinv (x - 1)⟩, by rw [hd]; exact ns_d1, .inr ⟨rfl, hd1⟩, ?_, ?_⟩
  · show t * x * kinv v * (t * x * kinv v) + (x + 1) * kinv (x - 1) * ((x + 1) * kinv (x - 1)) = 1 + d * (t * x * kinv v * (t * x * kinv v)) * ((x + 1) * kinv (x - 1) * ((x + 1) * kinv (x - 1)))
    generalize kinv (x - 1) = j at *
    generalize kinv v = i at *
    refine cancel (mul_ne (mul_ne two_ne (mul_ne hv hv)) (mul_ne h1 h1)) ?_
    have a1 : 2 * (v * v) * (t * x * i * (t * x * i)) = 486660 * (x * x) := by clear h hd1 i1; grind -lia -linarith
    have a2 : (x - 1) * (x - 1) * ((x + 1) * j * ((x + 1) * j)) = (x + 1) * (x + 1) := by clear h hd1 i2; grind -lia -linarith
    generalize t * x * i * (t * x * i) = X at *
    generalize (x + 1) * j * ((x + 1) * j) = Y at *
    have a3 : d * 121665 = 121666 := by grind -lia -linarith
    have a4 : (x * (x * x + 486662 * x + 1)) * ((x - 1) * (x - 1)) + d * (486660 * (x * x)) * ((x + 1) * (x + 1)) = 486660 * (x * x) * ((x - 1) * (x - 1)) + (x * (x * x + 486662 * x + 1)) * ((x + 1) * (x + 1)) := by
      clear a1 a2 h hd1 i1 i2; grind -lia -linarith
    rw [h] at a4
    exact fin4 a1 a2 a4
  · show x * (1 - (x + 1) * kinv (x - 1)) = -1 * (1 + (x + 1) * kinv (x - 1))
    generalize kinv (x - 1) = j at *
    refine cancel h1 ?_
    clear h i2
    grind -lia -linarith
theorem point (x : K) (hx : x ≠ 0) : ∃ d s : K, ∃ b : Pt, NS d ∧ Cv d s ∧ On d b ∧ x * (1 - b.y) = s * (1 + b.y) := by
  obtain ⟨v, h | h⟩ := squares (x * (x * x + 486662 * x + 1))
  · exact point_d0 hx h
  · exact point_d1 hx h

/-! ### Multiples of multiples -/
theorem low_two {d : K} {p : Pt} (hd : NS d) (h : On d p) (h1 : 1 + p.y = 0) : mul d 2 p = O := by
  have hy : p.y = -1 := by grind -lia -linarith
  have hx := x_nought hd h (by rw [hy]; decide)
  have h2 : mul d 2 p = add d p p := by show add d (mul d 1 p) p = _; rw [mul_one]
  rw [h2]
  unfold add O
  rw [hx, hy, show (1 : K) + d * 0 * 0 * -1 * -1 = 1 from by grind -lia -linarith, show (1 : K) - d * 0 * 0 * -1 * -1 = 1 from by grind -lia -linarith, kinv_1]
  exact congr (congrArg Pt.mk (by decide)) (by decide)
/-- Where a multiple's number is nought, twice so many are nought. -/
theorem U_nought {d s : K} {p : Pt} (hd : NS d) (hc : Cv d s) (h : On d p) (hu : U s p 0) : mul d 2 p = O := by
  rcases hu with ⟨e, _⟩ | ⟨_, e⟩
  · rw [e, mul_O]
  · refine low_two hd h ?_
    have k : s * (1 + p.y) = 0 := by grind -lia -linarith
    exact (mul0 k).resolve_left hc.nz
theorem mlt_mlt {d s x : K} {b : Pt} (hd : NS d) (hc : Cv d s) (hb : On d b) (hx : x ≠ 0) (hu : x * (1 - b.y) = s * (1 + b.y)) (b1 b2 : List Bool) (he : bval b2 % 2 = 0) :
    U s (mul d (bval b2 * bval b1) b) (mlt b2 (mlt b1 x)) := by
  have h1 := mlt_U hd hc hb hx hu b1
  have o1 := on_mul hd hb (bval b1)
  rw [← mul_mul hd hb]
  by_cases h0 : mlt b1 x = 0
  · rw [h0] at h1 ⊢
    rw [mlt_0]
    left
    refine ⟨?_, rfl⟩
    have h2 := U_nought hd hc o1 h1
    rw [show bval b2 = bval b2 / 2 * 2 from by omega, ← mul_mul hd o1, h2, mul_O]
  · rcases h1 with ⟨_, e⟩ | ⟨_, e⟩
    · exact absurd e h0
    · exact mlt_U hd hc o1 h0 e b2
theorem mlt_comm (b1 b2 : List Bool) (h1 : bval b1 % 2 = 0) (h2 : bval b2 % 2 = 0) (x : K) : mlt b2 (mlt b1 x) = mlt b1 (mlt b2 x) := by
  by_cases hx : x = 0
  · rw [hx, mlt_0, mlt_0, mlt_0]
  · obtain ⟨d, s, b, hd, hc, hb, hu⟩ := point x hx
    have g1 := mlt_mlt hd hc hb hx hu b1 b2 h2
    have g2 := mlt_mlt hd hc hb hx hu b2 b1 h1
    rw [Nat.mul_comm] at g2
    exact U_one hd (on_mul hd hb _) g1 g2
/-- What eight times makes nought has no multiple, of what is eight times another. -/
theorem mlt_low (bs : List Bool) (h8 : bval bs % 8 = 0) (x : K) (hl : (lad x [true, false, false, false]).1.2 = 0) : mlt bs x = 0 := by
  by_cases hx : x = 0
  · rw [hx, mlt_0]
  · obtain ⟨d, s, b, hd, hc, hb, hu⟩ := point x hx
    obtain ⟨l, h0, _, h2⟩ := (lad_rep hd hc hb hx hu [true, false, false, false]).1
    rw [hl, show bval [true, false, false, false] = 8 from rfl] at h2
    have h3 : mul d 8 b = O := by
      refine y_one hd (on_mul hd hb 8) ?_
      have k := (mul0 h2.symm).resolve_left (mul_ne hc.nz h0)
      grind -lia -linarith
    have g := mlt_U hd hc hb hx hu bs
    rw [show bval bs = bval bs / 8 * 8 from by omega, ← mul_mul hd hb, h3, mul_O] at g
    rcases g with ⟨_, e⟩ | ⟨e, _⟩
    · exact e
    · exact absurd rfl e

/-! ### Multiples of 9 -/
theorem gcd_O {d : K} {p : Pt} (hd : NS d) (h : On d p) (a c : Nat) : mul d a p = O → mul d c p = O → mul d (Nat.gcd a c) p = O := by
  induction a, c using Nat.gcd.induction with
  | H0 n => intro _ h2; rw [Nat.gcd_zero_left]; exact h2
  | H1 m n hm ih =>
    intro h1 h2
    rw [Nat.gcd_rec]
    refine ih ?_ h1
    have h3 := Nat.div_add_mod n m
    rw [← h3, mul_add hd h, Nat.mul_comm m, ← mul_mul hd h, h1, mul_O, add_comm, add_O] at h2
    exact h2
def bitsOf : Nat → Nat → List Bool
  | 0, _ => []
  | k + 1, n => bitsOf k (n / 2) ++ [n % 2 == 1]
def ell : Nat := 7237005577332262213973186563042994240857116359379907606001950938285454250989
theorem nine_bits : bval (bitsOf 253 ell) = ell := by decide +kernel
theorem nine_O : (lad 9 (bitsOf 253 ell)).1.2 = 0 := by decide +kernel
/-- The point of 9. -/
theorem nine_nz {d s : K} {b : Pt} (hd : NS d) (hc : Cv d s) (hb : On d b) (hu : 9 * (1 - b.y) = s * (1 + b.y)) (n : Nat) (hn : ¬ ell ∣ n) (u : K) (h : U s (mul d n b) u) : u ≠ 0 := by
  intro e
  rw [e] at h
  have h1 := U_nought hd hc (on_mul hd hb n) h
  rw [mul_mul hd hb] at h1
  obtain ⟨l, h0, _, h2⟩ := (lad_rep hd hc hb (by decide) hu (bitsOf 253 ell)).1
  rw [nine_O, nine_bits] at h2
  have h3 : mul d ell b = O := by
    refine y_one hd (on_mul hd hb _) ?_
    have k := (mul0 h2.symm).resolve_left (mul_ne hc.nz h0)
    grind -lia -linarith
  have hp : Pr ell := ell_prime
  have c1 := pr_coprime hp hn
  have c2 := pr_coprime (e := 2) hp (by decide)
  have c3 : Nat.gcd ell (2 * n) = 1 := Nat.Coprime.mul_right c2 c1
  have h4 := gcd_O hd hb _ _ h3 h1
  rw [c3, mul_one] at h4
  rw [h4] at hu
  have k : s * 2 = 0 := by
    have : (9 : K) * (1 - 1) = s * (1 + 1) := hu
    grind -lia -linarith
  exact (mul0 k).elim hc.nz two_ne
theorem pr_mul {q a b : Nat} (h : Pr q) (ha : ¬ q ∣ a) (hb : ¬ q ∣ b) : ¬ q ∣ a * b := fun e => hb ((pr_coprime h ha).dvd_of_dvd_mul_left e)
theorem key_ell (n : Nat) (h8 : n % 8 = 0) (h0 : 0 < n) (h1 : n < 2 ^ 255) : ¬ ell ∣ n := by
  obtain ⟨m, rfl⟩ : ∃ m, n = 8 * m := ⟨n / 8, by omega⟩
  refine pr_mul ell_prime (by decide) (fun e => ?_)
  have := Nat.le_of_dvd (by omega) e
  unfold ell at this
  omega
theorem mlt_nine (bs : List Bool) (h8 : bval bs % 8 = 0) (h0 : 0 < bval bs) (h1 : bval bs < 2 ^ 255) : mlt bs 9 ≠ 0 := by
  obtain ⟨d, s, b, hd, hc, hb, hu⟩ := point 9 (by decide)
  exact nine_nz hd hc hb hu _ (key_ell _ h8 h0 h1) _ (mlt_U hd hc hb (by decide) hu bs)
theorem mlt_nine2 (b1 b2 : List Bool) (h8 : bval b1 % 8 = 0) (h0 : 0 < bval b1) (h1 : bval b1 < 2 ^ 255) (g8 : bval b2 % 8 = 0) (g0 : 0 < bval b2) (g1 : bval b2 < 2 ^ 255) : mlt b2 (mlt b1 9) ≠ 0 := by
  obtain ⟨d, s, b, hd, hc, hb, hu⟩ := point 9 (by decide)
  exact nine_nz hd hc hb hu _ (pr_mul ell_prime (key_ell _ g8 g0 g1) (key_ell _ h8 h0 h1)) _ (mlt_mlt hd hc hb (by decide) hu b1 b2 (by omega))
end Go.Proofs.YtdpokjhoedhadabDoor.edw
