/-
  PLAIN MATHEMATICS OF Montgomery's ladder: of a number x it makes what stands for n times a point; multiples of multiples are in whatever order. No program is named here.
-/
import Derived.Test.YtdpokjhoedhadaaDoorPlainEdw
namespace Go.Proofs.YtdpokjhoedhadaaDoor.edw
open Go.Proofs.YtdpokjhoedhadaaDoor.num
set_option maxHeartbeats 4000000

/-! ### The ladder -/
/-- Doubled: x over z. -/
def dbl (p : K × K) : K × K :=
  ((p.1 + p.2) * (p.1 + p.2) * ((p.1 - p.2) * (p.1 - p.2)), ((p.1 + p.2) * (p.1 + p.2) - (p.1 - p.2) * (p.1 - p.2)) * ((p.1 + p.2) * (p.1 + p.2) + ((p.1 + p.2) * (p.1 + p.2) - (p.1 - p.2) * (p.1 - p.2)) * 121665))
/-- Together, where x lies between them. -/
def tog (p q : K × K) (x : K) : K × K :=
  (((q.1 - q.2) * (p.1 + p.2) + (q.1 + q.2) * (p.1 - p.2)) * ((q.1 - q.2) * (p.1 + p.2) + (q.1 + q.2) * (p.1 - p.2)), x * (((q.1 - q.2) * (p.1 + p.2) - (q.1 + q.2) * (p.1 - p.2)) * ((q.1 - q.2) * (p.1 + p.2) - (q.1 + q.2) * (p.1 - p.2))))
theorem tog_comm (p q : K × K) (x : K) : tog p q x = tog q p x := by
  unfold tog
  congr 1 <;> grind -lia -linarith
/-- A step by one bit. -/
def up (x : K) (s : (K × K) × (K × K)) (b : Bool) : (K × K) × (K × K) := if b then (tog s.1 s.2 x, dbl s.2) else (dbl s.1, tog s.1 s.2 x)
/-- The ladder by bits, the highest first. -/
def lad (x : K) (bs : List Bool) : (K × K) × (K × K) := bs.foldl (up x) ((1, 0), (x, 1))
/-- The number that bits are. -/
def bval (bs : List Bool) : Nat := bs.foldl (fun n b => 2 * n + (if b then 1 else 0)) 0
/-- What is answered. -/
def mlt (bs : List Bool) (x : K) : K := (lad x bs).1.1 * kinv (lad x bs).1.2
theorem lad_snoc (x : K) (bs : List Bool) (b : Bool) : lad x (bs ++ [b]) = up x (lad x bs) b := by simp [lad]
theorem bval_snoc (bs : List Bool) (b : Bool) : bval (bs ++ [b]) = 2 * bval bs + (if b then 1 else 0) := by simp [bval]

/-! ### What stands for a point -/
/-- d and s of a curve: the curve itself (s is 1), or its twist (s is -1). -/
def Cv (d s : K) : Prop := (s = 1 ∧ (1 - d) * 121665 = d) ∨ (s = -1 ∧ (d - 1) * 121665 = 1)
theorem Cv.sq {d s : K} (h : Cv d s) : s * s = 1 := by rcases h with ⟨rfl, _⟩ | ⟨rfl, _⟩ <;> decide
def Rep (s : K) (q : K × K) (p : Pt) : Prop := ∃ l, l ≠ 0 ∧ q.1 = l * (1 + p.y) ∧ q.2 = s * l * (1 - p.y)
theorem rep_of {s X Z y : K} (hs : s * s = 1) (h : X * (1 - y) = s * Z * (1 + y)) (hn : X = 0 → Z = 0 → False) : ∃ l, l ≠ 0 ∧ X = l * (1 + y) ∧ Z = s * l * (1 - y) := by
  obtain ⟨f, hf⟩ := half
  refine ⟨(X + s * Z) * f, ?_, ?_, ?_⟩
  · intro e
    have hf0 : f ≠ 0 := fun e => one_ne (by grind -lia -linarith)
    have h1 : X + s * Z = 0 := (mul0 e).resolve_right hf0
    have h2 : X = 0 := by grind -lia -linarith
    exact hn h2 (by grind -lia -linarith)
  · grind -lia -linarith
  · grind -lia -linarith
theorem rep_dbl {d s : K} {p : Pt} {q : K × K} (hd : NS d) (hc : Cv d s) (h : On d p) (hr : Rep s q p) : Rep s (dbl q) (add d p p) := by
  obtain ⟨l, hl, h1, h2⟩ := hr
  have hs := hc.sq
  have j := kinv_mul _ (den_m hd h h)
  unfold Rep add dbl
  dsimp only
  unfold On at h
  rw [h1, h2]
  generalize kinv (1 - d*p.x*p.x*p.y*p.y) = i at *
  generalize p.x = x at *
  generalize p.y = y at *
  clear h1 h2
  obtain ⟨f, hf⟩ := half
  refine rep_of hs ?_ ?_
  · refine cancel (den_m hd h h) ?_
    have k : (1 - d*x*x*y*y) * ((y * y - x * x) * i) = y * y - x * x := by grind -lia -linarith
    generalize (y * y - x * x) * i = t at *
    clear j
    have k1 : (1 - d*x*x*y*y) * (1 - t) = 2 * (1 - y * y) := by grind -lia -linarith
    have k2 : (1 - d*x*x*y*y) * (1 + t) = 2 * (1 - x * x) := by grind -lia -linarith
    clear k
    generalize 1 - d*x*x*y*y = a at *
    rcases hc with ⟨rfl, hc⟩ | ⟨rfl, hc⟩
    · have e : (1 - x * x) * (1 + 121665 * (1 - y * y)) = y * y := by
        have hD : (1 - d) ≠ 0 := fun e => one_ne (by grind -lia -linarith)
        refine cancel hD ?_
        grind -lia -linarith
      grind -lia -linarith
    · have e : (1 - x * x) * (121666 * (y * y) - 121665) = y * y := by
        have hD : (d - 1) ≠ 0 := fun e => one_ne (by grind -lia -linarith)
        refine cancel hD ?_
        grind -lia -linarith
      grind -lia -linarith
  · intro hx hz
    have l2 := mul_ne hl hl
    have l4 := mul_ne l2 l2
    have hy : y = 0 := by
      have k : (l * l * (l * l)) * (16 * (y * y)) = 0 := by
        rcases hc with ⟨rfl, hc⟩ | ⟨rfl, hc⟩ <;> grind -lia -linarith
      have k2 := (mul0 k).resolve_left l4
      exact sq0 ((mul0 k2).resolve_left (by decide))
    subst hy
    rcases hc with ⟨rfl, hc⟩ | ⟨rfl, hc⟩
    · have k : (l * l * (l * l)) * (16 * 121666) = 0 := by grind -lia -linarith
      exact absurd ((mul0 k).resolve_left l4) (by decide)
    · have k : (l * l * (l * l)) * (16 * 121665) = 0 := by grind -lia -linarith
      exact absurd ((mul0 k).resolve_left l4) (by decide)
def neg (p : Pt) : Pt := ⟨-p.x, p.y⟩
theorem on_neg {d : K} {p : Pt} (h : On d p) : On d (neg p) := by unfold On neg at *; grind -lia -linarith
theorem add_neg {d : K} {p : Pt} (hd : NS d) (h : On d p) : add d p (neg p) = O := by
  have i1 := kinv_mul _ (den_p hd h (on_neg h))
  have i2 := kinv_mul _ (den_m hd h (on_neg h))
  unfold On at h
  unfold add neg O at *
  dsimp only at *
  congr 1
  · grind -lia -linarith
  · have k : 1 - d*p.x*(-p.x)*p.y*p.y = p.y * p.y - p.x * (-p.x) := by grind -lia -linarith
    rw [← k]; exact i2
/-- What lies between two points. -/
theorem between {d : K} {p b : Pt} (hd : NS d) (hp : On d p) (hb : On d b) : add d (add d p b) (neg p) = b := by
  rw [add_comm d p b, add_assoc hd hb hp (on_neg hp), add_neg hd hp, add_O]
theorem diff_plain {d x1 y1 x2 y2 y3 y0 : K} (e1 : x1*x1+y1*y1 = 1+d*(x1*x1)*(y1*y1)) (e2 : x2*x2+y2*y2 = 1+d*(x2*x2)*(y2*y2))
    (h3 : (1 - d*x1*x2*y1*y2) * y3 = y1*y2 - x1*x2) (h0 : (1 + d*x1*x2*y1*y2) * y0 = y1*y2 + x1*x2) (n3 : 1 - d*x1*x2*y1*y2 ≠ 0) (n0 : 1 + d*x1*x2*y1*y2 ≠ 0) :
    (y1+y2)*(y1+y2)*((1-y3)*(1-y0)) = (y2-y1)*(y2-y1)*((1+y3)*(1+y0)) := by
  have k : (y1+y2)*(y1+y2)*((1 - d*x1*x2*y1*y2 - (y1*y2-x1*x2))*(1 + d*x1*x2*y1*y2 - (y1*y2+x1*x2))) = (y2-y1)*(y2-y1)*((1 - d*x1*x2*y1*y2 + (y1*y2-x1*x2))*(1 + d*x1*x2*y1*y2 + (y1*y2+x1*x2))) := by
    clear h3 h0 n3 n0
    grind -lia -linarith
  refine cancel (mul_ne n3 n0) ?_
  rw [← h3, ← h0] at k
  clear h3 h0 n3 n0 e1 e2
  generalize 1 - d*x1*x2*y1*y2 = a at *
  generalize 1 + d*x1*x2*y1*y2 = b at *
  grind -lia -linarith
theorem rep_tog {d s x : K} {p b : Pt} {q r : K × K} (hd : NS d) (hc : Cv d s) (hp : On d p) (hb : On d b) (hx : x ≠ 0) (hu : x * (1 - b.y) = s * (1 + b.y)) (hr : Rep s q p) (hr2 : Rep s r (add d p b)) : Rep s (tog q r x) (add d p (add d p b)) := by
  have hs := hc.sq
  have hbt := between hd hp hb
  have hQ := on_add hd hp hb
  generalize add d p b = Q at *
  obtain ⟨l, hl, h1, h2⟩ := hr
  obtain ⟨m, hm, h3, h4⟩ := hr2
  have hy0 : (1 + d*p.x*Q.x*p.y*Q.y) * b.y = p.y*Q.y + p.x*Q.x := by
    have k := kinv_mul _ (den_m hd hQ (on_neg hp))
    rw [← hbt]
    unfold add neg at *
    dsimp only at *
    generalize kinv (1 - d * Q.x * -p.x * Q.y * p.y) = i at *
    grind -lia -linarith
  have hy3 : (1 - d*p.x*Q.x*p.y*Q.y) * (add d p Q).y = p.y*Q.y - p.x*Q.x := by
    have k := kinv_mul _ (den_m hd hp hQ)
    unfold add
    dsimp only
    generalize kinv (1 - d*p.x*Q.x*p.y*Q.y) = i at *
    grind -lia -linarith
  have key := diff_plain hp hQ hy3 hy0 (den_m hd hp hQ) (den_p hd hp hQ)
  unfold Rep tog
  dsimp only
  rw [h1, h2, h3, h4]
  unfold On at hp hQ
  generalize (add d p Q).y = y3 at *
  clear h1 h2 h3 h4 hbt hy3
  clear hb
  generalize b.y = y0 at *
  generalize p.x = x1 at *
  generalize p.y = y1 at *
  generalize Q.x = x2 at *
  generalize Q.y = y2 at *
  have hn : 1 - y0 ≠ 0 := fun e => by
    have k : s * 2 = 0 := by grind -lia -linarith
    have k2 : s = 0 := (mul0 k).resolve_right two_ne
    exact one_ne (by grind -lia -linarith)
  refine rep_of hs ?_ ?_
  · refine cancel hn ?_
    clear hy0 hp hQ
    rcases hc with ⟨rfl, hc⟩ | ⟨rfl, hc⟩
    · clear hc
      have k : (1 - y0) * x = 1 + y0 := by grind -lia -linarith
      clear hu
      have g1 : l*(1+y1) + 1*l*(1-y1) = 2*l := by grind -lia -linarith
      have g2 : l*(1+y1) - 1*l*(1-y1) = 2*l*y1 := by grind -lia -linarith
      have g3 : m*(1+y2) + 1*m*(1-y2) = 2*m := by grind -lia -linarith
      have g4 : m*(1+y2) - 1*m*(1-y2) = 2*m*y2 := by grind -lia -linarith
      rw [g1, g2, g3, g4]
      clear g1 g2 g3 g4
      grind -lia -linarith
    · clear hc
      have k : (1 - y0) * x = -(1 + y0) := by grind -lia -linarith
      clear hu
      have g1 : l*(1+y1) + -1*l*(1-y1) = 2*l*y1 := by grind -lia -linarith
      have g2 : l*(1+y1) - -1*l*(1-y1) = 2*l := by grind -lia -linarith
      have g3 : m*(1+y2) + -1*m*(1-y2) = 2*m*y2 := by grind -lia -linarith
      have g4 : m*(1+y2) - -1*m*(1-y2) = 2*m := by grind -lia -linarith
      rw [g1, g2, g3, g4]
      clear g1 g2 g3 g4
      grind -lia -linarith
  · intro eX eZ
    have eX := sq0 eX
    have eZ := sq0 ((mul0 eZ).resolve_left hx)
    have lm := mul_ne hl hm
    have a1 : (l * m) * (4 * (y1 + y2)) = 0 := by
      clear key hu hy0 hp hQ
      rcases hc with ⟨rfl, hc⟩ | ⟨rfl, hc⟩ <;> (clear hc; grind -lia -linarith)
    have a2 : (l * m) * (4 * (y1 - y2)) = 0 := by
      clear key hu hy0 hp hQ
      rcases hc with ⟨rfl, hc⟩ | ⟨rfl, hc⟩ <;> (clear hc; grind -lia -linarith)
    have b1 := (mul0 ((mul0 a1).resolve_left lm)).resolve_left (by decide)
    have b2 := (mul0 ((mul0 a2).resolve_left lm)).resolve_left (by decide)
    have c1 : y1 = 0 := (mul0 (a := 2) (by grind -lia -linarith)).resolve_left two_ne
    have c2 : y2 = 0 := by grind -lia -linarith
    subst c1 c2
    have z1 : x1 * x1 = 1 := by grind -lia -linarith
    have z2 : x2 * x2 = 1 := by grind -lia -linarith
    have z0 : y0 = x1 * x2 := by grind -lia -linarith
    have z3 : (1 - y0) * (1 + y0) = 0 := by grind -lia -linarith
    have z4 := (mul0 z3).resolve_left hn
    rw [z4] at hu
    have z5 : x * (1 - y0) = 0 := by grind -lia -linarith
    exact (mul0 z5).elim hx hn
end Go.Proofs.YtdpokjhoedhadaaDoor.edw
