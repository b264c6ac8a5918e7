/-
  PLAIN MATHEMATICS OF Edwards's curves x x + y y = 1 + d x x y y over the numbers modulo 2^255 - 19, where d is no square: points are added without exceptions, in whatever order and grouping. No program is named here.
-/
import Derived.Test.YtdpokjhoedhadaaDoorPlainK
namespace Go.Proofs.YtdpokjhoedhadaaDoor.edw
open Go.Proofs.YtdpokjhoedhadaaDoor.num
set_option maxHeartbeats 4000000

structure Pt where
  x : K
  y : K
def On (d : K) (p : Pt) : Prop := p.x*p.x + p.y*p.y = 1 + d*(p.x*p.x)*(p.y*p.y)
theorem complete {d x1 y1 x2 y2 : K} (hd : NS d) (h1 : x1*x1+y1*y1 = 1+d*(x1*x1)*(y1*y1)) (h2 : x2*x2+y2*y2 = 1+d*(x2*x2)*(y2*y2)) (e : K) (he : e*e = 1) : d*x1*x2*y1*y2 ≠ e := by
  intro h
  have a1 := hd (x1 + e*y1) (x1*y1*(x2+y2)) (by grind -lia -linarith)
  have a2 := hd (x1 - e*y1) (x1*y1*(x2-y2)) (by grind -lia -linarith)
  obtain ⟨f, hf⟩ := half
  have a3 : x1*y1*x2 = 0 := by grind -lia -linarith
  have a4 : e = 0 := by grind -lia -linarith
  exact one_ne (by grind -lia -linarith)
theorem den_p {d x1 y1 x2 y2 : K} (hd : NS d) (h1 : x1*x1+y1*y1 = 1+d*(x1*x1)*(y1*y1)) (h2 : x2*x2+y2*y2 = 1+d*(x2*x2)*(y2*y2)) : 1 + d*x1*x2*y1*y2 ≠ 0 := fun h =>
  complete hd h1 h2 (-1) (by decide) (by grind -lia -linarith)
theorem den_m {d x1 y1 x2 y2 : K} (hd : NS d) (h1 : x1*x1+y1*y1 = 1+d*(x1*x1)*(y1*y1)) (h2 : x2*x2+y2*y2 = 1+d*(x2*x2)*(y2*y2)) : 1 - d*x1*x2*y1*y2 ≠ 0 := fun h =>
  complete hd h1 h2 1 (by decide) (by grind -lia -linarith)
def add (d : K) (p q : Pt) : Pt := ⟨(p.x*q.y+p.y*q.x) * kinv (1 + d*p.x*q.x*p.y*q.y), (p.y*q.y - p.x*q.x) * kinv (1 - d*p.x*q.x*p.y*q.y)⟩
theorem on_add {d : K} {p q : Pt} (hd : NS d) (h1 : On d p) (h2 : On d q) : On d (add d p q) := by
  have i1 := kinv_mul _ (den_p hd h1 h2)
  have i2 := kinv_mul _ (den_m hd h1 h2)
  unfold On at *
  unfold add
  dsimp only
  generalize kinv (1 + d*p.x*q.x*p.y*q.y) = i at *
  generalize kinv (1 - d*p.x*q.x*p.y*q.y) = j at *
  generalize p.x = x1 at *
  generalize p.y = y1 at *
  generalize q.x = x2 at *
  generalize q.y = y2 at *
  have key : (x1*y2+y1*x2)*(x1*y2+y1*x2)*((1-d*x1*x2*y1*y2)*(1-d*x1*x2*y1*y2)) + (y1*y2-x1*x2)*(y1*y2-x1*x2)*((1+d*x1*x2*y1*y2)*(1+d*x1*x2*y1*y2)) = (1+d*x1*x2*y1*y2)*(1+d*x1*x2*y1*y2)*((1-d*x1*x2*y1*y2)*(1-d*x1*x2*y1*y2)) + d*((x1*y2+y1*x2)*(x1*y2+y1*x2))*((y1*y2-x1*x2)*(y1*y2-x1*x2)) := by
    clear i1 i2
    grind -lia -linarith
  generalize x1*y2+y1*x2 = s at *
  generalize y1*y2-x1*x2 = c at *
  generalize 1 + d*x1*x2*y1*y2 = a at *
  generalize 1 - d*x1*x2*y1*y2 = b at *
  clear h1 h2
  grind -lia -linarith

theorem assoc_x {d x1 y1 x2 y2 x3 y3 : K} (e1 : x1*x1+y1*y1 = 1+d*(x1*x1)*(y1*y1)) (e2 : x2*x2+y2*y2 = 1+d*(x2*x2)*(y2*y2)) (e3 : x3*x3+y3*y3 = 1+d*(x3*x3)*(y3*y3)) :
  ((x1*y2+y1*x2)*(1-d*x1*x2*y1*y2)*y3 + (y1*y2-x1*x2)*(1+d*x1*x2*y1*y2)*x3) * ((1+d*x2*x3*y2*y3)*(1-d*x2*x3*y2*y3)+d*(x2*y3+y2*x3)*(y2*y3-x2*x3)*x1*y1)
  = ((x2*y3+y2*x3)*(1-d*x2*x3*y2*y3)*y1 + (y2*y3-x2*x3)*(1+d*x2*x3*y2*y3)*x1) * ((1+d*x1*x2*y1*y2)*(1-d*x1*x2*y1*y2)+d*(x1*y2+y1*x2)*(y1*y2-x1*x2)*x3*y3) := by
  grind -lia -linarith
theorem assoc_y {d x1 y1 x2 y2 x3 y3 : K} (e1 : x1*x1+y1*y1 = 1+d*(x1*x1)*(y1*y1)) (e2 : x2*x2+y2*y2 = 1+d*(x2*x2)*(y2*y2)) (e3 : x3*x3+y3*y3 = 1+d*(x3*x3)*(y3*y3)) :
  ((y1*y2-x1*x2)*(1+d*x1*x2*y1*y2)*y3 - (x1*y2+y1*x2)*(1-d*x1*x2*y1*y2)*x3) * ((1+d*x2*x3*y2*y3)*(1-d*x2*x3*y2*y3)-d*(x2*y3+y2*x3)*(y2*y3-x2*x3)*x1*y1)
  = ((y2*y3-x2*x3)*(1+d*x2*x3*y2*y3)*y1 - (x2*y3+y2*x3)*(1-d*x2*x3*y2*y3)*x1) * ((1+d*x1*x2*y1*y2)*(1-d*x1*x2*y1*y2)-d*(x1*y2+y1*x2)*(y1*y2-x1*x2)*x3*y3) := by
  grind -lia -linarith
/-- One coordinate of a sum of a sum: what it is times its denominator. -/
theorem frac_x {d a b s c i j x3 y3 v : K} (hi : a*i = 1) (hj : b*j = 1) (hv : (1 + d*(s*i)*x3*(c*j)*y3)*v = 1) :
    ((s*i*y3 + c*j*x3)*v) * (a*b + d*s*c*x3*y3) = s*b*y3 + c*a*x3 := by grind -lia -linarith
theorem frac_y {d a b s c i j x3 y3 v : K} (hi : a*i = 1) (hj : b*j = 1) (hv : (1 - d*(s*i)*x3*(c*j)*y3)*v = 1) :
    ((c*j*y3 - s*i*x3)*v) * (a*b - d*s*c*x3*y3) = c*a*y3 - s*b*x3 := by grind -lia -linarith
theorem frac_dx {d a b s c i j x3 y3 v : K} (hi : a*i = 1) (hj : b*j = 1) (hv : (1 + d*(s*i)*x3*(c*j)*y3)*v = 1) : a*b + d*s*c*x3*y3 ≠ 0 := fun e => one_ne (by
  have : (1 + d*(s*i)*x3*(c*j)*y3) * (a*b) = 0 := by grind -lia -linarith
  grind -lia -linarith)
theorem frac_dy {d a b s c i j x3 y3 v : K} (hi : a*i = 1) (hj : b*j = 1) (hv : (1 - d*(s*i)*x3*(c*j)*y3)*v = 1) : a*b - d*s*c*x3*y3 ≠ 0 := fun e => one_ne (by
  have : (1 - d*(s*i)*x3*(c*j)*y3) * (a*b) = 0 := by grind -lia -linarith
  grind -lia -linarith)
theorem same {L R DL DR NL NR : K} (h1 : L*DL = NL) (h2 : R*DR = NR) (n1 : DL ≠ 0) (n2 : DR ≠ 0) (h : NL*DR = NR*DL) : L = R := by
  refine cancel (mul_ne n1 n2) ?_
  grind -lia -linarith
theorem add_comm (d : K) (p q : Pt) : add d p q = add d q p := by
  have e1 : p.x*q.y+p.y*q.x = q.x*p.y+q.y*p.x := by grind -lia -linarith
  have e2 : p.y*q.y-p.x*q.x = q.y*p.y-q.x*p.x := by grind -lia -linarith
  have e3 : d*p.x*q.x*p.y*q.y = d*q.x*p.x*q.y*p.y := by grind -lia -linarith
  unfold add
  rw [e1, e2, e3]
theorem add_assoc {d : K} {p q r : Pt} (hd : NS d) (h1 : On d p) (h2 : On d q) (h3 : On d r) : add d (add d p q) r = add d p (add d q r) := by
  rw [add_comm d p (add d q r)]
  have o12 := on_add hd h1 h2
  have o23 := on_add hd h2 h3
  have k1 := kinv_mul _ (den_p hd o12 h3)
  have k2 := kinv_mul _ (den_m hd o12 h3)
  have k3 := kinv_mul _ (den_p hd o23 h1)
  have k4 := kinv_mul _ (den_m hd o23 h1)
  have i1 := kinv_mul _ (den_p hd h1 h2)
  have i2 := kinv_mul _ (den_m hd h1 h2)
  have i3 := kinv_mul _ (den_p hd h2 h3)
  have i4 := kinv_mul _ (den_m hd h2 h3)
  have ax := assoc_x h1 h2 h3
  have ay := assoc_y h1 h2 h3
  clear o12 o23
  show Pt.mk _ _ = Pt.mk _ _
  congr 1
  · exact same (frac_x i1 i2 k1) (frac_x i3 i4 k3) (frac_dx i1 i2 k1) (frac_dx i3 i4 k3) ax
  · exact same (frac_y i1 i2 k2) (frac_y i3 i4 k4) (frac_dy i1 i2 k2) (frac_dy i3 i4 k4) ay
def O : Pt := ⟨0, 1⟩
theorem add_O (d : K) (p : Pt) : add d p O = p := by
  unfold add O
  dsimp only
  rw [show 1 + d*p.x*0*p.y*1 = 1 from by grind -lia -linarith, show 1 - d*p.x*0*p.y*1 = 1 from by grind -lia -linarith, kinv_1]
  cases p
  congr 1 <;> grind -lia -linarith
theorem on_O (d : K) : On d O := by unfold On O; grind -lia -linarith
/-- n times a point. -/
def mul (d : K) : Nat → Pt → Pt
  | 0, _ => O
  | n + 1, p => add d (mul d n p) p
theorem on_mul {d : K} {p : Pt} (hd : NS d) (h : On d p) (n : Nat) : On d (mul d n p) := by
  induction n with
  | zero => exact on_O d
  | succ n ih => exact on_add hd ih h
theorem mul_add {d : K} {p : Pt} (hd : NS d) (h : On d p) (m n : Nat) : mul d (m + n) p = add d (mul d m p) (mul d n p) := by
  induction n with
  | zero => exact (add_O d _).symm
  | succ n ih => show add d (mul d (m + n) p) p = add d _ (add d _ p); rw [ih, add_assoc hd (on_mul hd h m) (on_mul hd h n) h]
theorem mul_mul {d : K} {p : Pt} (hd : NS d) (h : On d p) (m n : Nat) : mul d m (mul d n p) = mul d (m * n) p := by
  induction m with
  | zero => rw [Nat.zero_mul]; rfl
  | succ m ih => show add d (mul d m (mul d n p)) (mul d n p) = _; rw [ih, Nat.succ_mul, mul_add hd h]
theorem mul_O (d : K) (n : Nat) : mul d n O = O := by
  induction n with
  | zero => rfl
  | succ n ih => show add d (mul d n O) O = O; rw [ih, add_O]
theorem mul_one (d : K) (p : Pt) : mul d 1 p = p := by show add d O p = p; rw [add_comm, add_O]
end Go.Proofs.YtdpokjhoedhadaaDoor.edw
