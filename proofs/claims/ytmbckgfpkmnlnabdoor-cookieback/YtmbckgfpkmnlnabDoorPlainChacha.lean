/-
  PLAIN MATHEMATICS OF streams (ChaCha): quarters of a round and what undoes them, rounds, blocks. No program is named here.
-/
import Derived.Test.YtmbckgfpkmnlnabDoorPlainGhashText
namespace Go.Proofs.YtmbckgfpkmnlnabDoor.cha
open Go.RowKit
open Go.Proofs.YtmbckgfpkmnlnabDoor.ghs (tb tb_lt tb_tx mkl mkl_length mkl_get mkl_congr mkl_succ tx_ext text_ext xo)

/-- Sums are cut. -/
def ad (a b : Nat) : Nat := (a + b) % 4294967296
def sb (a b : Nat) : Nat := (a + (4294967296 - b)) % 4294967296
theorem ad_lt (a b : Nat) : ad a b < 4294967296 := Nat.mod_lt _ (by decide)
theorem sb_lt (a b : Nat) : sb a b < 4294967296 := Nat.mod_lt _ (by decide)
theorem sb_ad {a b : Nat} (ha : a < 4294967296) (hb : b < 4294967296) : sb (ad a b) b = a := by unfold sb ad; omega
theorem ad_sb {a b : Nat} (ha : a < 4294967296) (hb : b < 4294967296) : ad (sb a b) b = a := by unfold sb ad; omega
/-- Turned by k. -/
def rl (k x : Nat) : Nat := x * 2 ^ k % 4294967296 + x / 2 ^ (32 - k)
theorem rl_lt (k x : Nat) (hk : k = 7 ∨ k = 8 ∨ k = 12 ∨ k = 16 ∨ k = 20 ∨ k = 24 ∨ k = 25) (h : x < 4294967296) : rl k x < 4294967296 := by
  unfold rl
  rcases hk with rfl | rfl | rfl | rfl | rfl | rfl | rfl <;> simp only [Nat.reducePow, Nat.reduceSub] <;> omega
theorem turn_eq (A B x : Nat) : x * B % (A * B) + x / A = x % A * B + x / A := by rw [Nat.mul_mod_mul_right]
theorem turn_turn {A B x : Nat} (hA : 0 < A) (hB : 0 < B) (h : x < A * B) : (x * B % (A * B) + x / A) * A % (B * A) + (x * B % (A * B) + x / A) / B = x := by
  have hq : x / A < B := (Nat.div_lt_iff_lt_mul hA).2 (by rw [Nat.mul_comm]; exact h)
  rw [turn_eq, turn_eq, Nat.mul_comm (x % A) B, Nat.mul_add_mod, Nat.mod_eq_of_lt hq, Nat.mul_add_div hB, Nat.div_eq_of_lt hq, Nat.add_zero, Nat.mul_comm]
  exact Nat.div_add_mod x A
theorem rl_rl (k x : Nat) (hk : k = 7 ∨ k = 8 ∨ k = 12 ∨ k = 16 ∨ k = 20 ∨ k = 24 ∨ k = 25) (h : x < 4294967296) : rl (32 - k) (rl k x) = x := by
  rcases hk with rfl | rfl | rfl | rfl | rfl | rfl | rfl
  · exact turn_turn (A := 33554432) (B := 128) (by decide) (by decide) h
  · exact turn_turn (A := 16777216) (B := 256) (by decide) (by decide) h
  · exact turn_turn (A := 1048576) (B := 4096) (by decide) (by decide) h
  · exact turn_turn (A := 65536) (B := 65536) (by decide) (by decide) h
  · exact turn_turn (A := 4096) (B := 1048576) (by decide) (by decide) h
  · exact turn_turn (A := 256) (B := 16777216) (by decide) (by decide) h
  · exact turn_turn (A := 128) (B := 33554432) (by decide) (by decide) h
theorem xor_lt {a b : Nat} (ha : a < 4294967296) (hb : b < 4294967296) : a ^^^ b < 4294967296 := Nat.xor_lt_two_pow (n := 32) ha hb
theorem xor_back (a b : Nat) : a ^^^ b ^^^ b = a := by rw [Nat.xor_assoc, Nat.xor_self, Nat.xor_zero]

/-- Four numbers. -/
structure Q where
  a : Nat
  b : Nat
  c : Nat
  d : Nat
structure Q.Ok (q : Q) : Prop where
  a : q.a < 4294967296
  b : q.b < 4294967296
  c : q.c < 4294967296
  d : q.d < 4294967296
/-- Its steps: what is added to the first and turns the last, and the two others. -/
def ev (n : Nat) (q : Q) : Q := ⟨ad q.a q.b, q.b, q.c, rl n (q.d ^^^ ad q.a q.b)⟩
def od (n : Nat) (q : Q) : Q := ⟨q.a, rl n (q.b ^^^ ad q.c q.d), ad q.c q.d, q.d⟩
def unev (n : Nat) (q : Q) : Q := ⟨sb q.a q.b, q.b, q.c, rl (32 - n) q.d ^^^ q.a⟩
def unod (n : Nat) (q : Q) : Q := ⟨q.a, rl (32 - n) q.b ^^^ q.c, sb q.c q.d, q.d⟩
def qr (q : Q) : Q := od 7 (ev 8 (od 12 (ev 16 q)))
def un (q : Q) : Q := unev 16 (unod 12 (unev 8 (unod 7 q)))
theorem ev_ok {n : Nat} (hn : n = 8 ∨ n = 16) {q : Q} (h : q.Ok) : (ev n q).Ok :=
  ⟨ad_lt _ _, h.b, h.c, rl_lt n _ (by omega) (xor_lt h.d (ad_lt _ _))⟩
theorem od_ok {n : Nat} (hn : n = 7 ∨ n = 12) {q : Q} (h : q.Ok) : (od n q).Ok :=
  ⟨h.a, rl_lt n _ (by omega) (xor_lt h.b (ad_lt _ _)), ad_lt _ _, h.d⟩
theorem unev_ok {n : Nat} (hn : n = 8 ∨ n = 16) {q : Q} (h : q.Ok) : (unev n q).Ok :=
  ⟨sb_lt _ _, h.b, h.c, xor_lt (rl_lt _ _ (by omega) h.d) h.a⟩
theorem unod_ok {n : Nat} (hn : n = 7 ∨ n = 12) {q : Q} (h : q.Ok) : (unod n q).Ok :=
  ⟨h.a, xor_lt (rl_lt _ _ (by omega) h.b) h.c, sb_lt _ _, h.d⟩
theorem qr_ok {q : Q} (h : q.Ok) : (qr q).Ok := od_ok (.inl rfl) (ev_ok (.inl rfl) (od_ok (.inr rfl) (ev_ok (.inr rfl) h)))
theorem un_ok {q : Q} (h : q.Ok) : (un q).Ok := unev_ok (.inr rfl) (unod_ok (.inr rfl) (unev_ok (.inl rfl) (unod_ok (.inl rfl) h)))
theorem unev_ev {n : Nat} (hn : n = 8 ∨ n = 16) {q : Q} (h : q.Ok) : unev n (ev n q) = q := by
  obtain ⟨a, b, c, d⟩ := q
  unfold unev ev
  simp only
  rw [sb_ad h.a h.b, rl_rl n _ (by omega) (xor_lt h.d (ad_lt _ _)), xor_back]
theorem unod_od {n : Nat} (hn : n = 7 ∨ n = 12) {q : Q} (h : q.Ok) : unod n (od n q) = q := by
  obtain ⟨a, b, c, d⟩ := q
  unfold unod od
  simp only
  rw [sb_ad h.c h.d, rl_rl n _ (by omega) (xor_lt h.b (ad_lt _ _)), xor_back]
theorem rl_back (n x : Nat) (hn : n = 7 ∨ n = 8 ∨ n = 12 ∨ n = 16) (h : x < 4294967296) : rl n (rl (32 - n) x) = x := by
  have := rl_rl (32 - n) x (by omega) h
  rwa [show 32 - (32 - n) = n from by omega] at this
theorem ev_unev {n : Nat} (hn : n = 8 ∨ n = 16) {q : Q} (h : q.Ok) : ev n (unev n q) = q := by
  obtain ⟨a, b, c, d⟩ := q
  unfold unev ev
  simp only
  rw [ad_sb h.a h.b, xor_back, rl_back n _ (by omega) h.d]
theorem od_unod {n : Nat} (hn : n = 7 ∨ n = 12) {q : Q} (h : q.Ok) : od n (unod n q) = q := by
  obtain ⟨a, b, c, d⟩ := q
  unfold unod od
  simp only
  rw [ad_sb h.c h.d, xor_back, rl_back n _ (by omega) h.b]
theorem un_qr {q : Q} (h : q.Ok) : un (qr q) = q := by
  have h1 := ev_ok (.inr rfl) h
  have h2 := od_ok (.inr rfl) h1
  have h3 := ev_ok (.inl rfl) h2
  unfold un qr
  rw [unod_od (.inl rfl) h3, unev_ev (.inl rfl) h2, unod_od (.inr rfl) h1, unev_ev (.inr rfl) h]
theorem qr_un {q : Q} (h : q.Ok) : qr (un q) = q := by
  have h1 := unod_ok (.inl rfl) h
  have h2 := unev_ok (.inl rfl) h1
  have h3 := unod_ok (.inr rfl) h2
  unfold un qr
  rw [ev_unev (.inr rfl) h3, od_unod (.inr rfl) h2, ev_unev (.inl rfl) h1, od_unod (.inl rfl) h]

/-! ### Rounds -/
/-- All are numbers of 32 bits. -/
def Ws (l : List Nat) : Prop := ∀ x ∈ l, x < 4294967296
theorem Ws.get {l : List Nat} (h : Ws l) (k : Nat) : l.getD k 0 < 4294967296 := by
  by_cases hk : k < l.length
  · rw [List.getD_eq_getElem?_getD, List.getElem?_eq_getElem hk]; exact h _ (List.getElem_mem hk)
  · rw [List.getD_eq_getElem?_getD, List.getElem?_eq_none (by omega)]; decide
theorem Ws.set {l : List Nat} (h : Ws l) (k x : Nat) (hx : x < 4294967296) : Ws (l.set k x) := fun y hy => by
  rcases List.mem_or_eq_of_mem_set hy with h1 | h1
  · exact h y h1
  · rw [h1]; exact hx
theorem Ws.append {l m : List Nat} (h : Ws l) (k : Ws m) : Ws (l ++ m) := fun x hx => by
  rcases List.mem_append.1 hx with h1 | h1
  · exact h x h1
  · exact k x h1
theorem Ws.take {l : List Nat} (h : Ws l) (k : Nat) : Ws (l.take k) := fun x hx => h x (List.mem_of_mem_take hx)
theorem Ws.drop {l : List Nat} (h : Ws l) (k : Nat) : Ws (l.drop k) := fun x hx => h x (List.mem_of_mem_drop hx)
theorem Ws.mkl (n : Nat) (f : Nat → Nat) (h : ∀ k, k < n → f k < 4294967296) : Ws (mkl n f) := fun x hx => by
  obtain ⟨k, hk, rfl⟩ := List.mem_map.1 hx
  exact h k (List.mem_range.1 hk)
/-- The four numbers at these places. -/
def at4 (l : List Nat) (a b c d : Nat) : Q := ⟨l.getD a 0, l.getD b 0, l.getD c 0, l.getD d 0⟩
theorem at4_ok {l : List Nat} (h : Ws l) (a b c d : Nat) : (at4 l a b c d).Ok := ⟨h.get a, h.get b, h.get c, h.get d⟩
def put4 (l : List Nat) (a b c d : Nat) (q : Q) : List Nat := (((l.set a q.a).set b q.b).set c q.c).set d q.d
/-- Stirred there. -/
def st (l : List Nat) (a b c d : Nat) : List Nat := put4 l a b c d (qr (at4 l a b c d))
theorem st_length (l : List Nat) (a b c d : Nat) : (st l a b c d).length = l.length := by simp [st, put4]
theorem st_ok {l : List Nat} (h : Ws l) (a b c d : Nat) : Ws (st l a b c d) := by
  have hq := qr_ok (at4_ok h a b c d)
  exact (((h.set a _ hq.a).set b _ hq.b).set c _ hq.c).set d _ hq.d
/-- Round i: a column, or what lies across. -/
def step (l : List Nat) (i : Nat) : List Nat := st l (i % 4) (4 + (i % 4 + i / 4 % 2) % 4) (8 + (i % 4 + 2 * (i / 4 % 2)) % 4) (12 + (i % 4 + 3 * (i / 4 % 2)) % 4)
def rds (l : List Nat) : Nat → List Nat
  | 0 => l
  | i + 1 => step (rds l i) i
theorem rds_length (l : List Nat) : ∀ i, (rds l i).length = l.length
  | 0 => rfl
  | i + 1 => by rw [rds, step, st_length, rds_length l i]
theorem rds_ok {l : List Nat} (h : Ws l) : ∀ i, Ws (rds l i)
  | 0 => h
  | i + 1 => st_ok (rds_ok h i) _ _ _ _
/-- Eight steps, as the document names them. -/
theorem rds_8 (l : List Nat) (m : Nat) : rds l (8 * (m + 1)) =
    st (st (st (st (st (st (st (st (rds l (8 * m)) 0 4 8 12) 1 5 9 13) 2 6 10 14) 3 7 11 15) 0 5 10 15) 1 6 11 12) 2 7 8 13) 3 4 9 14 := by
  have e : ∀ j, j < 8 → (8 * m + j) % 4 = j % 4 ∧ (8 * m + j) / 4 % 2 = j / 4 % 2 := fun j hj => by omega
  have e0 : 8 * m % 4 = 0 ∧ 8 * m / 4 % 2 = 0 := by omega
  rw [show 8 * (m + 1) = 8 * m + 7 + 1 from by omega]
  simp only [rds, step]
  simp only [Nat.reduceAdd, e0.1, e0.2, (e 1 (by omega)).1, (e 1 (by omega)).2, (e 2 (by omega)).1, (e 2 (by omega)).2, (e 3 (by omega)).1, (e 3 (by omega)).2, (e 4 (by omega)).1, (e 4 (by omega)).2, (e 5 (by omega)).1, (e 5 (by omega)).2, (e 6 (by omega)).1, (e 6 (by omega)).2, (e 7 (by omega)).1, (e 7 (by omega)).2, Nat.reduceMod, Nat.reduceDiv, Nat.reduceMul]

/-! ### Numbers of bytes, and bytes of numbers -/
def num (f : Nat → Nat) (i : Nat) : Nat := f (4 * i) + 256 * f (4 * i + 1) + 65536 * f (4 * i + 2) + 16777216 * f (4 * i + 3)
theorem num_lt {f : Nat → Nat} (h : ∀ j, f j < 256) (i : Nat) : num f i < 4294967296 := by
  unfold num
  have h0 := h (4 * i)
  have h1 := h (4 * i + 1)
  have h2 := h (4 * i + 2)
  have h3 := h (4 * i + 3)
  omega
theorem num_congr {f g : Nat → Nat} {i j : Nat} (h : ∀ k, k < 4 → f (4 * i + k) = g (4 * j + k)) : num f i = num g j := by
  unfold num
  have h0 := h 0 (by omega)
  have h1 := h 1 (by omega)
  have h2 := h 2 (by omega)
  have h3 := h 3 (by omega)
  rw [Nat.add_zero, Nat.add_zero] at h0
  rw [h0, h1, h2, h3]
def b4 (x : Nat) : List Nat := [x % 256, x / 256 % 256, x / 65536 % 256, x / 16777216 % 256]
theorem b4_ok (x : Nat) : ∀ y ∈ b4 x, y < 256 := by
  intro y hy
  simp only [b4, List.mem_cons, List.not_mem_nil, or_false] at hy
  omega
/-- All in four bytes each. -/
def bs4 : List Nat → List Nat
  | [] => []
  | x :: l => b4 x ++ bs4 l
theorem bs4_length : ∀ l : List Nat, (bs4 l).length = 4 * l.length
  | [] => rfl
  | x :: l => by rw [bs4, List.length_append, bs4_length l, List.length_cons]; show 4 + _ = _; omega
theorem bs4_ok : ∀ l : List Nat, ∀ y ∈ bs4 l, y < 256
  | [], y, hy => by cases hy
  | x :: l, y, hy => by
    rcases List.mem_append.1 hy with h | h
    · exact b4_ok x y h
    · exact bs4_ok l y h
theorem bs4_append : ∀ l m : List Nat, bs4 (l ++ m) = bs4 l ++ bs4 m
  | [], _ => rfl
  | x :: l, m => by rw [List.cons_append, bs4, bs4, bs4_append l m, List.append_assoc]
theorem bs4_one (x : Nat) : bs4 [x] = b4 x := rfl
theorem bs4_get : ∀ (l : List Nat) (i k : Nat), k < 4 → i < l.length → (bs4 l).getD (4 * i + k) 0 = (b4 (l.getD i 0)).getD k 0
  | x :: l, 0, k, hk, _ => by
    rw [bs4, List.getD_eq_getElem?_getD, List.getElem?_append_left (by show 4 * 0 + k < 4; omega), ← List.getD_eq_getElem?_getD, show 4 * 0 + k = k from by omega]
    rfl
  | x :: l, i + 1, k, hk, hi => by
    rw [bs4, List.getD_eq_getElem?_getD, List.getElem?_append_right (by show 4 ≤ _; omega), show 4 * (i + 1) + k - (b4 x).length = 4 * i + k from by show _ - 4 = _; omega, ← List.getD_eq_getElem?_getD]
    rw [bs4_get l i k hk (by simpa using hi)]
    rfl
theorem num_b4 {x : Nat} (h : x < 4294967296) : (b4 x).getD 0 0 + 256 * (b4 x).getD 1 0 + 65536 * (b4 x).getD 2 0 + 16777216 * (b4 x).getD 3 0 = x := by
  show x % 256 + 256 * (x / 256 % 256) + 65536 * (x / 65536 % 256) + 16777216 * (x / 16777216 % 256) = x
  omega
def told (l : List Nat) : ByteArray := tx (bs4 l)
theorem told_size (l : List Nat) : (told l).size = 4 * l.length := by rw [told, tx_size, bs4_length]
theorem tb_told (l : List Nat) (i k : Nat) (hk : k < 4) (hi : i < l.length) : tb (told l) (4 * i + k) = (b4 (l.getD i 0)).getD k 0 := by
  rw [told, tb_tx _ (bs4_ok l), bs4_get l i k hk hi]
theorem num_told {l : List Nat} (h : Ws l) (i : Nat) (hi : i < l.length) : num (tb (told l)) i = l.getD i 0 := by
  unfold num
  have h0 := tb_told l i 0 (by omega) hi
  rw [Nat.add_zero] at h0
  rw [h0, tb_told l i 1 (by omega) hi, tb_told l i 2 (by omega) hi, tb_told l i 3 (by omega) hi]
  exact num_b4 (h.get i)

/-! ### Blocks -/
def sgm : List Nat := [1634760805, 857760878, 2036477234, 1797285236]
/-- The sixteen numbers of 48 bytes. -/
def beg (s : ByteArray) : List Nat := sgm ++ mkl 12 (num (tb s))
theorem beg_length (s : ByteArray) : (beg s).length = 16 := by rw [beg, List.length_append, mkl_length]; rfl
theorem sgm_ok : Ws sgm := by unfold Ws sgm; decide
theorem beg_ok (s : ByteArray) : Ws (beg s) := sgm_ok.append (Ws.mkl _ _ fun k _ => num_lt (tb_lt s) k)
def stirred (l : List Nat) : List Nat := rds l 80
theorem stirred_length (l : List Nat) : (stirred l).length = l.length := rds_length l 80
theorem stirred_ok {l : List Nat} (h : Ws l) : Ws (stirred l) := rds_ok h 80
def summed (l : List Nat) : List Nat := mkl 16 fun i => ad ((stirred l).getD i 0) (l.getD i 0)
theorem summed_ok (l : List Nat) : Ws (summed l) := Ws.mkl _ _ fun _ _ => ad_lt _ _
def block (l : List Nat) : ByteArray := told (summed l)
theorem block_size (l : List Nat) : (block l).size = 64 := by rw [block, told_size, summed, mkl_length]
/-- S of key, n and nonce. -/
def S (key nonce : ByteArray) (n : Nat) : List Nat := sgm ++ (mkl 8 (num (tb key)) ++ n :: mkl 3 (num (tb nonce)))
theorem S_length (key nonce : ByteArray) (n : Nat) : (S key nonce n).length = 16 := by simp [S, sgm, mkl_length]
theorem S_ok (key nonce : ByteArray) {n : Nat} (h : n < 4294967296) : Ws (S key nonce n) := by
  refine sgm_ok.append ((Ws.mkl _ _ fun k _ => num_lt (tb_lt key) k).append fun x hx => ?_)
  rcases List.mem_cons.1 hx with rfl | h1
  · exact h
  · exact Ws.mkl _ _ (fun k _ => num_lt (tb_lt nonce) k) x h1
theorem S_get (key nonce : ByteArray) (n : Nat) : (S key nonce n).getD 12 0 = n := by
  unfold S sgm
  rw [List.getD_eq_getElem?_getD, List.getElem?_append_right (by show 4 ≤ 12; omega), List.getElem?_append_right (by rw [mkl_length]; show 8 ≤ 12 - 4; omega), mkl_length]
  rfl
theorem S_set (key nonce : ByteArray) (n m : Nat) : (S key nonce n).set 12 m = S key nonce m := by
  unfold S sgm
  rw [List.set_append_right _ _ (by show 4 ≤ 12; omega), List.set_append_right _ _ (by rw [mkl_length]; show 8 ≤ 12 - 4; omega), mkl_length]
  rfl
theorem tb_app1 (a b : ByteArray) (j : Nat) (h : j < a.size) : tb (a ++ b) j = tb a j := by
  unfold tb nb
  rw [ByteArray.data_append, Array.toList_append, List.map_append, List.getD_eq_getElem?_getD, List.getElem?_append_left (by simpa using h), ← List.getD_eq_getElem?_getD]
theorem tb_app2 (a b : ByteArray) (j : Nat) : tb (a ++ b) (a.size + j) = tb b j := by
  unfold tb nb
  have hl : (List.map UInt8.toNat a.data.toList).length = a.size := by simp
  rw [ByteArray.data_append, Array.toList_append, List.map_append, List.getD_eq_getElem?_getD, List.getElem?_append_right (by rw [hl]; omega), hl, Nat.add_sub_cancel_left, ← List.getD_eq_getElem?_getD]
theorem tx_app (a b : List Nat) : tx (a ++ b) = tx a ++ tx b := by
  apply ByteArray.ext
  rw [ByteArray.data_append]
  simp [tx]
theorem beg_S (key nonce : ByteArray) {n : Nat} (hk : key.size = 32) (hn : n < 4294967296) : beg (key ++ (told [n] ++ nonce)) = S key nonce n := by
  unfold beg S
  congr 1
  have hw : Ws [n] := fun x hx => by rw [List.mem_singleton.1 hx]; exact hn
  have hs : (told [n]).size = 4 := told_size [n]
  refine tx_ext (by simp [mkl_length]) fun j hj => ?_
  rw [mkl_length] at hj
  rw [mkl_get _ _ _ hj, List.getD_eq_getElem?_getD]
  by_cases c1 : j < 8
  · rw [List.getElem?_append_left (by rw [mkl_length]; exact c1), ← List.getD_eq_getElem?_getD, mkl_get _ _ _ c1]
    exact num_congr fun k hk4 => tb_app1 _ _ _ (by omega)
  · rw [List.getElem?_append_right (by rw [mkl_length]; omega), mkl_length, ← List.getD_eq_getElem?_getD]
    by_cases c2 : j = 8
    · subst c2
      refine (num_congr (g := tb (told [n])) (j := 0) fun k hk4 => ?_).trans (num_told hw 0 Nat.zero_lt_one)
      rw [show 4 * 8 + k = key.size + k from by omega, tb_app2, tb_app1 _ _ _ (by omega), show 4 * 0 + k = k from by omega]
    · obtain ⟨i, rfl⟩ : ∃ i, j = 9 + i := ⟨j - 9, by omega⟩
      rw [show 9 + i - 8 = i + 1 from by omega, List.getD_cons_succ, mkl_get _ _ _ (by omega)]
      refine num_congr fun k hk4 => ?_
      rw [show 4 * (9 + i) + k = key.size + (4 + (4 * i + k)) from by omega, tb_app2, ← hs, tb_app2]
/-- The block of a number. -/
def blk (key nonce : ByteArray) (n : Nat) : ByteArray := block (S key nonce n)
theorem blk_size (key nonce : ByteArray) (n : Nat) : (blk key nonce n).size = 64 := block_size _
/-- The stream's bytes from block n on. -/
def str (key nonce : ByteArray) (n j : Nat) : Nat := tb (blk key nonce ((n + j / 64) % 4294967296)) (j % 64)
theorem str_lt (key nonce : ByteArray) (n j : Nat) : str key nonce n j < 256 := tb_lt _ _
/-- A text, hidden. -/
def hid (key nonce : ByteArray) (n : Nat) (s : ByteArray) : ByteArray := tx (mkl s.size fun j => tb s j ^^^ str key nonce n j)
theorem hid_size (key nonce : ByteArray) (n : Nat) (s : ByteArray) : (hid key nonce n s).size = s.size := by rw [hid, tx_size, mkl_length]
theorem hid_ok (key nonce : ByteArray) (n : Nat) (s : ByteArray) : ∀ x ∈ mkl s.size (fun j => tb s j ^^^ str key nonce n j), x < 256 := by
  intro x hx
  obtain ⟨k, _, rfl⟩ := List.mem_map.1 hx
  exact Nat.xor_lt_two_pow (n := 8) (tb_lt _ _) (str_lt _ _ _ _)
theorem tb_hid (key nonce : ByteArray) (n : Nat) (s : ByteArray) (j : Nat) (h : j < s.size) : tb (hid key nonce n s) j = tb s j ^^^ str key nonce n j := by
  rw [hid, tb_tx _ (hid_ok _ _ _ _), mkl_get _ _ _ h]
/-- A key of key and nonce. -/
def sub (key nonce : ByteArray) : ByteArray := told ((stirred (beg (key ++ nonce))).take 4 ++ (stirred (beg (key ++ nonce))).drop 12)
end Go.Proofs.YtmbckgfpkmnlnabDoor.cha
