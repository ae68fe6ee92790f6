/-
  Digest: messages, and the state that their blocks make; no Go text in sight.
-/
import Derived.Test.YtjmiaakfdclfjaaGreatDoorK18
namespace Go.Proofs.YtjmiaakfdclfjaaGreatDoor.Sh
open Go.RowKit
set_option maxRecDepth 20000
def R8.of (xs : List Int) : R8 := ⟨xs.getD 0 0, xs.getD 1 0, xs.getD 2 0, xs.getD 3 0, xs.getD 4 0, xs.getD 5 0, xs.getD 6 0, xs.getD 7 0⟩
def R8.zero : R8 := ⟨0, 0, 0, 0, 0, 0, 0, 0⟩
/-- The first state: words, and wide ones. -/
def firstW (alg : Int) : R8 := if alg = 1 then R8.of first1L else if alg = 2 then R8.of first256L else R8.zero
def firstQ (alg : Int) : R8 := if alg = 3 then R8.of first384L else if alg = 4 then R8.of first512L else R8.zero
structure St where
  words : R8
  wide : R8
def St.mix (alg : Int) (s : St) (bs : List Int) : St :=
  if alg = 1 then ⟨mx1 s.words bs, s.wide⟩ else if alg = 2 then ⟨mx256 s.words bs, s.wide⟩ else ⟨s.words, mx512 s.wide bs⟩
/-- The state behind k blocks of a message. -/
def run (alg : Int) (msg : List Int) : Nat → St
  | 0 => ⟨firstW alg, firstQ alg⟩
  | k + 1 => (run alg msg k).mix alg ((msg.drop (k * blk alg)).take (blk alg))
theorem run_app (alg : Int) (msg more : List Int) : ∀ k, k * blk alg ≤ msg.length → run alg (msg ++ more) k = run alg msg k
  | 0, _ => rfl
  | k + 1, h => by
    have h' : k * blk alg + blk alg ≤ msg.length := by rw [Nat.succ_mul] at h; exact h
    simp only [run]
    rw [run_app alg msg more k (by omega), List.drop_append_of_le_length (by omega), List.take_append_of_le_length (by simp; omega)]
/-- h holds the state of the message. -/
structure Inv (alg : Int) (h : Hs) (msg : List Int) : Prop where
  algE : h.alg = alg
  totalE : h.total = msg.length
  state : (⟨h.words, h.wide⟩ : St) = run alg msg (msg.length / blk alg)
  restE : h.rest.take (msg.length % blk alg) = msg.drop (msg.length / blk alg * blk alg)
theorem Alg.blk_pos {alg : Int} (h : Alg alg) : blk alg = 64 ∨ blk alg = 128 := by
  rcases h with rfl | rfl | rfl | rfl
  · exact .inl rfl
  · exact .inl rfl
  · exact .inr rfl
  · exact .inr rfl
theorem Hs.mixed_state {h : Hs} {alg : Int} (ha : h.alg = alg) (bs : List Int) : (⟨(h.mixed bs).words, (h.mixed bs).wide⟩ : St) = St.mix alg ⟨h.words, h.wide⟩ bs ∧ (h.mixed bs).alg = alg ∧ (h.mixed bs).total = h.total ∧ (h.mixed bs).rest = h.rest := by
  subst ha
  unfold Hs.mixed St.mix
  split
  · exact ⟨rfl, rfl, rfl, rfl⟩
  · split
    · exact ⟨rfl, rfl, rfl, rfl⟩
    · exact ⟨rfl, rfl, rfl, rfl⟩
/-- A number's last j bytes, the highest first. -/
def be : Nat → Nat → List Int
  | 0, _ => []
  | j + 1, m => ((m / 256 ^ j % 256 : Nat) : Int) :: be j m
theorem be_len (j m : Nat) : (be j m).length = j := by
  induction j with
  | zero => rfl
  | succ j ih => simp [be, ih]
theorem be_u8 (j m : Nat) : U8s (be j m) := by
  induction j with
  | zero => intro x hx; simp [be] at hx
  | succ j ih =>
    intro x hx
    rcases List.mem_cons.1 hx with rfl | hx
    · unfold U8; omega
    · exact ih x hx
theorem be_high (m : Nat) : ∀ (i j : Nat), m / 256 ^ j = 0 → be (i + j) m = List.replicate i 0 ++ be j m
  | 0, j, _ => by simp
  | i + 1, j, h => by
    rw [show i + 1 + j = (i + j) + 1 by omega, be, be_high m i j h, List.replicate_succ, List.cons_append]
    have : m / 256 ^ (i + j) = 0 := by
      rw [Nat.add_comm, Nat.pow_add, ← Nat.div_div_eq_div_mul, h, Nat.zero_div]
    rw [this]; rfl
/-- How many bytes fill a message of n bytes up, and which. -/
def fillLen (n B : Nat) : Nat := B - (n + B / 8) % B + B / 8
def fill (n B : Nat) : List Int := 128 :: (List.replicate (fillLen n B - 1 - B / 8) 0 ++ be (B / 8) (n * 8))
theorem fill_len {n B : Nat} (h : B = 64 ∨ B = 128) : (fill n B).length = fillLen n B := by
  have h1 : (n + B / 8) % B < B := Nat.mod_lt _ (by omega)
  simp only [fill, List.length_cons, List.length_append, List.length_replicate, be_len]
  unfold fillLen; omega
theorem fill_u8 (n B : Nat) : U8s (fill n B) := by
  intro x hx
  rcases List.mem_cons.1 hx with rfl | hx
  · exact ⟨by decide, by decide⟩
  · rcases List.mem_append.1 hx with hx | hx
    · rw [(List.mem_replicate.1 hx).2]; exact ⟨by decide, by decide⟩
    · exact be_u8 _ _ x hx
/-- The state's bytes. -/
def outB (alg : Int) (s : St) (i : Nat) : Int := if blk alg = 64 then s.words.list.getD (i / 4) 0 / 2 ^ (24 - i % 4 * 8) % 256 else s.wide.list.getD (i / 8) 0 / 2 ^ (56 - i % 8 * 8) % 256
def out (alg : Int) (s : St) : List Int := (List.range (siz alg)).map (outB alg s)
/-- The digest of a message. -/
def dig (alg : Int) (msg : List Int) : List Int :=
  out alg (run alg (msg ++ fill msg.length (blk alg)) ((msg.length + fillLen msg.length (blk alg)) / blk alg))
theorem out_len (alg : Int) (s : St) : (out alg s).length = siz alg := by simp [out]
theorem outB_u8 (alg : Int) (s : St) (i : Nat) : U8 (outB alg s i) := by
  unfold outB U8; split <;> exact ⟨Int.emod_nonneg _ (by decide), Int.emod_lt_of_pos _ (by decide)⟩
theorem out_u8 (alg : Int) (s : St) : U8s (out alg s) := by
  intro x hx; obtain ⟨i, _, rfl⟩ := List.mem_map.1 hx; exact outB_u8 _ _ _
theorem U8s.append {xs ys : List Int} (h : U8s xs) (k : U8s ys) : U8s (xs ++ ys) := by
  intro y hy; rcases List.mem_append.1 hy with hy | hy
  · exact h y hy
  · exact k y hy
theorem U8s.take {xs : List Int} (h : U8s xs) (n : Nat) : U8s (xs.take n) := fun y hy => h y (List.mem_of_mem_take hy)
theorem U8s.drop {xs : List Int} (h : U8s xs) (n : Nat) : U8s (xs.drop n) := fun y hy => h y (List.mem_of_mem_drop hy)
theorem U8s.set {xs : List Int} (h : U8s xs) (i : Nat) {x : Int} (hx : U8 x) : U8s (xs.set i x) := by
  intro y hy; rcases List.mem_or_eq_of_mem_set hy with hy | rfl
  · exact h y hy
  · exact hx
end Go.Proofs.YtjmiaakfdclfjaaGreatDoor.Sh
/-
  Digest: the method take.
-/
namespace Go.Proofs.YtjmiaakfdclfjaaGreatDoor.Sh
open Go.RowKit
set_option maxRecDepth 20000
variable {HT : TypeId}
/-- The slice v reads xs, in another block than g. -/
def SlX (w : World) (g : Nat) (v : Value) (xs : List Int) : Prop :=
  ∃ a c, v = .slice a xs.length c ∧ xs.length ≤ c ∧ (xs = [] ∨ ∃ b off, a = some ⟨b, off, none⟩ ∧ b < w.heap.size ∧ b ≠ g ∧ Rd .u8 w b off xs)
theorem SlX.sl {w : World} {g : Nat} {v : Value} {xs : List Int} (h : SlX w g v xs) : Sl .u8 w v xs := by
  obtain ⟨a, c, rfl, hc, h⟩ := h
  refine ⟨a, c, rfl, hc, ?_⟩
  rcases h with h | ⟨b, off, rfl, hb, _, hr⟩
  · exact .inl h
  · exact .inr ⟨b, off, rfl, hb, hr⟩
theorem SlX.upd {w w' : World} {g : Nat} {v : Value} {xs : List Int} (h : SlX w g v xs) (hu : Upd w w' g) : SlX w' g v xs := by
  obtain ⟨a, c, rfl, hc, h⟩ := h
  refine ⟨a, c, rfl, hc, ?_⟩
  rcases h with h | ⟨b, off, rfl, hb, hne, hr⟩
  · exact .inl h
  · exact .inr ⟨b, off, rfl, Nat.lt_of_lt_of_le hb hu.size, hne, hu.rd hb hr hne⟩
theorem Hs.set_total (h : Hs) (n : Nat) (x : Int) (hx : x = (n : Int)) : h.cells.set 1 (.int .i64 x) = { h with total := n }.cells := by subst hx; rfl
def lenOf : Value → Nat
  | .slice _ n _ => n
  | _ => 0
theorem Hs.over_rest (h : Hs) (xs : List Int) (o : Nat) : over h.cells (18 + o) (xs.map (Value.int .u8)) = { h with rest := h.rest.take o ++ (xs ++ h.rest.drop (o + xs.length)) }.cells := by
  have e : 18 + o = o + 18 := by omega
  simp [over, Hs.cells, R8.list, e, List.map_take, List.map_drop]
  rw [show o + 18 + xs.length = (o + xs.length) + 18 by omega]
  simp
theorem divmod_of {N B k r : Nat} (h : N = k * B + r) (hr : r < B) : N / B = k ∧ N % B = r := by
  subst h
  have hB : 0 < B := by omega
  rw [Nat.mul_comm]
  exact ⟨by rw [Nat.mul_add_div hB, Nat.div_eq_of_lt hr, Nat.add_zero], by rw [Nat.mul_add_mod, Nat.mod_eq_of_lt hr]⟩
theorem inv_part {alg : Int} {h : Hs} {msg bs : List Int} (hl : h.rest.length = 128) (hB : blk alg ≤ 128) (ha : h.alg = alg) (hs : (⟨h.words, h.wide⟩ : St) = run alg msg (msg.length / blk alg)) (hr : h.rest.take (msg.length % blk alg) = msg.drop (msg.length / blk alg * blk alg))
    (hlt : msg.length % blk alg + bs.length < blk alg) :
    Inv alg { h with total := msg.length + bs.length, rest := h.rest.take (msg.length % blk alg) ++ (bs ++ h.rest.drop (msg.length % blk alg + bs.length)) } (msg ++ bs) := by
  have e0 := Nat.div_add_mod msg.length (blk alg)
  have e : msg.length + bs.length = (msg.length / blk alg) * blk alg + (msg.length % blk alg + bs.length) := by rw [Nat.mul_comm]; omega
  obtain ⟨h1, h2⟩ := divmod_of e hlt
  have hd : msg.length / blk alg * blk alg ≤ msg.length := by rw [Nat.mul_comm]; omega
  refine ⟨ha, by simp, ?_, ?_⟩
  · rw [List.length_append, h1, run_app _ _ _ _ hd]; exact hs
  · rw [List.length_append, h1, h2, List.drop_append_of_le_length hd, ← hr, ← List.append_assoc, List.take_append_of_le_length (by simp; omega), List.take_of_length_le (by simp; omega)]
theorem inv_end {alg : Int} {h : Hs} {M : List Int} {k : Nat} (ha : h.alg = alg) (ht : h.total = M.length) (hs : (⟨h.words, h.wide⟩ : St) = run alg M k) (hk : k * blk alg ≤ M.length) (hlt : M.length - k * blk alg < blk alg) :
    Inv alg { h with rest := M.drop (k * blk alg) ++ h.rest.drop (M.drop (k * blk alg)).length } M := by
  obtain ⟨h1, h2⟩ := divmod_of (N := M.length) (k := k) (B := blk alg) (r := M.length - k * blk alg) (by omega) hlt
  refine ⟨ha, ht, by rw [h1]; exact hs, ?_⟩
  rw [h1, h2, List.take_append_of_le_length (by simp), List.take_of_length_le (by simp)]
theorem first_block {alg : Int} {h : Hs} {msg bs : List Int} (hr : h.rest.take (msg.length % blk alg) = msg.drop (msg.length / blk alg * blk alg)) (m : Nat) (hm : msg.length % blk alg + m = blk alg) :
    (h.rest.take (msg.length % blk alg) ++ bs.take m) = ((msg ++ bs).drop (msg.length / blk alg * blk alg)).take (blk alg) := by
  have e0 := Nat.div_add_mod msg.length (blk alg)
  have hd : msg.length / blk alg * blk alg ≤ msg.length := by rw [Nat.mul_comm]; omega
  rw [hr, List.drop_append_of_le_length hd, List.take_append]
  have e1 : (msg.drop (msg.length / blk alg * blk alg)).length = msg.length % blk alg := by rw [List.length_drop, Nat.mul_comm]; omega
  rw [e1, show blk alg - msg.length % blk alg = m by omega, List.take_of_length_le (l := msg.drop (msg.length / blk alg * blk alg)) (by omega)]
theorem Hs.rd_rest {w : World} {g : Nat} {h : Hs} (hb : Blk HT w g h.cells) : Rd .u8 w g 18 h.rest := by
  intro i hi
  rw [hb.cell, show 18 + i = i + 18 by omega]
  simp [Hs.cells, R8.list, hi]
variable (HT) in
/-- What holds at the head of take's loop. -/
def LP (alg : Int) (M : List Int) (g : Nat) (w : World) (v : Value) (wr : World) : Prop :=
  ∃ (k : Nat) (hs : Hs), Blk HT wr g hs.cells ∧ hs.ok ∧ hs.alg = alg ∧ hs.total = M.length ∧ (⟨hs.words, hs.wide⟩ : St) = run alg M k ∧ k * blk alg ≤ M.length ∧ SlX wr g v (M.drop (k * blk alg)) ∧ Upd w wr g
theorem SlX.tail {w : World} {g b off n c B : Nat} {xs : List Int} (hb : b < w.heap.size) (hne : b ≠ g) (hr : Rd .u8 w b off xs) (hn : xs.length = n) (hc : n ≤ c) (hB : B ≤ n) : SlX w g (.slice (some ⟨b, off + B, none⟩) (n - B) (c - B)) (xs.drop B) := by
  refine ⟨_, _, by rw [List.length_drop, hn], by rw [List.length_drop]; omega, .inr ⟨b, off + B, rfl, hb, hne, fun i hi => ?_⟩⟩
  rw [List.length_drop] at hi
  rw [Nat.add_assoc, hr (B + i) (by omega)]
  simp
theorem Tryz.arr128 : Tryz.prog.underlying 93 = some (.array 128 5) := by kernel_rfl
theorem slice_lh (w : World) (g held B : Nat) (h1 : held < B) (h2 : B ≤ 128) : Sem.run Tryz.prog (Instr.sliceAt 93 (.pointer (some ⟨g, 18, none⟩)) (some (.int .i64 held)) (some (.int .i64 B)) none) w = .ok (.slice (some ⟨g, 18 + held, none⟩) (B - held) (128 - held)) w := by
  have e1 : Tryz.prog.arrayLen 93 = 128 := by kernel_rfl
  have e2 : Tryz.prog.elem 93 = 5 := by kernel_rfl
  have := run_sliceAt_array_lh (P := Tryz.prog) w 93 ⟨g, 18, none⟩ (by rw [e1, e2]; exact Tryz.arr128) .i64 .i64 held B (by omega) (by omega) (by rw [e1]; omega)
  rw [this, e1, e2]
  simp [go_sem, slicedAt, Addr.add, show ¬ 128 = held by omega]
theorem slice_h (w : World) (g B : Nat) (h2 : B ≤ 128) : Sem.run Tryz.prog (Instr.sliceAt 93 (.pointer (some ⟨g, 18, none⟩)) none (some (.int .i64 B)) none) w = .ok (.slice (some ⟨g, 18, none⟩) B 128) w := by
  have e1 : Tryz.prog.arrayLen 93 = 128 := by kernel_rfl
  have e2 : Tryz.prog.elem 93 = 5 := by kernel_rfl
  have := run_sliceAt_array_h (P := Tryz.prog) w 93 ⟨g, 18, none⟩ (by rw [e1, e2]; exact Tryz.arr128) .i64 B (by omega) (by rw [e1]; omega)
  rw [this, e1, e2]
  simp [go_sem, slicedAt, Addr.add]
theorem slice_all (w : World) (g : Nat) : Sem.run Tryz.prog (Instr.sliceAt 93 (.pointer (some ⟨g, 18, none⟩)) none none none) w = .ok (.slice (some ⟨g, 18, none⟩) 128 128) w := by
  have e1 : Tryz.prog.arrayLen 93 = 128 := by kernel_rfl
  have e2 : Tryz.prog.elem 93 = 5 := by kernel_rfl
  have := run_sliceAt_array_all (P := Tryz.prog) w 93 ⟨g, 18, none⟩ (by rw [e1, e2]; exact Tryz.arr128)
  rw [this, e1, e2]
  simp [go_sem, slicedAt, Addr.add]
set_option maxHeartbeats 1000000 in
theorem take_any {w : World} (alg : Int) (ha : Alg alg) (h : Hs) (hk : h.ok) (msg bs : List Int) (hI : Inv alg h msg) (g : Nat) (hG : Blk HT w g h.cells) (hg7 : 8 ≤ g) (hT : Tabs w) (v : Value) (hv : SlX w g v bs) (um : U8s msg) (ub : U8s bs)
    (hm : msg.length ≤ 1099511627776) (hn : bs.length ≤ 1099511627776) :
    Calls Tryz.prog 60 #[.pointer (some ⟨g, 0, none⟩), v] w fun e w' => e = .returned (.tuple #[]) ∧ (∃ h', Blk HT w' g h'.cells ∧ h'.ok ∧ Inv alg h' (msg ++ bs)) ∧ Upd w w' g := by
  have hB := ha.blk_pos
  obtain ⟨B, hBe⟩ : ∃ B, blk alg = B := ⟨_, rfl⟩
  have HBl : Hid (∀ w' : World, Calls Tryz.prog 82 #[.int .i64 alg] w' fun e w'' => e = .returned (.int .i64 B) ∧ w' = w'') := fun w' => by rw [← hBe]; exact (ShaBlock_any alg).mono fun _ _ h => ⟨h.1, h.2.symm⟩
  rw [hBe] at hB
  have HBe : Hid (blk alg = B) := hBe
  obtain ⟨ia, it, is, ir⟩ := hI
  rw [hBe] at is ir
  obtain ⟨N, hN⟩ : ∃ N, msg.length = N := ⟨_, rfl⟩
  rw [hN] at it is ir hm
  have hc0 : w.cell? ⟨g, 0, none⟩ = some (.int .i64 alg) := by rw [← ia]; exact hG.cell 0
  have hc1 : w.cell? ⟨g, 1, none⟩ = some (.int .i64 N) := by rw [← it]; exact hG.cell 1
  have hf1 : w.frozen? ⟨g, 1, none⟩ = false := hG.frozen 1
  obtain ⟨held, hheld⟩ : ∃ q, N % B = q := ⟨_, rfl⟩
  have hhi : (N : Int) % (B : Int) = held := by omega
  have hhl : held < B := by rw [← hheld]; exact Nat.mod_lt _ (by omega)
  obtain ⟨a, c, rfl, hcl, hv⟩ := hv
  obtain ⟨n, hne⟩ : ∃ n, bs.length = n := ⟨_, rfl⟩
  rw [hne] at hn hcl
  simp only [hne]
  have hB0 : ¬ (B : Int) = 0 := by omega
  have HBF : Hid (((B : Int) == 0) = false) := (by simpa using hB0 : ((B : Int) == 0) = false)
  clear hBe
  have HM : Hid (∀ k, k * B ≤ N → run alg (msg ++ bs) k = run alg msg k) := fun k hk2 => run_app alg msg bs k (by rw [HBe.out, hN]; exact hk2)
  have hMl : (msg ++ bs).length = N + n := by simp [hN, hne]
  obtain ⟨M, hM⟩ : ∃ M, msg ++ bs = M := ⟨_, rfl⟩
  have hMu : U8s (msg ++ bs) := um.append ub
  rw [hM] at HM hMl hMu
  simp only [hM]
  have hset : Blk HT (w.setCell ⟨g, 1, none⟩ (.int .i64 ((N : Int) + (n : Int)))) g { h with total := N + n }.cells := by
    have := hG.set 1 (.int .i64 ((N : Int) + (n : Int))); rw [h.set_total (N + n) _ (by omega)] at this; exact this
  have hA : Upd w (w.setCell ⟨g, 1, none⟩ (.int .i64 ((N : Int) + (n : Int)))) g := Upd.set _ _ _ _
  have hvA : SlX (w.setCell ⟨g, 1, none⟩ (.int .i64 ((N : Int) + (n : Int)))) g (.slice a n c) bs := SlX.upd ⟨a, c, by rw [hne], by rw [hne]; exact hcl, hv⟩ hA
  have HTA : Hid (Tabs (w.setCell ⟨g, 1, none⟩ (.int .i64 ((N : Int) + (n : Int)))) ∧ ∀ w', Upd w w' g → Tabs w') := ⟨hT.upd hA hg7, fun w' hu => hT.upd hu hg7⟩
  have HP : Hid (Blk HT (w.setCell ⟨g, 1, none⟩ (.int .i64 ((N : Int) + (n : Int)))) g { h with total := N + n }.cells ∧ Upd w (w.setCell ⟨g, 1, none⟩ (.int .i64 ((N : Int) + (n : Int)))) g ∧ SlX (w.setCell ⟨g, 1, none⟩ (.int .i64 ((N : Int) + (n : Int)))) g (.slice a n c) bs) := ⟨hset, hA, hvA⟩
  have HQ : Hid ((⟨h.words, h.wide⟩ : St) = run alg msg (N / B) ∧ h.rest.take (N % B) = msg.drop (N / B * B) ∧ N % B = held ∧ msg.length = N ∧ bs.length = n ∧ msg ++ bs = M ∧ h.alg = alg) := ⟨is, ir, hheld, hN, hne, hM, ia⟩
  have HUB : Hid (U8s M) := hMu
  have HSX0 : Hid (bs = [] ∨ ∃ b off, a = some ⟨b, off, none⟩ ∧ b < w.heap.size ∧ b ≠ g ∧ Rd .u8 w b off bs) := hv
  have HL0 : Hid (({ h with total := N + n } : Hs).cells.length = 146) := Hs.cells_len (h := { h with total := N + n }) hk.len
  have hs2 := fun w' => slice_h w' g B (by omega)
  have hs3 := fun w' => slice_all w' g
  clear hMu hset hA hvA is ir hheld hN hne hM hG hT hv ia it
  by_cases hz : held = 0
  · subst hz
    have HI : Hid (∃ k, N = k * B ∧ N / B = k) := ⟨N / B, by have := Nat.div_add_mod N B; rw [HQ.out.2.2.1, Nat.mul_comm] at this; omega, rfl⟩
    go_enter Tryz.func60, Tryz.ntmps60
    go_wp2_with (go_at_call 82; refine (HBl.out _).mono ?_; rintro e w' ⟨rfl, rfl⟩)
    clear hhi hc0 hc1 hf1
    try simp only [HBF.out]
    go_loopw [1] (fun v wr => LP HT alg M g w v wr) (fun v _ => lenOf v)
    case atStart =>
      obtain ⟨k, hk1, hk2⟩ := HI.out
      obtain ⟨q1, q2, q3, q4, q5, q6, q7⟩ := HQ.out
      refine ⟨k, _, HP.out.1, ⟨hk.words, hk.wide, hk.len, hk.bytes⟩, q7, by rw [hMl], ?_, by rw [HBe.out]; omega, ?_, HP.out.2.1⟩
      · rw [HM.out k (by omega), ← hk2]; exact q1
      · have e5 : M.drop N = bs := by rw [← q6, ← q4, List.drop_left]
        rw [HBe.out, ← hk1, e5]; exact HP.out.2.2
    case round =>
      clear hB0
      obtain ⟨k, hs, hb, hok, halg, htot, hst, hkB, hvx, hu⟩ := hrel
      rw [HBe.out] at hkB hvx
      obtain ⟨a1, c1, rfl, hcl1, hvx⟩ := hvx
      obtain ⟨r, hre⟩ : ∃ r, (M.drop (k * B)).length = r := ⟨_, rfl⟩
      have hrM : r = M.length - k * B := by rw [← hre, List.length_drop]
      rw [hre] at hcl1
      simp only [hre]
      have hTr := HTA.out.2 wr hu
      have hc0r : wr.cell? ⟨g, 0, none⟩ = some (.int .i64 alg) := by rw [← halg]; exact hb.cell 0
      have hrN : r ≤ N + n := by omega
      by_cases hge : B ≤ r
      · rcases hvx with hnil | ⟨b, off, rfl, hbl, hbne, hrd⟩
        · rw [hnil] at hre; simp at hre; omega
        · have hrd1 : Rd .u8 wr b off ((M.drop (k * B)).take B) := hrd.take B
          have hl1 : ((M.drop (k * B)).take B).length = B := by rw [List.length_take, hre]; omega
          have HC : Hid (∀ w', w' = wr → Calls Tryz.prog _ _ w' _) := fun w' hw => by rw [hw]; exact mixM_any hs hok (by rw [halg]; exact ha) g hb hTr b off B c1 _ hbl hrd1 ((HUB.out.drop _).take _) (by omega) (by omega) (by rw [hl1, halg, HBe.out])
          have HX : Hid (hs.ok ∧ hs.alg = alg ∧ hs.total = M.length ∧ (⟨hs.words, hs.wide⟩ : St) = run alg M k ∧ b < wr.heap.size ∧ Rd .u8 wr b off (M.drop (k * B)) ∧ Upd w wr g ∧ (M.drop (k * B)).length = r ∧ r = M.length - k * B ∧ k * B ≤ M.length) := ⟨hok, halg, htot, hst, hbl, hrd, hu, hre, hrM, hkB⟩
          clear hok halg htot hst hbl hrd hu hre hrM hb hTr hrd1 hl1 hkB
          have hgeI : (B : Int) ≤ (r : Int) := by omega
          have hgeC : (B : Int) ≤ (c1 : Int) := by omega
          have HE : Hid (∀ w2, Blk HT w2 g (hs.mixed ((M.drop (k * B)).take B)).cells → Upd wr w2 g → ∀ v2, SlX wr g v2 ((M.drop (k * B)).drop B) → LP HT alg M g w v2 w2) := fun w2 hb2 hu2 v2 hv2 => by
            obtain ⟨hok, halg, htot, hst, hbl, hrd, hu, hre, hrM, hkB⟩ := HX.out
            obtain ⟨e1, e2, e3, _⟩ := hs.mixed_state halg ((M.drop (k * B)).take B)
            refine ⟨k + 1, _, hb2, hs.mixed_ok hok _, e2, by rw [e3, htot], ?_, ?_, ?_, hu.trans hu2⟩
            · rw [e1, hst, run, HBe.out]
            · rw [HBe.out, Nat.succ_mul]; omega
            · rw [HBe.out, Nat.succ_mul, ← List.drop_drop]; exact hv2.upd hu2
          by_cases hcB : c1 = B
          · subst hcB
            have hrc : r = c1 := by omega
            have HV2 : Hid (∀ a2, SlX wr g (.slice a2 0 0) ((M.drop (k * c1)).drop c1)) := fun a2 => by
              obtain ⟨hok, halg, htot, hst, hbl, hrd, hu, hre, hrM, hkB⟩ := HX.out
              have hl0 : ((M.drop (k * c1)).drop c1).length = 0 := by rw [List.length_drop, hre]; omega
              exact ⟨_, _, by rw [hl0], by omega, .inl (List.eq_nil_of_length_eq_zero hl0)⟩
            subst hrc
            go_wp2_with (go_at_call 83; refine (HC.out _ rfl).mono ?_; rintro e w2 ⟨rfl, hb2, hu2⟩; have HN2 : Hid _ := HE.out w2 hb2 hu2; clear hb2 hu2)
            go_roundw
            case rel => exact HN2.out _ (HV2.out _)
            case measure => simp [lenOf]; omega
          · have HV2 : Hid (SlX wr g (.slice (some ⟨b, off + B, none⟩) (r - B) (c1 - B)) ((M.drop (k * B)).drop B)) := by
              obtain ⟨hok, halg, htot, hst, hbl, hrd, hu, hre, hrM, hkB⟩ := HX.out
              exact SlX.tail hbl hbne hrd hre hcl1 hge
            go_wp2_with (go_at_call 83; refine (HC.out _ rfl).mono ?_; rintro e w2 ⟨rfl, hb2, hu2⟩; have HN2 : Hid _ := HE.out w2 hb2 hu2; clear hb2 hu2)
            go_roundw
            case rel => exact HN2.out _ HV2.out
            case measure => simp [lenOf]; omega
      · have hltI : (r : Int) < (B : Int) := by omega
        have HSl : Hid (Sl .u8 wr (.slice a1 r c1) (M.drop (k * B))) := SlX.sl (g := g) ⟨a1, c1, by rw [hre], by rw [hre]; exact hcl1, hvx⟩
        have HLc : Hid (hs.cells.length = 146) := Hs.cells_len hok.len
        have HBk : Hid (Blk HT wr g hs.cells) := hb
        have HRe : Hid ((M.drop (k * B)).length = r) := hre
        have HFin : Hid (∀ w2, Blk HT w2 g (over hs.cells 18 (((M.drop (k * B)).take r).map (Value.int .u8))) → Upd wr w2 g → (∃ h', Blk HT w2 g h'.cells ∧ h'.ok ∧ Inv alg h' M) ∧ Upd w w2 g) := fun w2 hb2 hu2 => by
          rw [List.take_of_length_le (by omega)] at hb2
          have e1 := hs.over_rest (M.drop (k * B)) 0
          rw [Nat.add_zero, List.take_zero, List.nil_append, Nat.zero_add] at e1
          rw [e1] at hb2
          refine ⟨⟨_, hb2, ⟨hok.words, hok.wide, ?_, ?_⟩, ?_⟩, hu.trans hu2⟩
          · have := hok.len; simp; omega
          · exact (HUB.out.drop _).append (hok.bytes.drop _)
          · have := inv_end (h := hs) (M := M) (k := k) halg htot hst (by rw [HBe.out]; exact hkB) (by rw [HBe.out]; omega)
            rw [HBe.out] at this; exact this
        clear hb hok halg htot hst hkB hvx hu hre hTr
        go_wp2_with (refine wpList_cpB rfl (.tmp 69) (.tmp 70) 22 rfl .u8 5 HT Tryz.und8 Tryz.one8 g 18 128 128 hs.cells (M.drop (k * B)) HBk.out (.slice a1 r c1) rfl rfl HSl.out r (by rw [HRe.out]; exact (Nat.min_eq_left (by omega)).symm) (by rw [HLc.out]; omega) ?_; intro w2 hb2 hu2; have HF2 : Hid _ := HFin.out w2 hb2 hu2; clear hb2 hu2)
        exact bodyPost_end (v := .tuple #[]) (results_none rfl _ _ _) rfl ⟨rfl, HF2.out.1, HF2.out.2⟩
  · have hs1 := fun w' => slice_lh w' g held B hhl (by omega)
    obtain ⟨m, hmm⟩ : ∃ m, min n (B - held) = m := ⟨_, rfl⟩
    have hmn : m = n ∨ m = B - held := by omega
    have hml : m ≤ n ∧ m ≤ B - held := by omega
    have hpos : 0 < held := by omega
    have HMM : Hid (m = Nat.min n (B - held)) := hmm.symm
    have HCP : Hid (∀ w', Blk HT w' g (over { h with total := N + n }.cells (18 + held) ((bs.take m).map (Value.int .u8))) → Blk HT w' g { h with total := N + n, rest := h.rest.take held ++ (bs.take m ++ h.rest.drop (held + m)) }.cells) := fun w' hb => by
      have hl : (bs.take m).length = m := by simp [HQ.out.2.2.2.2.1]; omega
      rw [Hs.over_rest, hl] at hb; exact hb
    clear hmm
    go_enter Tryz.func60, Tryz.ntmps60
    by_cases hfull : held + m < B
    · have hlt2 : (held : Int) + (m : Int) < (B : Int) := by omega
      go_wp2_with (first
        | (go_at_call 82; refine (HBl.out _).mono ?_; rintro e w' ⟨rfl, rfl⟩)
        | (refine wpList_cpB rfl (.tmp 36) (.tmp 37) 22 rfl .u8 5 HT Tryz.und8 Tryz.one8 g (18 + held) (B - held) (128 - held) { h with total := N + n }.cells bs HP.out.1 (.slice a n c) rfl rfl HP.out.2.2.sl m (by rw [HQ.out.2.2.2.2.1]; exact HMM.out) (by rw [HL0.out]; omega) ?_; intro w2 hb2 hu2; have HC2 : Hid _ := HCP.out w2 hb2; have HU2 : Hid (Upd w w2 g) := HP.out.2.1.trans hu2; clear hb2 hu2))
      refine bodyPost_ret (v := .tuple #[]) (results_none rfl _ _ _) rfl ⟨rfl, ⟨_, HC2.out, ⟨hk.words, hk.wide, ?_, ?_⟩, ?_⟩, HU2.out⟩
      · have := hk.len; have := HQ.out.2.2.2.2.1; simp; omega
      · exact (hk.bytes.take _).append ((ub.take _).append (hk.bytes.drop _))
      · obtain ⟨q1, q2, q3, q4, q5, q6, q7⟩ := HQ.out
        have := inv_part (alg := alg) (h := h) (msg := msg) (bs := bs) hk.len (by rw [HBe.out]; omega) q7 (by rw [q4, HBe.out]; exact q1) (by rw [q4, HBe.out]; exact q2) (by rw [q4, HBe.out, q3, q5]; omega)
        rw [q4, q5, HBe.out, q3, q6] at this
        have em : m = n := by omega
        have e : bs.take m = bs := List.take_of_length_le (by omega)
        rw [e, em]; exact this
    · have hfl : held + m = B := by omega
      have hge2 : ¬ (held : Int) + (m : Int) < (B : Int) := by omega
      obtain ⟨h2, hh2⟩ : ∃ h2 : Hs, { h with total := N + n, rest := h.rest.take held ++ (bs.take m ++ h.rest.drop (held + m)) } = h2 := ⟨_, rfl⟩
      rw [hh2] at HCP
      have HH2 : Hid ({ h with total := N + n, rest := h.rest.take held ++ (bs.take m ++ h.rest.drop (held + m)) } = h2) := hh2
      have hok2 : h2.ok := by
        rw [← hh2]
        refine ⟨hk.words, hk.wide, ?_, (hk.bytes.take _).append ((ub.take _).append (hk.bytes.drop _))⟩
        have := hk.len; have := HQ.out.2.2.2.2.1; simp; omega
      have HF : Hid (h2.rest.take B = (M.drop (N / B * B)).take B ∧ h2.alg = alg ∧ h2.total = M.length ∧ (⟨h2.words, h2.wide⟩ : St) = run alg M (N / B)) := by
        obtain ⟨q1, q2, q3, q4, q5, q6, q7⟩ := HQ.out
        have := first_block (alg := alg) (h := h) (msg := msg) (bs := bs) (by rw [q4, HBe.out]; exact q2) m (by rw [q4, HBe.out, q3]; exact hfl)
        rw [q4, HBe.out, q3, q6] at this
        rw [← hh2, ← this]
        have hl1 : (h.rest.take held ++ bs.take m).length = B := by have := hk.len; simp [q5]; omega
        refine ⟨?_, q7, by rw [hMl], ?_⟩
        · show (h.rest.take held ++ (bs.take m ++ h.rest.drop (held + m))).take B = _
          rw [← List.append_assoc, List.take_append_of_le_length (by omega), List.take_of_length_le (by omega)]
        · rw [HM.out _ (by have := Nat.div_add_mod N B; rw [Nat.mul_comm]; omega)]; exact q1
      have hl2 : (h2.rest.take B).length = B := by have := hok2.len; simp; omega
      clear hh2
      have HC : Hid (∀ w' w2, w' = w2 → Blk HT w2 g h2.cells → Upd w w2 g → Calls Tryz.prog 83 #[.pointer (some ⟨g, 0, none⟩), .slice (some ⟨g, 18, none⟩) B 128] w' fun e w3 => e = .returned (.tuple #[]) ∧ Blk HT w3 g (h2.mixed (h2.rest.take B)).cells ∧ Upd w2 w3 g) := fun w' w2 hw hb hu => by
        rw [hw]; exact mixM_any h2 hok2 (by rw [HF.out.2.1]; exact ha) g hb (HTA.out.2 w2 hu) g 18 B 128 (h2.rest.take B) hb.lt ((Hs.rd_rest hb).take B) (hok2.bytes.take _) (by omega) (by omega) (by rw [hl2, HF.out.2.1, HBe.out])
      have HST0 : Hid (∀ w2 w3, Upd w w2 g → Blk HT w3 g (h2.mixed (h2.rest.take B)).cells → Upd w2 w3 g → ∀ v2, SlX w g v2 (bs.drop m) → LP HT alg M g w v2 w3) := fun w2 w3 hu2 hb3 hu3 v2 hv2 => by
        obtain ⟨f1, f2, f3, f4⟩ := HF.out
        obtain ⟨e1, e2, e3, _⟩ := h2.mixed_state f2 (h2.rest.take B)
        obtain ⟨q1, q2, q3, q4, q5, q6, q7⟩ := HQ.out
        have e0 := Nat.div_add_mod N B
        have e4 : (N / B + 1) * B = N + m := by rw [Nat.succ_mul, Nat.mul_comm]; omega
        refine ⟨N / B + 1, _, hb3, h2.mixed_ok hok2 _, e2, by rw [e3, f3], ?_, ?_, ?_, hu2.trans hu3⟩
        · rw [e1, f4, f1, run, HBe.out]
        · rw [HBe.out, e4, hMl]; omega
        · have e5 : M.drop (N + m) = bs.drop m := by rw [← q6, ← q4, List.drop_append, Nat.add_sub_cancel_left, List.drop_of_length_le (by omega), List.nil_append]
          rw [HBe.out, e4, e5]; exact hv2.upd (hu2.trans hu3)
      rcases HSX0.out with hnil | ⟨b, off, rfl, hbl, hbne, hrd⟩
      · exfalso; have := HQ.out.2.2.2.2.1; rw [hnil] at this; simp at this; omega
      have hmI : (m : Int) ≤ (n : Int) := by omega
      have HTL : Hid (∀ a2, SlX w g (.slice a2 0 0) [] ∧ SlX w g (.slice (some ⟨b, off + m, none⟩) (n - m) (c - m)) (bs.drop m)) := fun a2 => ⟨⟨_, _, rfl, Nat.le_refl _, .inl rfl⟩, SlX.tail hbl hbne hrd HQ.out.2.2.2.2.1 hcl (by omega)⟩
      by_cases hcm : c = m
      · have hnm : n = c := by omega
        subst hcm
        subst hnm
        go_wp2_with (first
          | (go_at_call 82; refine (HBl.out _).mono ?_; rintro e w' ⟨rfl, rfl⟩)
          | (refine wpList_cpB rfl (.tmp 36) (.tmp 37) 22 rfl .u8 5 HT Tryz.und8 Tryz.one8 g (18 + held) (B - held) (128 - held) { h with total := N + n }.cells bs HP.out.1 (.slice (some ⟨b, off, none⟩) n n) rfl rfl HP.out.2.2.sl n (by rw [HQ.out.2.2.2.2.1]; exact HMM.out) (by rw [HL0.out]; omega) ?_; intro w2 hb2 hu2; have HC2 : Hid _ := HCP.out w2 hb2; have HU2 : Hid (Upd w w2 g) := HP.out.2.1.trans hu2; clear hb2 hu2)
          | (go_at_call 83; refine (HC.out _ w2 rfl HC2.out HU2.out).mono ?_; rintro e w3 ⟨rfl, hb3, hu3⟩; have HST1 : Hid _ := HST0.out w2 w3 HU2.out hb3 hu3; clear hb3 hu3))
        have HST : Hid (LP HT alg M g w (.slice (some ⟨b, off, none⟩) 0 0) w3) := HST1.out _ (by
          have e : bs.drop n = [] := List.eq_nil_of_length_eq_zero (by rw [List.length_drop, HQ.out.2.2.2.2.1]; omega)
          rw [e]; exact (HTL.out _).1)
        clear hhi hc0 hc1 hf1 hfl hbl hrd
        try simp only [HBF.out]
        go_loopw [1] (fun v wr => LP HT alg M g w v wr) (fun v _ => lenOf v)
        case atStart => exact HST.out
        case round =>
          clear hB0
          obtain ⟨k, hs, hb, hok, halg, htot, hst, hkB, hvx, hu⟩ := hrel
          rw [HBe.out] at hkB hvx
          obtain ⟨a1, c1, rfl, hcl1, hvx⟩ := hvx
          obtain ⟨r, hre⟩ : ∃ r, (M.drop (k * B)).length = r := ⟨_, rfl⟩
          have hrM : r = M.length - k * B := by rw [← hre, List.length_drop]
          rw [hre] at hcl1
          simp only [hre]
          have hTr := HTA.out.2 wr hu
          have hc0r : wr.cell? ⟨g, 0, none⟩ = some (.int .i64 alg) := by rw [← halg]; exact hb.cell 0
          have hrN : r ≤ N + n := by omega
          by_cases hge : B ≤ r
          · rcases hvx with hnil | ⟨b, off, rfl, hbl, hbne, hrd⟩
            · rw [hnil] at hre; simp at hre; omega
            · have hrd1 : Rd .u8 wr b off ((M.drop (k * B)).take B) := hrd.take B
              have hl1 : ((M.drop (k * B)).take B).length = B := by rw [List.length_take, hre]; omega
              have HC : Hid (∀ w', w' = wr → Calls Tryz.prog _ _ w' _) := fun w' hw => by rw [hw]; exact mixM_any hs hok (by rw [halg]; exact ha) g hb hTr b off B c1 _ hbl hrd1 ((HUB.out.drop _).take _) (by omega) (by omega) (by rw [hl1, halg, HBe.out])
              have HX : Hid (hs.ok ∧ hs.alg = alg ∧ hs.total = M.length ∧ (⟨hs.words, hs.wide⟩ : St) = run alg M k ∧ b < wr.heap.size ∧ Rd .u8 wr b off (M.drop (k * B)) ∧ Upd w wr g ∧ (M.drop (k * B)).length = r ∧ r = M.length - k * B ∧ k * B ≤ M.length) := ⟨hok, halg, htot, hst, hbl, hrd, hu, hre, hrM, hkB⟩
              clear hok halg htot hst hbl hrd hu hre hrM hb hTr hrd1 hl1 hkB
              have hgeI : (B : Int) ≤ (r : Int) := by omega
              have hgeC : (B : Int) ≤ (c1 : Int) := by omega
              have HE : Hid (∀ w2, Blk HT w2 g (hs.mixed ((M.drop (k * B)).take B)).cells → Upd wr w2 g → ∀ v2, SlX wr g v2 ((M.drop (k * B)).drop B) → LP HT alg M g w v2 w2) := fun w2 hb2 hu2 v2 hv2 => by
                obtain ⟨hok, halg, htot, hst, hbl, hrd, hu, hre, hrM, hkB⟩ := HX.out
                obtain ⟨e1, e2, e3, _⟩ := hs.mixed_state halg ((M.drop (k * B)).take B)
                refine ⟨k + 1, _, hb2, hs.mixed_ok hok _, e2, by rw [e3, htot], ?_, ?_, ?_, hu.trans hu2⟩
                · rw [e1, hst, run, HBe.out]
                · rw [HBe.out, Nat.succ_mul]; omega
                · rw [HBe.out, Nat.succ_mul, ← List.drop_drop]; exact hv2.upd hu2
              by_cases hcB : c1 = B
              · subst hcB
                have hrc : r = c1 := by omega
                have HV2 : Hid (∀ a2, SlX wr g (.slice a2 0 0) ((M.drop (k * c1)).drop c1)) := fun a2 => by
                  obtain ⟨hok, halg, htot, hst, hbl, hrd, hu, hre, hrM, hkB⟩ := HX.out
                  have hl0 : ((M.drop (k * c1)).drop c1).length = 0 := by rw [List.length_drop, hre]; omega
                  exact ⟨_, _, by rw [hl0], by omega, .inl (List.eq_nil_of_length_eq_zero hl0)⟩
                subst hrc
                go_wp2_with (go_at_call 83; refine (HC.out _ rfl).mono ?_; rintro e w2 ⟨rfl, hb2, hu2⟩; have HN2 : Hid _ := HE.out w2 hb2 hu2; clear hb2 hu2)
                go_roundw
                case rel => exact HN2.out _ (HV2.out _)
                case measure => simp [lenOf]; omega
              · have HV2 : Hid (SlX wr g (.slice (some ⟨b, off + B, none⟩) (r - B) (c1 - B)) ((M.drop (k * B)).drop B)) := by
                  obtain ⟨hok, halg, htot, hst, hbl, hrd, hu, hre, hrM, hkB⟩ := HX.out
                  exact SlX.tail hbl hbne hrd hre hcl1 hge
                go_wp2_with (go_at_call 83; refine (HC.out _ rfl).mono ?_; rintro e w2 ⟨rfl, hb2, hu2⟩; have HN2 : Hid _ := HE.out w2 hb2 hu2; clear hb2 hu2)
                go_roundw
                case rel => exact HN2.out _ HV2.out
                case measure => simp [lenOf]; omega
          · have hltI : (r : Int) < (B : Int) := by omega
            have HSl : Hid (Sl .u8 wr (.slice a1 r c1) (M.drop (k * B))) := SlX.sl (g := g) ⟨a1, c1, by rw [hre], by rw [hre]; exact hcl1, hvx⟩
            have HLc : Hid (hs.cells.length = 146) := Hs.cells_len hok.len
            have HBk : Hid (Blk HT wr g hs.cells) := hb
            have HRe : Hid ((M.drop (k * B)).length = r) := hre
            have HFin : Hid (∀ w2, Blk HT w2 g (over hs.cells 18 (((M.drop (k * B)).take r).map (Value.int .u8))) → Upd wr w2 g → (∃ h', Blk HT w2 g h'.cells ∧ h'.ok ∧ Inv alg h' M) ∧ Upd w w2 g) := fun w2 hb2 hu2 => by
              rw [List.take_of_length_le (by omega)] at hb2
              have e1 := hs.over_rest (M.drop (k * B)) 0
              rw [Nat.add_zero, List.take_zero, List.nil_append, Nat.zero_add] at e1
              rw [e1] at hb2
              refine ⟨⟨_, hb2, ⟨hok.words, hok.wide, ?_, ?_⟩, ?_⟩, hu.trans hu2⟩
              · have := hok.len; simp; omega
              · exact (HUB.out.drop _).append (hok.bytes.drop _)
              · have := inv_end (h := hs) (M := M) (k := k) halg htot hst (by rw [HBe.out]; exact hkB) (by rw [HBe.out]; omega)
                rw [HBe.out] at this; exact this
            clear hb hok halg htot hst hkB hvx hu hre hTr
            go_wp2_with (refine wpList_cpB rfl (.tmp 69) (.tmp 70) 22 rfl .u8 5 HT Tryz.und8 Tryz.one8 g 18 128 128 hs.cells (M.drop (k * B)) HBk.out (.slice a1 r c1) rfl rfl HSl.out r (by rw [HRe.out]; exact (Nat.min_eq_left (by omega)).symm) (by rw [HLc.out]; omega) ?_; intro w2 hb2 hu2; have HF2 : Hid _ := HFin.out w2 hb2 hu2; clear hb2 hu2)
            exact bodyPost_end (v := .tuple #[]) (results_none rfl _ _ _) rfl ⟨rfl, HF2.out.1, HF2.out.2⟩
      · go_wp2_with (first
        | (go_at_call 82; refine (HBl.out _).mono ?_; rintro e w' ⟨rfl, rfl⟩)
        | (refine wpList_cpB rfl (.tmp 36) (.tmp 37) 22 rfl .u8 5 HT Tryz.und8 Tryz.one8 g (18 + held) (B - held) (128 - held) { h with total := N + n }.cells bs HP.out.1 (.slice (some ⟨b, off, none⟩) n c) rfl rfl HP.out.2.2.sl m (by rw [HQ.out.2.2.2.2.1]; exact HMM.out) (by rw [HL0.out]; omega) ?_; intro w2 hb2 hu2; have HC2 : Hid _ := HCP.out w2 hb2; have HU2 : Hid (Upd w w2 g) := HP.out.2.1.trans hu2; clear hb2 hu2)
        | (go_at_call 83; refine (HC.out _ w2 rfl HC2.out HU2.out).mono ?_; rintro e w3 ⟨rfl, hb3, hu3⟩; have HST1 : Hid _ := HST0.out w2 w3 HU2.out hb3 hu3; clear hb3 hu3))
        have HST : Hid (LP HT alg M g w (.slice (some ⟨b, off + m, none⟩) (n - m) (c - m)) w3) := HST1.out _ (HTL.out none).2
        clear hhi hc0 hc1 hf1 hfl hbl hrd
        try simp only [HBF.out]
        go_loopw [1] (fun v wr => LP HT alg M g w v wr) (fun v _ => lenOf v)
        case atStart => exact HST.out
        case round =>
          clear hB0
          obtain ⟨k, hs, hb, hok, halg, htot, hst, hkB, hvx, hu⟩ := hrel
          rw [HBe.out] at hkB hvx
          obtain ⟨a1, c1, rfl, hcl1, hvx⟩ := hvx
          obtain ⟨r, hre⟩ : ∃ r, (M.drop (k * B)).length = r := ⟨_, rfl⟩
          have hrM : r = M.length - k * B := by rw [← hre, List.length_drop]
          rw [hre] at hcl1
          simp only [hre]
          have hTr := HTA.out.2 wr hu
          have hc0r : wr.cell? ⟨g, 0, none⟩ = some (.int .i64 alg) := by rw [← halg]; exact hb.cell 0
          have hrN : r ≤ N + n := by omega
          by_cases hge : B ≤ r
          · rcases hvx with hnil | ⟨b, off, rfl, hbl, hbne, hrd⟩
            · rw [hnil] at hre; simp at hre; omega
            · have hrd1 : Rd .u8 wr b off ((M.drop (k * B)).take B) := hrd.take B
              have hl1 : ((M.drop (k * B)).take B).length = B := by rw [List.length_take, hre]; omega
              have HC : Hid (∀ w', w' = wr → Calls Tryz.prog _ _ w' _) := fun w' hw => by rw [hw]; exact mixM_any hs hok (by rw [halg]; exact ha) g hb hTr b off B c1 _ hbl hrd1 ((HUB.out.drop _).take _) (by omega) (by omega) (by rw [hl1, halg, HBe.out])
              have HX : Hid (hs.ok ∧ hs.alg = alg ∧ hs.total = M.length ∧ (⟨hs.words, hs.wide⟩ : St) = run alg M k ∧ b < wr.heap.size ∧ Rd .u8 wr b off (M.drop (k * B)) ∧ Upd w wr g ∧ (M.drop (k * B)).length = r ∧ r = M.length - k * B ∧ k * B ≤ M.length) := ⟨hok, halg, htot, hst, hbl, hrd, hu, hre, hrM, hkB⟩
              clear hok halg htot hst hbl hrd hu hre hrM hb hTr hrd1 hl1 hkB
              have hgeI : (B : Int) ≤ (r : Int) := by omega
              have hgeC : (B : Int) ≤ (c1 : Int) := by omega
              have HE : Hid (∀ w2, Blk HT w2 g (hs.mixed ((M.drop (k * B)).take B)).cells → Upd wr w2 g → ∀ v2, SlX wr g v2 ((M.drop (k * B)).drop B) → LP HT alg M g w v2 w2) := fun w2 hb2 hu2 v2 hv2 => by
                obtain ⟨hok, halg, htot, hst, hbl, hrd, hu, hre, hrM, hkB⟩ := HX.out
                obtain ⟨e1, e2, e3, _⟩ := hs.mixed_state halg ((M.drop (k * B)).take B)
                refine ⟨k + 1, _, hb2, hs.mixed_ok hok _, e2, by rw [e3, htot], ?_, ?_, ?_, hu.trans hu2⟩
                · rw [e1, hst, run, HBe.out]
                · rw [HBe.out, Nat.succ_mul]; omega
                · rw [HBe.out, Nat.succ_mul, ← List.drop_drop]; exact hv2.upd hu2
              by_cases hcB : c1 = B
              · subst hcB
                have hrc : r = c1 := by omega
                have HV2 : Hid (∀ a2, SlX wr g (.slice a2 0 0) ((M.drop (k * c1)).drop c1)) := fun a2 => by
                  obtain ⟨hok, halg, htot, hst, hbl, hrd, hu, hre, hrM, hkB⟩ := HX.out
                  have hl0 : ((M.drop (k * c1)).drop c1).length = 0 := by rw [List.length_drop, hre]; omega
                  exact ⟨_, _, by rw [hl0], by omega, .inl (List.eq_nil_of_length_eq_zero hl0)⟩
                subst hrc
                go_wp2_with (go_at_call 83; refine (HC.out _ rfl).mono ?_; rintro e w2 ⟨rfl, hb2, hu2⟩; have HN2 : Hid _ := HE.out w2 hb2 hu2; clear hb2 hu2)
                go_roundw
                case rel => exact HN2.out _ (HV2.out _)
                case measure => simp [lenOf]; omega
              · have HV2 : Hid (SlX wr g (.slice (some ⟨b, off + B, none⟩) (r - B) (c1 - B)) ((M.drop (k * B)).drop B)) := by
                  obtain ⟨hok, halg, htot, hst, hbl, hrd, hu, hre, hrM, hkB⟩ := HX.out
                  exact SlX.tail hbl hbne hrd hre hcl1 hge
                go_wp2_with (go_at_call 83; refine (HC.out _ rfl).mono ?_; rintro e w2 ⟨rfl, hb2, hu2⟩; have HN2 : Hid _ := HE.out w2 hb2 hu2; clear hb2 hu2)
                go_roundw
                case rel => exact HN2.out _ HV2.out
                case measure => simp [lenOf]; omega
          · have hltI : (r : Int) < (B : Int) := by omega
            have HSl : Hid (Sl .u8 wr (.slice a1 r c1) (M.drop (k * B))) := SlX.sl (g := g) ⟨a1, c1, by rw [hre], by rw [hre]; exact hcl1, hvx⟩
            have HLc : Hid (hs.cells.length = 146) := Hs.cells_len hok.len
            have HBk : Hid (Blk HT wr g hs.cells) := hb
            have HRe : Hid ((M.drop (k * B)).length = r) := hre
            have HFin : Hid (∀ w2, Blk HT w2 g (over hs.cells 18 (((M.drop (k * B)).take r).map (Value.int .u8))) → Upd wr w2 g → (∃ h', Blk HT w2 g h'.cells ∧ h'.ok ∧ Inv alg h' M) ∧ Upd w w2 g) := fun w2 hb2 hu2 => by
              rw [List.take_of_length_le (by omega)] at hb2
              have e1 := hs.over_rest (M.drop (k * B)) 0
              rw [Nat.add_zero, List.take_zero, List.nil_append, Nat.zero_add] at e1
              rw [e1] at hb2
              refine ⟨⟨_, hb2, ⟨hok.words, hok.wide, ?_, ?_⟩, ?_⟩, hu.trans hu2⟩
              · have := hok.len; simp; omega
              · exact (HUB.out.drop _).append (hok.bytes.drop _)
              · have := inv_end (h := hs) (M := M) (k := k) halg htot hst (by rw [HBe.out]; exact hkB) (by rw [HBe.out]; omega)
                rw [HBe.out] at this; exact this
            clear hb hok halg htot hst hkB hvx hu hre hTr
            go_wp2_with (refine wpList_cpB rfl (.tmp 69) (.tmp 70) 22 rfl .u8 5 HT Tryz.und8 Tryz.one8 g 18 128 128 hs.cells (M.drop (k * B)) HBk.out (.slice a1 r c1) rfl rfl HSl.out r (by rw [HRe.out]; exact (Nat.min_eq_left (by omega)).symm) (by rw [HLc.out]; omega) ?_; intro w2 hb2 hu2; have HF2 : Hid _ := HFin.out w2 hb2 hu2; clear hb2 hu2)
            exact bodyPost_end (v := .tuple #[]) (results_none rfl _ _ _) rfl ⟨rfl, HF2.out.1, HF2.out.2⟩
end Go.Proofs.YtjmiaakfdclfjaaGreatDoor.Sh
