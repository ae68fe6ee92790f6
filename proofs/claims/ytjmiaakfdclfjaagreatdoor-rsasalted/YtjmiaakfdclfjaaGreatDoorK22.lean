/-
  Rsa: the blocks of a mask: the function over which Mask ranges.
-/
import Derived.Lib.MakeNoZero
import Derived.Test.YtjmiaakfdclfjaaGreatDoorK21
namespace Go.Proofs.YtjmiaakfdclfjaaGreatDoor.Sh
open Go.RowKit
set_option maxRecDepth 20000
attribute [local go_sem] Oper.semAt_some
theorem Rd.slx {w : World} {g b n c : Nat} {xs : List Int} (hr : Rd .u8 w b 0 xs) (hb : b < w.heap.size) (hne : b ≠ g) (hl : xs.length = n) (hc : n ≤ c) : SlX w g (.slice (some ⟨b, 0, none⟩) n c) xs :=
  ⟨_, _, by rw [hl], by omega, .inr ⟨b, 0, rfl, hb, hne, hr⟩⟩
theorem be4 (i : Nat) : be 4 i = [((i / 16777216 % 256 : Nat) : Int), ((i / 65536 % 256 : Nat) : Int), ((i / 256 % 256 : Nat) : Int), ((i % 256 : Nat) : Int)] := by
  simp [be]
theorem dig_len (alg : Int) (msg : List Int) : (dig alg msg).length = siz alg := out_len _ _
theorem cell_lt {w : World} {b o : Nat} {v : Value} (h : w.cell? ⟨b, o, none⟩ = some v) : b < w.heap.size := by
  obtain ⟨ob, ho, _⟩ := not_walk_of_cell h
  exact (Array.getElem?_eq_some_iff.1 ho).1
theorem Sl.xg {w w' : World} {v : Value} {xs : List Int} {g : Nat} (h : Sl .u8 w v xs) (hb : Below w.heap.size w w') (hg : w.heap.size ≤ g) : SlX w' g v xs := by
  obtain ⟨a, c, rfl, hc, h⟩ := h
  refine ⟨a, c, rfl, hc, ?_⟩
  rcases h with h | ⟨b, off, rfl, hbl, hr⟩
  · exact .inl h
  · exact .inr ⟨b, off, rfl, Nat.lt_of_lt_of_le hbl hb.size, by omega, below_rd hb hbl hr⟩
set_option maxHeartbeats 4000000 in
theorem blocks1_any (l ba bs : Nat) (alg : Int) (ha : Alg alg) (seed : List Int) (us : U8s seed) (hl : seed.length ≤ 100000) (vs : Value) (N : Nat) (hN : N ≤ 1000000) (n : Nat)
    (J : Nat → World → Prop) (Jx : World → Prop) (hT : ∀ i W, J i W → Tabs W) (hb : ∀ i W W', J i W → Below W.heap.size W W' → J i W')
    (W0 : World) (h0 : J 0 W0) (h0N : 0 < N) (hca : W0.cell? ⟨ba, 0, none⟩ = some (.int .i64 alg)) (hcs : W0.cell? ⟨bs, 0, none⟩ = some vs) (hvs : Sl .u8 W0 vs seed)
    (hY : ∀ i v W, i < N → J i W → W0.heap.size ≤ W.heap.size → Sl .u8 W v (dig alg (seed ++ be 4 i)) → YieldAt Fence.wide n Tryz.prog l #[v] W fun e W' =>
      (e = .returned (.bool true) ∧ i + 1 < N ∧ J (i + 1) W' ∧ Kept W0.heap.size W W') ∨ (e = .returned (.bool false) ∧ Jx W')) :
    Calls Tryz.prog 58 #[.func (.yield l) #[] #[], .pointer (some ⟨ba, 0, none⟩), .pointer (some ⟨bs, 0, none⟩)] W0 fun e W' => (∃ v, e = .returned v) ∧ Jx W' := by
  have HX : Hid (J 0 W0 ∧ Sl .u8 W0 vs seed ∧ U8s seed ∧ (∀ i W, J i W → Tabs W) ∧ (∀ i W W', J i W → Below W.heap.size W W' → J i W')) := ⟨h0, hvs, us, hT, hb⟩
  have HY : Hid (∀ i v W, i < N → J i W → W0.heap.size ≤ W.heap.size → Sl .u8 W v (dig alg (seed ++ be 4 i)) → YieldAt Fence.wide n Tryz.prog l #[v] W fun e W' =>
      (e = .returned (.bool true) ∧ i + 1 < N ∧ J (i + 1) W' ∧ Kept W0.heap.size W W') ∨ (e = .returned (.bool false) ∧ Jx W')) := hY
  have HS : Hid (∀ w', w' = W0 → Calls Tryz.prog _ _ w' _) := fun w' hw => by rw [hw]; exact Start_any alg ha (hT 0 W0 h0)
  have hcsl : (Hs.start alg).cells.length = 146 := Hs.cells_len (by simp [Hs.start, Hs.empty])
  have HSz : Hid (∀ s : Hs, s.ok → (Tryz.prog.info? 95).map (·.size) = some s.cells.length) := fun s hs => by rw [Hs.cells_len hs.len]; exact Tryz.sizeH
  clear h0 hvs hT hb hY
  go_enter Tryz.func58, Tryz.ntmps58
  go_upto_region 1 with (first
    | (go_at_call 59; refine (HS.out _ rfl).mono ?_; rintro e w1 ⟨rfl, hB1⟩; have HB1 : Hid (Below W0.heap.size W0 w1) := hB1; clear hB1)
    | (refine wpList_store_mid rfl 95 (.tmp 4) (.tmp 8) rfl w1.heap.size 0 (Hs.start alg).cells.toArray rfl rfl ((Blk.new 95 w1 _).there 0 _ (by simp only [List.size_toArray]; rw [hcsl]; decide)) (by simpa using HSz.out _ (Hs.start_ok ha)) (Hs.cells_one _) ?_))
  refine wp_gen (fun W => Blk 95 W w1.heap.size (Hs.start alg).cells ∧ Below W0.heap.size W0 W) ⟨(Blk.new 95 w1 _).fill _ (by rw [hcsl]; decide), (Upd.setCells _ _ _).below (HB1.out.alloc HB1.out.size _) (HB1.out.alloc HB1.out.size _).size HB1.out.size⟩ ?_
  rintro W1 ⟨hE, hBE⟩
  have hgl := HB1.out.size
  obtain ⟨g, hg⟩ : ∃ g, w1.heap.size = g := ⟨_, rfl⟩
  rw [hg] at hE hgl
  simp only [hg]
  have hT1 : Tabs W1 := (HX.out.2.2.2.1 0 W0 HX.out.1).below hBE
  have hsz := (HX.out.2.2.2.1 0 W0 HX.out.1).size
  have hbs : bs < W0.heap.size := cell_lt hcs
  have hcs1 : W1.cell? ⟨bs, 0, none⟩ = some vs := by rw [hBE.cell (p := ⟨bs, 0, none⟩) hbs]; exact hcs
  have hvx := Sl.xg HX.out.2.1 hBE hgl
  have HTk : Hid (∀ w', w' = W1 → Calls Tryz.prog _ _ w' _) := fun w' hw => by rw [hw]; exact take_any alg ha (Hs.start alg) (Hs.start_ok ha) [] seed (Hs.start_inv alg) g hE (by omega) hT1 vs hvx (by intro x hx; simp at hx) HX.out.2.2.1 (by simp) (by omega)
  have HB2 : Hid (Below W0.heap.size W0 W1) := hBE
  obtain ⟨va, vc, rfl, _⟩ := hvx
  clear hE hBE hT1 hcs hca HS HB1 hg
  go_upto_region 2 with (go_at_call 60; refine (HTk.out _ rfl).mono ?_; rintro e W2 ⟨rfl, ⟨s, hbs2, hok2, hi2⟩, hu2⟩; have H2 : Hid (Blk 95 W2 g s.cells ∧ s.ok ∧ Inv alg s seed ∧ Below W0.heap.size W0 W2) := ⟨hbs2, hok2, hi2, hu2.below HB2.out HB2.out.size hgl⟩; clear hbs2 hok2 hi2 hu2)
  clear hcs1 HTk HB2
  have hok : s.ok := H2.out.2.1
  have hscl := Hs.cells_len hok.len
  go_wp2_with fail
  go_loopw [5] (fun cv wr => ∃ i : Nat, cv = .int .u32 i ∧ i < N ∧ J i wr ∧ Blk 95 wr g s.cells ∧ W0.heap.size ≤ wr.heap.size) (fun cv _ => N - (intOf cv).toNat)
  case atStart => exact ⟨0, rfl, h0N, HX.out.2.2.2.2 0 W0 W2 HX.out.1 H2.out.2.2.2, H2.out.1, H2.out.2.2.2.size⟩
  case round =>
    obtain ⟨i, rfl, hi, hJ, hG, hS⟩ := hrel
    have HG : Hid (wr.rangeAt g 0 s.cells) := hG.whole
    have HSs : Hid ((Tryz.prog.info? 95).map (·.size) = some s.cells.length) := HSz.out s hok
    have HJ : Hid (J i wr ∧ Blk 95 wr g s.cells ∧ W0.heap.size ≤ wr.heap.size ∧ g < wr.heap.size) := ⟨hJ, hG, hS, hG.lt⟩
    clear hJ hG
    go_upto_region 5 with (first
      | (refine wpList_load_mid rfl 95 (.tmp 4) rfl g 0 rfl s.cells _ HG.out Tryz.underlying95 rfl HSs.out ?_)
      | (refine wpList_store_mid rfl 95 (.tmp 6) (.tmp 13) rfl wr.heap.size 0 s.cells.toArray rfl rfl ((Blk.new 95 wr _).there 0 _ (by simp only [List.size_toArray]; rw [hscl]; decide)) (by simpa using HSs.out) (Hs.cells_one _) ?_))
    refine wp_gen (fun W => Blk 95 W wr.heap.size s.cells ∧ Below wr.heap.size wr W) ⟨(Blk.new 95 wr _).fill _ (by rw [hscl]; decide), (Upd.setCells _ _ _).below ((Below.refl _ wr).alloc (Nat.le_refl _) _) (by simp) (Nat.le_refl _)⟩ ?_
    rintro Wq ⟨hq, hBq⟩
    have hql := hq.lt
    have hiN : (i : Int) < 1000000 := by omega
    have HTk : Hid (∀ w' cells, cells = ((be 4 i).map (Value.int .u8)).toArray → w' = Wq.alloc (.cells cells 5) → Calls Tryz.prog 60 #[.pointer (some ⟨wr.heap.size, 0, none⟩), .slice (some ⟨Wq.heap.size, 0, none⟩) 4 4] w' fun e w'' => e = .returned (.tuple #[]) ∧ (∃ h', Blk 95 w'' wr.heap.size h'.cells ∧ h'.ok ∧ Inv alg h' (seed ++ be 4 i)) ∧ Below wr.heap.size wr w'') := fun w' cells hc hw => by
      rw [hw, hc]
      have hB2 : Below Wq.heap.size Wq (Wq.alloc (.cells ((be 4 i).map (Value.int .u8)).toArray 5)) := (Below.refl _ _).alloc (Nat.le_refl _) _
      have hA : Arr .u8 5 (Wq.alloc (.cells ((be 4 i).map (Value.int .u8)).toArray 5)) Wq.heap.size (be 4 i) := Blk.new _ Wq _
      have hB3 : Below wr.heap.size wr (Wq.alloc (.cells ((be 4 i).map (Value.int .u8)).toArray 5)) := hBq.alloc hBq.size _
      have hT := (HX.out.2.2.2.1 i wr HJ.out.1).below hB3
      refine (take_any alg ha s hok seed (be 4 i) H2.out.2.2.1 wr.heap.size (hq.alloc _) (by omega) hT _ (Rd.slx (by have := hA.rd 0 4 (by simp [be_len]); simpa [List.take_of_length_le, be_len] using this) hA.lt (by omega) (be_len _ _) (Nat.le_refl _)) HX.out.2.2.1 (be_u8 _ _) (by omega) (by simp [be_len])).mono ?_
      rintro e w2 ⟨rfl, hh, hu⟩
      exact ⟨rfl, hh, hu.below hB3 hB3.size (Nat.le_refl _)⟩
    clear hq hBq
    go_upto_region 6 with (go_at_call 60; refine (HTk.out _ _ (by rw [be4]; simp only [List.map_cons, List.map_nil]; congr 1; repeat' (first | rfl | (congr 1; omega) | (congr 1))) rfl).mono ?_; rintro e W3 ⟨rfl, ⟨h', hb', hok', hi'⟩, hB'⟩; have H3 : Hid (Blk 95 W3 wr.heap.size h'.cells ∧ h'.ok ∧ Inv alg h' (seed ++ be 4 i) ∧ Below wr.heap.size wr W3) := ⟨hb', hok', hi', hB'⟩; clear hb' hok' hi' hB')
    have H3r : Hid (W3.rangeAt wr.heap.size 0 h'.cells) := H3.out.1.whole
    have H3s : Hid ((Tryz.prog.info? 95).map (·.size) = some h'.cells.length) := HSz.out h' H3.out.2.1
    have HSm : Hid (∀ w', w' = W3 → Calls Tryz.prog _ _ w' _) := fun w' hw => by
      rw [hw]; exact SumV_any h' alg ha (seed ++ be 4 i) H3.out.2.1 H3.out.2.2.1 ((HX.out.2.2.2.1 i wr HJ.out.1).below H3.out.2.2.2) (HX.out.2.2.1.append (be_u8 _ _)) (by simp [be_len]; omega)
    refine (wpIn_wide (n := n + 1)).1 ?_
    gi_wp2_with (first
      | (refine Wid.via (.inl rfl) rfl (fun c hc => by cases hc) fun K hK => wp_load_mid 95 (.tmp 6) rfl wr.heap.size 0 rfl h'.cells _ H3r.out Tryz.underlying95 rfl H3s.out (hK _ _ ?_))
      | (refine ⟨trivial, ?_⟩; gi_at_call 61; refine (callsIn_wide.2 (HSm.out _ rfl)).mono ?_; rintro e W4 ⟨d, rfl, hd4, hA4, hB4⟩
         have hB5 : Below wr.heap.size wr W4 := H3.out.2.2.2.trans (hB4.mono H3.out.2.2.2.size)
         have hsl4 : Sl .u8 W4 (.slice (some ⟨d, 0, none⟩) (siz alg) (siz alg)) (dig alg (seed ++ be 4 i)) := ⟨_, _, by rw [dig_len], by rw [dig_len]; exact Nat.le_refl _, .inr ⟨d, 0, rfl, hA4.lt, by have := hA4.rd 0 (siz alg) (by rw [dig_len]; omega); simpa [List.take_of_length_le, dig_len] using this⟩⟩
         have H4 : Hid (Blk 95 W4 g s.cells ∧ Below wr.heap.size wr W4) := ⟨below_blk hB5 HJ.out.2.2.2 HJ.out.2.1, hB5⟩
         obtain ⟨fn, tmps, assign, body, hy, hR⟩ := HY.out i _ W4 hi (HX.out.2.2.2.2 i wr W4 HJ.out.1 hB5) (Nat.le_trans HJ.out.2.2.1 hB5.size) hsl4
         clear hd4 hA4 hB4 hB5 hsl4))
    refine hR.mono ?_
    rintro e W5 (⟨rfl, hN1, hJ5, hk5⟩ | ⟨rfl, hx5⟩)
    · have HK5 : Hid (J (i + 1) W5 ∧ Blk 95 W5 g s.cells ∧ W0.heap.size ≤ W5.heap.size) := ⟨hJ5, hk5.blk hgl H4.out.1, by have := hk5.1; have := H4.out.2.size; have := HJ.out.2.2.1; omega⟩
      clear hJ5 hk5 hR hy
      gi_wp2
      go_wp2
      go_roundw
      case rel => exact ⟨i + 1, by go_num, hN1, HK5.out⟩
      case measure => simp [intOf]; omega
    · clear hR hy
      gi_wp2
      go_wp2
      exact bodyPost_ret (v := .tuple #[]) (results_none rfl _ _ _) rfl ⟨⟨_, rfl⟩, hx5⟩
end Go.Proofs.YtjmiaakfdclfjaaGreatDoor.Sh
/-
  Rsa: Mask: bytes made of a seed.
-/
namespace Go.Proofs.YtjmiaakfdclfjaaGreatDoor.Sh
open Go.RowKit
set_option maxRecDepth 20000
attribute [local go_sem] Oper.semAt_some
/-- The first k digests of a mask, and its first n bytes. -/
def mdg (alg : Int) (seed : List Int) (k : Nat) : List Int := (List.range k).flatMap fun i => dig alg (seed ++ be 4 i)
def msk (alg : Int) (seed : List Int) (n : Nat) : List Int := (mdg alg seed (n / siz alg + 1)).take n
theorem mdg_len (alg : Int) (seed : List Int) (k : Nat) : (mdg alg seed k).length = k * siz alg := by
  induction k with
  | zero => simp [mdg]
  | succ k ih =>
    have : mdg alg seed (k + 1) = mdg alg seed k ++ dig alg (seed ++ be 4 k) := by simp [mdg, List.range_succ]
    rw [this, List.length_append, ih, dig_len, Nat.succ_mul]
theorem mdg_succ (alg : Int) (seed : List Int) (k : Nat) : mdg alg seed (k + 1) = mdg alg seed k ++ dig alg (seed ++ be 4 k) := by simp [mdg, List.range_succ]
theorem mdg_pre (alg : Int) (seed : List Int) (k : Nat) : ∀ d, ∃ R, mdg alg seed (k + d) = mdg alg seed k ++ R
  | 0 => ⟨[], by simp⟩
  | d + 1 => by
    obtain ⟨R, h⟩ := mdg_pre alg seed k d
    exact ⟨R ++ dig alg (seed ++ be 4 (k + d)), by rw [← Nat.add_assoc, mdg_succ, h, List.append_assoc]⟩
theorem msk_of {alg : Int} {seed : List Int} {n k : Nat} (h0 : 0 < siz alg) (hk : n ≤ k * siz alg) : (mdg alg seed k).take n = msk alg seed n := by
  unfold msk
  have h1 : n ≤ (n / siz alg + 1) * siz alg := by
    have := Nat.lt_div_mul_add (a := n) h0
    rw [Nat.succ_mul]; omega
  rcases Nat.le_total k (n / siz alg + 1) with h | h
  · obtain ⟨R, hR⟩ := mdg_pre alg seed k (n / siz alg + 1 - k)
    rw [show k + (n / siz alg + 1 - k) = n / siz alg + 1 by omega] at hR
    rw [hR, List.take_append_of_le_length (by rw [mdg_len]; exact hk)]
  · obtain ⟨R, hR⟩ := mdg_pre alg seed (n / siz alg + 1) (k - (n / siz alg + 1))
    rw [show n / siz alg + 1 + (k - (n / siz alg + 1)) = k by omega] at hR
    rw [hR, List.take_append_of_le_length (by rw [mdg_len]; exact h1)]
set_option maxHeartbeats 1000000 in
theorem blocks_any {w : World} (alg : Int) (v : Value) (a : Option Addr) (n c : Nat) (hv : v = .slice a n c) :
    Calls Tryz.prog 33 #[.int .i64 alg, v] w fun e w' => e = .returned (.func (.func 58) #[] #[.pointer (some ⟨w.heap.size, 0, none⟩), .pointer (some ⟨w.heap.size + 1, 0, none⟩)]) ∧ w' = (w.alloc (.cells #[.int .i64 alg] 3)).alloc (.cells #[v] 22) := by
  subst hv
  go_enter Tryz.func33, Tryz.ntmps33
  go_wp2
  go_ret
  refine ⟨?_, rfl⟩
  simp
end Go.Proofs.YtjmiaakfdclfjaaGreatDoor.Sh
/-
  Rsa: Mask: the region of a round that draws its order.
-/
namespace Go.Proofs.YtjmiaakfdclfjaaGreatDoor.Sh
open Go.RowKit
set_option maxRecDepth 20000
theorem any_step {F : Fence} {n : Nat} {P : Program} {md : Region.Mode} {ops : Array Oper} {Q : Exit → Act → World → Prop} {fuel : Nat} {listed : Array Bool} {a : Act} {w : World} (rs : List Nat) (hr : Region.ready md ops listed = rs) (hne : rs ≠ [])
    (h : ∀ i ∈ rs, wpOpIn F n P ops Q i (wpAnyIn F n P md ops Q fuel (listed.setIfInBounds i true)) a w) : wpAnyIn F n P md ops Q (fuel + 1) listed a w :=
  ⟨fun e => absurd (hr.symm.trans e) hne, by rw [hr]; exact h⟩
def mo0 : Oper := { dst := some 29, op := .load 22 (.tmp 9), type := 22, pos := "mask.go:19", after := #[], guard := none }
def mo1 : Oper := { dst := some 30, op := .load 22 (.tmp 9), type := 22, pos := "mask.go:19", after := #[], guard := none }
def mo2 : Oper := { dst := some 31, op := .move (.tmp 10), type := 22, pos := "mask.go:19", after := #[], guard := none }
def mo3 : Oper := { dst := some 32, op := .call { callee := .builtin .copy, args := #[.tmp 30, .tmp 31], argTypes := #[22, 22] }, type := 3, pos := "mask.go:19", after := #[{ on := 1, ground := .data }, { on := 2, ground := .data }], guard := none }
def mo4 : Oper := { dst := some 33, op := .slice 22 (.tmp 29) (some (.tmp 32)) none none, type := 22, pos := "mask.go:19", after := #[{ on := 0, ground := .data }, { on := 3, ground := .data }], guard := none }
def mo5 : Oper := { dst := none, op := .store 22 (.tmp 9) (.tmp 33), type := 0, pos := "mask.go:19", after := #[{ on := 4, ground := .data }, { on := 3, ground := .chain }, { on := 0, ground := .phase }, { on := 1, ground := .phase }, { on := 2, ground := .phase }, { on := 3, ground := .phase }, { on := 4, ground := .phase }], guard := none }
def mops : Array Oper := #[mo0, mo1, mo2, mo3, mo4, mo5]
theorem wp_val {P : Program} {o : Oper} {a : Act} {w w' : World} {v : Value} {K : Act → World → Prop} {Q : Exit → Act → World → Prop} (h : (execOp a.eval o).run P w = .ok (.value v) w') (hK : K (a.put o.dst v) w') : o.wp P a w K Q := by
  unfold Oper.wp; rw [h]; exact hK
theorem wp_skp {P : Program} {o : Oper} {a : Act} {w w' : World} {K : Act → World → Prop} {Q : Exit → Act → World → Prop} (h : (execOp a.eval o).run P w = .ok .skip w') (hK : K (a.put o.dst undef) w') : o.wp P a w K Q := by
  unfold Oper.wp; rw [h]; exact hK
theorem ex_load {P : Program} {o : Oper} {ρ : Operand → Value} {w w' : World} {v : Value} {t : TypeId} {x : Operand} (ho : o.op = .load t x) (h : (Instr.loadAt t (ρ x)).run P w = .ok v w') : (execOp ρ o).run P w = .ok (.value v) w' := by
  unfold execOp; simp only [ho, Sem.run_bind, h, Result.andThen_ok, Sem.run_pure]
theorem ex_move {P : Program} {o : Oper} {ρ : Operand → Value} {w : World} {x : Operand} (ho : o.op = .move x) : (execOp ρ o).run P w = .ok (.value (ρ x)) w := by
  unfold execOp; simp only [ho, Sem.run_pure]
theorem ex_slice {P : Program} {o : Oper} {ρ : Operand → Value} {w w' : World} {v : Value} {t : TypeId} {x y : Operand} (ho : o.op = .slice t x (some y) none none) (h : (Instr.sliceAt t (ρ x) (some (ρ y)) none none).run P w = .ok v w') : (execOp ρ o).run P w = .ok (.value v) w' := by
  unfold execOp; simp only [ho, Option.map_some, Option.map_none, Sem.run_bind, h, Result.andThen_ok, Sem.run_pure]
theorem ex_store {P : Program} {o : Oper} {ρ : Operand → Value} {w w' : World} {t : TypeId} {x y : Operand} (ho : o.op = .store t x y) (h : (Instr.storeAt t (ρ x) (ρ y)).run P w = .ok () w') : (execOp ρ o).run P w = .ok .skip w' := by
  unfold execOp; simp only [ho, Sem.run_bind, h, Result.andThen_ok, Sem.run_pure]
set_option maxHeartbeats 4000000 in
theorem mask_region (l n : Nat) {Q : Exit → Act → World → Prop} {w : World} {Z : World → Prop} {L : Nat} {left v new : Value} {c : Int} {x0 x1 x2 x3 x4 x5 x6 x7 x8 x11 x12 x13 x14 x15 x16 x17 x18 x19 x20 x21 x22 x23 x24 x25 x26 x27 x28 x29 x30 x31 x32 x33 x34 x35 x36 x37 : Value}
    (hld : ∀ W : World, W.cell? ⟨L, 0, none⟩ = some left → (Instr.loadAt 22 (.pointer (some ⟨L, 0, none⟩))).run Tryz.prog W = .ok left W)
    (hw : w.drew.cell? ⟨L, 0, none⟩ = some left) (hw' : ∀ w', Z w' → w'.cell? ⟨L, 0, none⟩ = some left)
    (hcp : ∀ (b : Act) (K : Act → World → Prop), b.eval (.tmp 30) = left → b.eval (.tmp 31) = v → (∀ w', Z w' → K (b.put (some 32) (.int .i64 c)) w') → mo3.wp Tryz.prog b w.drew K Q)
    (hsl : ∀ w', Z w' → (Instr.sliceAt 22 left (some (.int .i64 c)) none none).run Tryz.prog w' = .ok new w')
    (hst : ∀ w', Z w' → (Instr.storeAt 22 (.pointer (some ⟨L, 0, none⟩)) new).run Tryz.prog w' = .ok () (w'.setCell ⟨L, 0, none⟩ new))
    (hQ : ∀ w', Z w' → Q .normal { tmps := #[x0, x1, x2, x3, x4, x5, x6, x7, x8, (.pointer (some ⟨L, 0, none⟩)), v, x11, x12, x13, x14, x15, x16, x17, x18, x19, x20, x21, x22, x23, x24, x25, x26, x27, x28, left, left, v, (.int .i64 c), new, x34, x35, x36, x37], defers := [] } (w'.setCell ⟨L, 0, none⟩ new)) :
    (Code.region 7 mops true).wpIn (Fence.wide.inRound l) n Tryz.prog Q { tmps := #[x0, x1, x2, x3, x4, x5, x6, x7, x8, (.pointer (some ⟨L, 0, none⟩)), v, x11, x12, x13, x14, x15, x16, x17, x18, x19, x20, x21, x22, x23, x24, x25, x26, x27, x28, x29, x30, x31, x32, x33, x34, x35, x36, x37], defers := [] } w := by
  have hF : Wid (Fence.wide.inRound l) := .inr ⟨l, rfl⟩
  have G6 : ∀ w', Z w' → wpAnyIn (Fence.wide.inRound l) n Tryz.prog .any mops Q 0 #[true, true, true, true, true, true] { tmps := #[x0, x1, x2, x3, x4, x5, x6, x7, x8, (.pointer (some ⟨L, 0, none⟩)), v, x11, x12, x13, x14, x15, x16, x17, x18, x19, x20, x21, x22, x23, x24, x25, x26, x27, x28, left, left, v, (.int .i64 c), new, x34, x35, x36, x37], defers := [] } (w'.setCell ⟨L, 0, none⟩ new) := fun w' hz => ⟨by kernel_rfl, hQ w' hz⟩
  have G5 : ∀ w', Z w' → wpAnyIn (Fence.wide.inRound l) n Tryz.prog .any mops Q 1 #[true, true, true, true, true, false] { tmps := #[x0, x1, x2, x3, x4, x5, x6, x7, x8, (.pointer (some ⟨L, 0, none⟩)), v, x11, x12, x13, x14, x15, x16, x17, x18, x19, x20, x21, x22, x23, x24, x25, x26, x27, x28, left, left, v, (.int .i64 c), new, x34, x35, x36, x37], defers := [] } w' := by
    intro w' hz
    refine any_step [5] (by kernel_rfl) (by simp) fun i hi => ?_
    obtain rfl : i = 5 := by simpa using hi
    exact hF.opAt (o := mo5) rfl rfl (fun c hc => by cases hc) (wp_skp (ex_store rfl (hst w' hz)) (G6 w' hz))
  have G4 : ∀ w', Z w' → wpAnyIn (Fence.wide.inRound l) n Tryz.prog .any mops Q 2 #[true, true, true, true, false, false] { tmps := #[x0, x1, x2, x3, x4, x5, x6, x7, x8, (.pointer (some ⟨L, 0, none⟩)), v, x11, x12, x13, x14, x15, x16, x17, x18, x19, x20, x21, x22, x23, x24, x25, x26, x27, x28, left, left, v, (.int .i64 c), x33, x34, x35, x36, x37], defers := [] } w' := by
    intro w' hz
    refine any_step [4] (by kernel_rfl) (by simp) fun i hi => ?_
    obtain rfl : i = 4 := by simpa using hi
    exact hF.opAt (o := mo4) rfl rfl (fun c hc => by cases hc) (wp_val (ex_slice rfl (hsl w' hz)) (G5 w' hz))
  have G3a : ∀ w', Z w' → wpAnyIn (Fence.wide.inRound l) n Tryz.prog .any mops Q 3 #[false, true, true, true, false, false] { tmps := #[x0, x1, x2, x3, x4, x5, x6, x7, x8, (.pointer (some ⟨L, 0, none⟩)), v, x11, x12, x13, x14, x15, x16, x17, x18, x19, x20, x21, x22, x23, x24, x25, x26, x27, x28, x29, left, v, (.int .i64 c), x33, x34, x35, x36, x37], defers := [] } w' := by
    intro w' hz
    refine any_step [0] (by kernel_rfl) (by simp) fun i hi => ?_
    obtain rfl : i = 0 := by simpa using hi
    exact hF.opAt (o := mo0) rfl rfl (fun c hc => by cases hc) (wp_val (ex_load rfl (hld _ (hw' w' hz))) (G4 w' hz))
  have G3b : wpAnyIn (Fence.wide.inRound l) n Tryz.prog .any mops Q 3 #[true, true, true, false, false, false] { tmps := #[x0, x1, x2, x3, x4, x5, x6, x7, x8, (.pointer (some ⟨L, 0, none⟩)), v, x11, x12, x13, x14, x15, x16, x17, x18, x19, x20, x21, x22, x23, x24, x25, x26, x27, x28, left, left, v, x32, x33, x34, x35, x36, x37], defers := [] } w.drew := by
    refine any_step [3] (by kernel_rfl) (by simp) fun i hi => ?_
    obtain rfl : i = 3 := by simpa using hi
    exact hF.opAt (o := mo3) rfl rfl (fun c hc => by cases hc) (hcp _ _ rfl rfl G4)
  have G2 : wpAnyIn (Fence.wide.inRound l) n Tryz.prog .any mops Q 4 #[false, true, true, false, false, false] { tmps := #[x0, x1, x2, x3, x4, x5, x6, x7, x8, (.pointer (some ⟨L, 0, none⟩)), v, x11, x12, x13, x14, x15, x16, x17, x18, x19, x20, x21, x22, x23, x24, x25, x26, x27, x28, x29, left, v, x32, x33, x34, x35, x36, x37], defers := [] } w.drew := by
    refine any_step [0, 3] (by kernel_rfl) (by simp) fun i hi => ?_
    have hi' : i = 0 ∨ i = 3 := by simpa using hi
    rcases hi' with rfl | rfl
    · exact hF.opAt (o := mo0) rfl rfl (fun c hc => by cases hc) (wp_val (ex_load rfl (hld _ hw)) G3b)
    · exact hF.opAt (o := mo3) rfl rfl (fun c hc => by cases hc) (hcp _ _ rfl rfl G3a)
  have G2a : wpAnyIn (Fence.wide.inRound l) n Tryz.prog .any mops Q 4 #[true, true, false, false, false, false] { tmps := #[x0, x1, x2, x3, x4, x5, x6, x7, x8, (.pointer (some ⟨L, 0, none⟩)), v, x11, x12, x13, x14, x15, x16, x17, x18, x19, x20, x21, x22, x23, x24, x25, x26, x27, x28, left, left, x31, x32, x33, x34, x35, x36, x37], defers := [] } w.drew := by
    refine any_step [2] (by kernel_rfl) (by simp) fun i hi => ?_
    obtain rfl : i = 2 := by simpa using hi
    exact hF.opAt (o := mo2) rfl rfl (fun c hc => by cases hc) (wp_val (ex_move rfl) G3b)
  have G2b : wpAnyIn (Fence.wide.inRound l) n Tryz.prog .any mops Q 4 #[true, false, true, false, false, false] { tmps := #[x0, x1, x2, x3, x4, x5, x6, x7, x8, (.pointer (some ⟨L, 0, none⟩)), v, x11, x12, x13, x14, x15, x16, x17, x18, x19, x20, x21, x22, x23, x24, x25, x26, x27, x28, left, x30, v, x32, x33, x34, x35, x36, x37], defers := [] } w.drew := by
    refine any_step [1] (by kernel_rfl) (by simp) fun i hi => ?_
    obtain rfl : i = 1 := by simpa using hi
    exact hF.opAt (o := mo1) rfl rfl (fun c hc => by cases hc) (wp_val (ex_load rfl (hld _ hw)) G3b)
  have G1a : wpAnyIn (Fence.wide.inRound l) n Tryz.prog .any mops Q 5 #[true, false, false, false, false, false] { tmps := #[x0, x1, x2, x3, x4, x5, x6, x7, x8, (.pointer (some ⟨L, 0, none⟩)), v, x11, x12, x13, x14, x15, x16, x17, x18, x19, x20, x21, x22, x23, x24, x25, x26, x27, x28, left, x30, x31, x32, x33, x34, x35, x36, x37], defers := [] } w.drew := by
    refine any_step [1, 2] (by kernel_rfl) (by simp) fun i hi => ?_
    have hi' : i = 1 ∨ i = 2 := by simpa using hi
    rcases hi' with rfl | rfl
    · exact hF.opAt (o := mo1) rfl rfl (fun c hc => by cases hc) (wp_val (ex_load rfl (hld _ hw)) G2a)
    · exact hF.opAt (o := mo2) rfl rfl (fun c hc => by cases hc) (wp_val (ex_move rfl) G2b)
  have G1b : wpAnyIn (Fence.wide.inRound l) n Tryz.prog .any mops Q 5 #[false, true, false, false, false, false] { tmps := #[x0, x1, x2, x3, x4, x5, x6, x7, x8, (.pointer (some ⟨L, 0, none⟩)), v, x11, x12, x13, x14, x15, x16, x17, x18, x19, x20, x21, x22, x23, x24, x25, x26, x27, x28, x29, left, x31, x32, x33, x34, x35, x36, x37], defers := [] } w.drew := by
    refine any_step [0, 2] (by kernel_rfl) (by simp) fun i hi => ?_
    have hi' : i = 0 ∨ i = 2 := by simpa using hi
    rcases hi' with rfl | rfl
    · exact hF.opAt (o := mo0) rfl rfl (fun c hc => by cases hc) (wp_val (ex_load rfl (hld _ hw)) G2a)
    · exact hF.opAt (o := mo2) rfl rfl (fun c hc => by cases hc) (wp_val (ex_move rfl) G2)
  have G1c : wpAnyIn (Fence.wide.inRound l) n Tryz.prog .any mops Q 5 #[false, false, true, false, false, false] { tmps := #[x0, x1, x2, x3, x4, x5, x6, x7, x8, (.pointer (some ⟨L, 0, none⟩)), v, x11, x12, x13, x14, x15, x16, x17, x18, x19, x20, x21, x22, x23, x24, x25, x26, x27, x28, x29, x30, v, x32, x33, x34, x35, x36, x37], defers := [] } w.drew := by
    refine any_step [0, 1] (by kernel_rfl) (by simp) fun i hi => ?_
    have hi' : i = 0 ∨ i = 1 := by simpa using hi
    rcases hi' with rfl | rfl
    · exact hF.opAt (o := mo0) rfl rfl (fun c hc => by cases hc) (wp_val (ex_load rfl (hld _ hw)) G2b)
    · exact hF.opAt (o := mo1) rfl rfl (fun c hc => by cases hc) (wp_val (ex_load rfl (hld _ hw)) G2)
  have G0 : wpAnyIn (Fence.wide.inRound l) n Tryz.prog .any mops Q 6 #[false, false, false, false, false, false] { tmps := #[x0, x1, x2, x3, x4, x5, x6, x7, x8, (.pointer (some ⟨L, 0, none⟩)), v, x11, x12, x13, x14, x15, x16, x17, x18, x19, x20, x21, x22, x23, x24, x25, x26, x27, x28, x29, x30, x31, x32, x33, x34, x35, x36, x37], defers := [] } w.drew := by
    refine any_step [0, 1, 2] (by kernel_rfl) (by simp) fun i hi => ?_
    have hi' : i = 0 ∨ i = 1 ∨ i = 2 := by simpa using hi
    rcases hi' with rfl | rfl | rfl
    · exact hF.opAt (o := mo0) rfl rfl (fun c hc => by cases hc) (wp_val (ex_load rfl (hld _ hw)) G1a)
    · exact hF.opAt (o := mo1) rfl rfl (fun c hc => by cases hc) (wp_val (ex_load rfl (hld _ hw)) G1b)
    · exact hF.opAt (o := mo2) rfl rfl (fun c hc => by cases hc) (wp_val (ex_move rfl) G1c)
  exact wpIn_region_any (by kernel_rfl) G0
theorem ld_cell (W : World) (L : Nat) (left : Value) (h : W.cell? ⟨L, 0, none⟩ = some left) : (Instr.loadAt 22 (.pointer (some ⟨L, 0, none⟩))).run Tryz.prog W = .ok left W := by
  simp [go_sem, h]
theorem st_cell (W : World) (L : Nat) (left new : Value) (a : Option Addr) (n c : Nat) (hn : new = .slice a n c) (h : Blk 22 W L [left]) : (Instr.storeAt 22 (.pointer (some ⟨L, 0, none⟩)) new).run Tryz.prog W = .ok () (W.setCell ⟨L, 0, none⟩ new) := by
  have h0 := h.cell 0
  have h1 := h.frozen 0
  subst hn
  simp at h0
  simp [go_sem, h0, h1]
theorem sl_part (W : World) (M o r c : Nat) (hc : c ≤ r) : (Instr.sliceAt 22 (.slice (some ⟨M, o, none⟩) r r) (some (.int .i64 c)) none none).run Tryz.prog W = .ok (.slice (some ⟨M, if r = c then o else o + c, none⟩) (r - c) (r - c)) W := by
  have hcI : (c : Int) ≤ (r : Int) := by omega
  by_cases h : r = c
  · simp [go_sem, h]
  · simp [go_sem, Addr.add, hcI, h]
theorem wp_of_list {P : Program} {o : Oper} {b : Act} {w : World} {K : Act → World → Prop} {Q : Exit → Act → World → Prop} (hgd : o.guard = none) (h : ∀ (ops : Array Oper) (Q' : Exit → Act → World → Prop), (∀ a w, K a w → Q' .normal a w) → wpList P ops Q' [o] b w) : o.wp P b w K Q := by
  have h0 := h #[] (fun e a w => e = .normal ∧ K a w) (fun a w hk => ⟨rfl, hk⟩)
  unfold wpList at h0
  simp only [Region.wanted, hgd, if_true] at h0
  rcases h0 with h1 | ⟨_, a, w', h2, _⟩
  · unfold Oper.wp at h1 ⊢
    generalize (execOp b.eval o).run P w = r at *
    cases r with
    | ok x w' =>
      cases x with
      | value v => exact h1.2
      | skip => exact h1.2
      | defer d => exact h1.2
      | enter f args =>
        refine Calls.mono h1 fun e w'' he => ?_
        cases e with
        | returned v => exact he.2
        | panicked ch => exact absurd he.1 (by simp)
        | outgrown => obtain ⟨_, _, h2, _⟩ := he; cases h2
      | row r args => exact Rows.mono h1 fun v w'' he => he.2
      | _ => exact h1.elim
    | halt x w' =>
      cases x with
      | panic v => exact absurd h1.1 (by simp)
      | _ => exact h1.elim
  · cases h2
end Go.Proofs.YtjmiaakfdclfjaaGreatDoor.Sh
/-
  Rsa: bytes.Repeat of one byte ff.
-/
namespace Go.Proofs.YtjmiaakfdclfjaaGreatDoor
open Go.RowKit
set_option maxRecDepth 20000
theorem and_m32 (z : Int) (h0 : 0 ≤ z) (h1 : z ≤ 2048) : bits .and .u64 z 4294967295 = z := by
  have h : z < 4294967296 := by omega
  have e : bits .and .u64 z 4294967295 = z % 4294967296 := by
    have h2 : z < 18446744073709551616 := by omega
    go_bits2
  rw [e]; omega
theorem and_1m : bits .and .u64 1 4294967295 = 1 := by decide +kernel
theorem and_0m : bits .and .u64 0 4294967295 = 0 := by decide +kernel
set_option maxHeartbeats 1000000 in
theorem Mul64_one {w : World} (n : Nat) (hn : n ≤ 2048) : Calls Tryz.prog 91 #[.int .u64 1, .int .u64 n] w fun e w' => e = .returned (.tuple #[.int .u64 0, .int .u64 n]) ∧ w' = w := by
  have h1 := and_m32 n (by omega) (by omega)
  have h2 := and_1m
  have h3 := and_0m
  have h4 : (n : Int) / 4294967296 = 0 := by omega
  go_enter Tryz.func91, Tryz.ntmps91
  go_wp2
  go_ret2
  exact ⟨rfl, rfl⟩
set_option maxHeartbeats 1000000 in
theorem Mul_one {w : World} (n : Nat) (hn : n ≤ 2048) : Calls Tryz.prog 65 #[.int .u64 1, .int .u64 n] w fun e w' => e = .returned (.tuple #[.int .u64 0, .int .u64 n]) ∧ w' = w := by
  have HM : Hid (∀ w' : World, Calls Tryz.prog 91 #[.int .u64 1, .int .u64 n] w' fun e w'' => e = .returned (.tuple #[.int .u64 0, .int .u64 n]) ∧ w' = w'') := fun w' => (Mul64_one n hn).mono fun _ _ h => ⟨h.1, h.2.symm⟩
  go_enter Tryz.func65, Tryz.ntmps65
  go_wp2_with (go_at_call 91; refine (HM.out _).mono ?_; rintro e w' ⟨rfl, rfl⟩)
  go_ret2
  exact ⟨rfl, rfl⟩
/-- k bytes ff, then what lay there. -/
def ffs (CS : List Value) (k : Nat) : List Value := (List.replicate k (255 : Int)).map (Value.int .u8) ++ CS.drop k
theorem ffs_len {CS : List Value} {k : Nat} (h : k ≤ CS.length) : (ffs CS k).length = CS.length := by simp [ffs]; omega
theorem ffs_over {CS : List Value} {k c : Nat} : over (ffs CS k) k ((List.replicate c (255 : Int)).map (Value.int .u8)) = ffs CS (k + c) := by
  unfold over ffs
  have h1 : ((List.replicate k (255 : Int)).map (Value.int .u8)).length = k := by simp
  rw [List.take_append_of_le_length (by omega), List.take_of_length_le (by omega), List.drop_append]
  simp only [List.length_map, List.length_replicate]
  rw [List.drop_of_length_le (by simp), List.nil_append, show k + c - k = c by omega, List.drop_drop, ← List.append_assoc, ← List.map_append, List.replicate_append_replicate, Nat.add_comm k c]
theorem ffs_rd {w : World} {M : Nat} {CS : List Value} {k : Nat} (h : Blk 5 w M (ffs CS k)) : Rd .u8 w M 0 (List.replicate k 255) := by
  intro i hi
  simp only [List.length_replicate] at hi
  rw [Nat.zero_add, h.cell]
  unfold ffs
  rw [List.getElem?_append_left (by simp [hi])]
  simp [hi]
theorem step_cp {P : Program} {ops : Array Oper} {o : Oper} {a : Act} {w : World} {K : Act → World → Prop} {Q : Exit → Act → World → Prop} {E : Prop} (hgd : o.guard = none) (d s : Operand) (t : TypeId)
    (ho : o.op = .call { callee := .builtin .copy, args := #[d, s], argTypes := #[t, t] }) (k : IntKind) (e T : TypeId) (hu : P.underlying t = some (.slice e)) (hsz : (P.info? e).map (·.size) = some 1)
    (g off dLen dCap : Nat) (cs : List Value) (xs : List Int) (hA : Blk T w g cs) (v : Value) (hd : a.eval d = .slice (some ⟨g, off, none⟩) dLen dCap) (hs : a.eval s = v) (hx : Sl k w v xs)
    (n : Nat) (hn : n = Nat.min xs.length dLen) (hfit : off + n ≤ cs.length)
    (h : ∀ w', Blk T w' g (over cs off ((xs.take n).map (Value.int k))) → Upd w w' g → K (a.put o.dst (goInt n)) w') : if Region.wanted o (yielded ops a.tmps) = true then Oper.wp P o a w K Q else E := by
  have hw : Region.wanted o (yielded ops a.tmps) = true := by simp [Region.wanted, hgd]
  rw [if_pos hw]
  refine Sh.wp_of_list hgd fun ops Q' hKQ => ?_
  refine Sh.wpList_cpB hgd d s t ho k e T hu hsz g off dLen dCap cs xs hA v hd hs hx n hn hfit ?_
  intro w' h1 h2
  exact hKQ _ _ (h w' h1 h2)
set_option maxHeartbeats 4000000 in
theorem Repeat_any {w : World} (b : Nat) (hb : Arr .u8 5 w b [255]) (n : Nat) (hn1 : 1 ≤ n) (hn : n ≤ 2048) :
    Calls Tryz.prog 35 #[.slice (some ⟨b, 0, none⟩) 1 1, .int .i64 n] w fun e w' => ∃ M CS, e = .returned (.slice (some ⟨M, 0, none⟩) n n) ∧ w.heap.size ≤ M ∧ n ≤ CS.length ∧ Blk 5 w' M (ffs CS n) ∧ Below w.heap.size w w' := by
  have HM : Hid (∀ w' : World, Calls Tryz.prog 65 #[.int .u64 1, .int .u64 n] w' fun e w'' => e = .returned (.tuple #[.int .u64 0, .int .u64 n]) ∧ w' = w'') := fun w' => (Mul_one n hn).mono fun _ _ h => ⟨h.1, h.2.symm⟩
  have n0 : ((n : Int) == 0) = false := by simp; omega
  have hnI : (n : Int) ≤ 2048 := by omega
  have hn1I : (1 : Int) ≤ (n : Int) := by omega
  have d1 : decide ((n : Int) < 0) = false := by simp
  have d2 : decide ((9223372036854775807 : Int) < (n : Int)) = false := by simp; omega
  have d3 : decide ((8192 : Int) < (n : Int)) = false := by simp; omega
  obtain ⟨cs, hrunM, hle, _⟩ := Lib.run_makeNoZero (P := Tryz.prog) w #[3] 22 5 Tryz.und8 n (by omega)
  have hcall : (callFunc 66 #[.int .i64 (n : Int)]).run Tryz.prog w = .ok (.value (.slice (some ⟨w.heap.size, 0, none⟩) n cs.size)) ((w.alloc (.cells cs 5)).drewN 2) := by
    rw [run_callFunc_extern Tryz.func66 (by kernel_rfl) (by kernel_rfl) (by kernel_rfl) (e := Extern.BytealgMakeNoZero.makeNoZero #[3] #[22]) (by kernel_rfl), hrunM]
    rfl
  have hcsI : (n : Int) ≤ (cs.size : Int) := by omega
  have hbl := hb.lt
  have HB : Hid (Blk 5 ((w.alloc (.cells cs 5)).drewN 2) w.heap.size cs.toList ∧ Below w.heap.size w ((w.alloc (.cells cs 5)).drewN 2) ∧ Sl .u8 ((w.alloc (.cells cs 5)).drewN 2) (.slice (some ⟨b, 0, none⟩) 1 1) [255]) := by
    have h1 := Blk.new 5 w cs.toList
    have h2 : Below w.heap.size w ((w.alloc (.cells cs 5)).drewN 2) := below_drewN 2 (al1 _)
    have h3 : Blk 5 (w.alloc (.cells cs 5)) w.heap.size cs.toList := by simpa using h1
    exact ⟨h3.drewN 2, h2, below_sl h2 hb.sl⟩
  clear hrunM hb
  go_enter Tryz.func35, Tryz.ntmps35
  go_wp2_with (first
    | (go_at_call 65; refine (HM.out _).mono ?_; rintro e w' ⟨rfl, rfl⟩)
    | (refine Sh.wpList_cpB rfl (.tmp 58) (.tmp 59) 22 rfl .u8 5 5 Tryz.und8 Sh.Tryz.one8 w.heap.size 0 n n cs.toList [255] HB.out.1 (.slice (some ⟨b, 0, none⟩) 1 1) rfl rfl HB.out.2.2 1 (by have : Nat.min 1 n = 1 := Nat.min_eq_left hn1; exact this.symm) (by simp; omega) ?_; intro w1 hb1 hu1; have H1 : Hid (Blk 5 w1 w.heap.size (ffs cs.toList 1) ∧ Below w.heap.size w w1) := ⟨by have := hb1; simpa [over, ffs] using this, hu1.below HB.out.2.1 HB.out.2.1.size (Nat.le_refl _)⟩; clear hb1 hu1))
  clear hcall HB hbl
  go_loopw [10] (fun kv wr => ∃ k : Nat, kv = .int .i64 k ∧ 1 ≤ k ∧ k ≤ n ∧ Blk 5 wr w.heap.size (ffs cs.toList k) ∧ Below w.heap.size w wr) (fun kv _ => n - (intOf kv).toNat)
  case atStart => exact ⟨1, rfl, by omega, hn1, H1.out⟩
  case round =>
    obtain ⟨k, rfl, hk1, hkn, hB, hBw⟩ := hrel
    by_cases hlt : k < n
    · have hkI : (k : Int) < (n : Int) := by omega
      have hkI2 : (k : Int) ≤ (n : Int) := by omega
      have hkn2 : ¬ k = n := by omega
      have hnk2 : ¬ n = k := by omega
      have HR : Hid (Blk 5 wr w.heap.size (ffs cs.toList k) ∧ Below w.heap.size w wr) := ⟨hB, hBw⟩
      obtain ⟨c, hc⟩ : ∃ c, Nat.min k (n - k) = c := ⟨_, rfl⟩
      have hc1 : 1 ≤ c ∧ c ≤ k ∧ c ≤ n - k := by
        rw [← hc]
        refine ⟨?_, Nat.min_le_left _ _, Nat.min_le_right _ _⟩
        rcases Nat.le_total k (n - k) with h | h
        · have e : Nat.min k (n - k) = k := Nat.min_eq_left h
          omega
        · have e : Nat.min k (n - k) = n - k := Nat.min_eq_right h
          omega
      have HC : Hid (Nat.min k (n - k) = c) := hc
      have HSl : Hid (Sl .u8 wr (.slice (some ⟨w.heap.size, 0, none⟩) k n) (List.replicate k 255)) := ⟨some ⟨w.heap.size, 0, none⟩, n, by simp, by simp; omega, .inr ⟨w.heap.size, 0, rfl, hB.lt, ffs_rd hB⟩⟩
      have HOv : Hid (∀ W : World, Blk 5 W w.heap.size (over (ffs cs.toList k) k (((List.replicate k (255 : Int)).take c).map (Value.int .u8))) → Blk 5 W w.heap.size (ffs cs.toList (k + c))) := fun W h => by
        have e : (List.replicate k (255 : Int)).take c = List.replicate c 255 := by simp [Nat.min_eq_left hc1.2.1]
        rw [e, ffs_over] at h; exact h
      clear hc hB hBw
      go_upto_region 20 with fail
      go_region_held3 (fun _ => True) (trivial) ((refine step_cp (by rfl) (.tmp 70) (.tmp 73) 22 (by rfl) .u8 5 5 Tryz.und8 Sh.Tryz.one8 w.heap.size k (n - k) (n - k) (ffs cs.toList k) (List.replicate k 255) (by exact HR.out.1) (.slice (some ⟨w.heap.size, 0, none⟩) k n) (by rfl) (by rfl) (by exact HSl.out) c (by rw [List.length_replicate]; exact HC.out.symm) (by rw [ffs_len (by simp; omega)]; simp; omega) ?_; intro w2 hb2 hu2; have H2 : Hid (Blk 5 w2 w.heap.size (ffs cs.toList (k + c)) ∧ Below w.heap.size w w2) := ⟨HOv.out _ hb2, hu2.below (by exact HR.out.2.drew) (by exact HR.out.2.size) (Nat.le_refl _)⟩; clear hb2 hu2))
      have hwr : IntKind.i64.wrap ((k : Int) + (c : Int)) = ((k + c : Nat) : Int) := by rw [IntKind.wrap_i64]; omega
      simp only [hwr, Exit.inBlock]
      go_roundw
      case rel => exact ⟨_, _, _, _, _, _, _, _, _, _, _, _, _, _, _, _, _, ⟨k + c, rfl, by omega, by omega, H2.out⟩, rfl⟩
      case measure => simp [intOf]; omega
    · obtain rfl : k = n := by omega
      have HR : Hid (Blk 5 wr w.heap.size (ffs cs.toList k) ∧ Below w.heap.size w wr) := ⟨hB, hBw⟩
      clear hB hBw
      go_wp2
      go_ret
      exact ⟨w.heap.size, cs.toList, rfl, Nat.le_refl _, by simpa using hle, HR.out⟩
end Go.Proofs.YtjmiaakfdclfjaaGreatDoor
/-
  Rsa: Pad: a digest filled up.
-/
namespace Go.Proofs.YtjmiaakfdclfjaaGreatDoor
open Go.RowKit
set_option maxRecDepth 20000
theorem siz_pos {alg : Int} : 0 < Sh.siz alg ↔ Alg4 alg := by
  unfold Sh.siz Alg4
  by_cases h1 : alg = 1
  · subst h1; simp
  by_cases h2 : alg = 2
  · subst h2; simp
  by_cases h3 : alg = 3
  · subst h3; simp
  by_cases h4 : alg = 4
  · subst h4; simp
  simp [h1, h2, h3, h4]
def isD (alg : Int) (len : Nat) : Bool := decide (0 < Sh.siz alg ∧ len = Sh.siz alg)
set_option maxHeartbeats 1000000 in
theorem isDigest_any {w : World} (alg : Int) (a : Option Addr) (len cap : Nat) : Calls Tryz.prog 22 #[.int .i64 alg, .slice a len cap] w fun e w' => e = .returned (.bool (isD alg len)) ∧ w' = w := by
  obtain ⟨z, hz⟩ : ∃ z, Sh.siz alg = z := ⟨_, rfl⟩
  have HSz : Hid (∀ w' : World, Calls Tryz.prog 23 #[.int .i64 alg] w' fun e w'' => e = .returned (.int .i64 z) ∧ w' = w'') := fun w' => (Sh.Size_any alg).mono fun _ _ h => ⟨by rw [h.1, hz], h.2.symm⟩
  have HE : Hid (isD alg len = decide (0 < z ∧ len = z)) := by unfold isD; rw [hz]; rfl
  clear hz
  by_cases h0 : z = 0
  · subst h0
    go_enter Tryz.func22, Tryz.ntmps22
    go_wp2_with (go_at_call 23; refine (HSz.out _).mono ?_; rintro e w' ⟨rfl, rfl⟩)
    go_ret
    exact ⟨by rw [HE.out]; simp, rfl⟩
  · have hI : (0 : Int) < (z : Int) := by omega
    by_cases hl : len = z
    · have hb : ((len : Int) == (z : Int)) = true := by simp [hl]
      go_enter Tryz.func22, Tryz.ntmps22
      go_wp2_with (go_at_call 23; refine (HSz.out _).mono ?_; rintro e w' ⟨rfl, rfl⟩)
      go_ret
      exact ⟨by rw [HE.out]; simp [hl]; omega, rfl⟩
    · have hb : ((len : Int) == (z : Int)) = false := by simp; omega
      go_enter Tryz.func22, Tryz.ntmps22
      go_wp2_with (go_at_call 23; refine (HSz.out _).mono ?_; rintro e w' ⟨rfl, rfl⟩)
      go_ret
      exact ⟨by rw [HE.out]; simp [hl], rfl⟩
/-- A digest filled up to n bytes. -/
def padB (alg : Int) (X : List Int) (n : Nat) : List Int := 0 :: 1 :: (List.replicate (n - (namB alg X).length - 3) 255 ++ 0 :: namB alg X)
theorem padB_len {alg : Int} {X : List Int} {n : Nat} (h : (namB alg X).length + 11 ≤ n) : (padB alg X n).length = n := by simp [padB]; omega
theorem pad_cells {alg : Int} {X : List Int} {n : Nat} {CS : List Value} (h : (namB alg X).length + 11 ≤ n) :
    over ((((ffs CS n).set 0 (.int .u8 0)).set 1 (.int .u8 1)).set (n - (namB alg X).length - 1) (.int .u8 0)) (n - (namB alg X).length) ((namB alg X).map (Value.int .u8)) = (padB alg X n).map (Value.int .u8) ++ CS.drop n := by
  obtain ⟨T, hT⟩ : ∃ T, namB alg X = T := ⟨_, rfl⟩
  unfold padB
  rw [hT] at h ⊢
  obtain ⟨j, hj⟩ : ∃ j, n = T.length + 3 + j := ⟨n - T.length - 3, by omega⟩
  rw [show n - T.length - 1 = j + 2 by omega, show n - T.length = j + 3 by omega, show j + 3 - 3 = j by omega]
  have e1 : ffs CS n = .int .u8 255 :: .int .u8 255 :: ((List.replicate j (255 : Int)).map (Value.int .u8) ++ .int .u8 255 :: ((List.replicate T.length (255 : Int)).map (Value.int .u8) ++ CS.drop n)) := by
    unfold ffs
    rw [show n = 1 + 1 + j + 1 + T.length by omega, ← List.replicate_append_replicate, ← List.replicate_append_replicate, ← List.replicate_append_replicate, ← List.replicate_append_replicate]
    simp
  rw [e1]
  simp only [List.set_cons_zero, List.set_cons_succ]
  rw [List.set_append_right _ _ (by simp)]
  simp only [List.length_map, List.length_replicate, Nat.sub_self, List.set_cons_zero]
  unfold over
  simp only [List.take_succ_cons, List.length_map, List.map_cons, List.map_append, List.cons_append]
  have e2 : (List.map (Value.int .u8) (List.replicate j (255 : Int)) ++ .int .u8 0 :: (List.map (Value.int .u8) (List.replicate T.length (255 : Int)) ++ CS.drop n)).take (j + 1) = List.map (Value.int .u8) (List.replicate j (255 : Int)) ++ [.int .u8 0] := by
    rw [List.take_append]; simp
  have e3 : (Value.int .u8 0 :: Value.int .u8 1 :: (List.map (Value.int .u8) (List.replicate j (255 : Int)) ++ .int .u8 0 :: (List.map (Value.int .u8) (List.replicate T.length (255 : Int)) ++ CS.drop n))).drop (j + 3 + T.length) = CS.drop n := by
    rw [show j + 3 + T.length = (j + 1 + T.length) + 2 by omega]
    simp only [List.drop_succ_cons]
    rw [List.drop_append, List.drop_of_length_le (by simp; omega)]
    simp only [List.length_map, List.length_replicate, List.nil_append]
    rw [show j + 1 + T.length - j = T.length + 1 by omega, List.drop_succ_cons, List.drop_append]
    simp
  rw [e2, e3]
  simp
end Go.Proofs.YtjmiaakfdclfjaaGreatDoor
/-
  Rsa: Pad, walked.
-/
namespace Go.Proofs.YtjmiaakfdclfjaaGreatDoor
open Go.RowKit
set_option maxRecDepth 20000
theorem pad_sl {w : World} {M n : Nat} {X : List Int} {R : List Value} (h : Blk 5 w M (X.map (Value.int .u8) ++ R)) (hl : X.length = n) : Sl .u8 w (.slice (some ⟨M, 0, none⟩) n n) X := by
  refine ⟨some ⟨M, 0, none⟩, n, by rw [hl], by omega, .inr ⟨M, 0, rfl, h.lt, fun i hi => ?_⟩⟩
  rw [Nat.zero_add, h.cell, List.getElem?_append_left (by simpa using hi)]
  simp [hi]
theorem isD_len {alg : Int} {len : Nat} (h : isD alg len = true) : Alg4 alg ∧ len = Sh.siz alg ∧ len ≤ 64 := by
  unfold isD at h
  simp only [decide_eq_true_eq] at h
  exact ⟨siz_pos.1 h.1, h.2, by rw [h.2]; exact Sh.siz_le alg⟩
end Go.Proofs.YtjmiaakfdclfjaaGreatDoor
