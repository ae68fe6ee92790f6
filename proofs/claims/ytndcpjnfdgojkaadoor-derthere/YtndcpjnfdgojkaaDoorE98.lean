/-
  Der: of the reference: Digits, Trim (picked from W33, W37 by pick.py).
-/
import Derived.Test.YtndcpjnfdgojkaaDoorE89
import Derived.Deep.RegionHeld3
namespace Go.Proofs.YtndcpjnfdgojkaaDoor
open Go.RowKit
theorem and16 (x : Int) (h0 : 0 ≤ x) (h1 : x < 4294967296) : bits BinOp.and .u32 x 65535 = x % 65536 := by go_bits2
set_option maxHeartbeats 2000000 in
theorem Digits_any {w : World} (v : Value) (X : List Int) (hX : Sl .u32 w v X) (uX : U32s X) (hl : X.length ≤ 8796093022208) (N : Int) (hN : val X = N) :
    Calls Tryd.prog 55 #[v] w fun e w' => ∃ r, e = .returned r ∧ Sl .u64 w' r (D.lim N.toNat) ∧ Below w.heap.size w w' := by
  have hX0 := hX
  obtain ⟨a, c, hv, hc⟩ := hX.len
  subst hv
  have HN : Hid (val X = N) := hN
  clear hN
  go_enter Tryd.func55, Tryd.ntmps55
  go_wp2
  go_loopw [3, 4] (fun o i wr => ∃ k : Nat, k ≤ X.length ∧ i = .int .i64 k ∧ Row .u64 81 w.heap.size wr o (split (X.take k)) ∧ Below w.heap.size w wr) (fun _ i _ => X.length - (intOf i).toNat)
  case atStart => exact ⟨0, by omega, rfl, Row.nil _ _ _ _, Below.refl _ _⟩
  case round =>
    obtain ⟨k, hk, rfl, hrow, hBt⟩ := hrel
    by_cases hlt : k < X.length
    · obtain ⟨x, hx⟩ : ∃ x, X.getD k 0 = x := ⟨_, rfl⟩
      have ux : U32 x := hx ▸ uX.at k
      obtain ⟨ux1, ux2⟩ := ux
      obtain ⟨b, off, ha, hb, hr⟩ : ∃ b off, a = some ⟨b, off, none⟩ ∧ b < w.heap.size ∧ Rd .u32 w b off X := by
        obtain ⟨a', c', h1, _, h2⟩ := hX0
        cases h1
        rcases h2 with rfl | ⟨b, off, rfl, hb, hr⟩
        · simp at hlt
        · exact ⟨b, off, rfl, hb, hr⟩
      subst ha
      have hcx : wr.cell? ⟨b, off + k, none⟩ = some (.int .u32 x) := by rw [hBt.cell hb, hr k hlt, hx]
      have e1 := and16 x ux1 ux2
      have hw1 : IntKind.u64.wrap (x % 65536) = x % 65536 := by rw [IntKind.wrap_u64]; omega
      have hw2 : IntKind.u64.wrap (x / 65536) = x / 65536 := by rw [IntKind.wrap_u64]; omega
      have HH : Hid (X.getD k 0 = x ∧ Below w.heap.size w wr) := ⟨hx, hBt⟩
      have hsz : w.heap.size ≤ wr.heap.size := hBt.size
      have hlen : (split (X.take k)).length = 2 * k := by rw [split_length]; simp; omega
      have HL : Hid ((split (X.take k)).length = 2 * k) := hlen
      have hk0 : (0 : Int) ≤ (k : Int) := by omega
      have hkl : (k : Int) < (X.length : Int) := by omega
      clear hx hr hX hX0 hBt hlen
      go_wp2
      go_region_held3 (fun w' => w'.cell? ⟨b, off + k, none⟩ = some (.int .u32 x)) (first | go_keep | (rw [hB1.cell hb]; go_keep))
        ((refine step_ap (by rfl) (.tmp 11) (.tmp 24) 83 83 (by rfl) .u64 81 8 Tryd.und64 Tryd.info64 (by decide) w.heap.size _ (split (X.take k)) (by rfl) (Row.alloc (by assumption) _) _ [x % 65536, x / 65536] (by rfl) (src_sl Tryd.und64 (Arr.sl64 (S := [x % 65536, x / 65536]) (arr_new rfl rfl))) (by rw [HL.out]; show (2 * k + 2) * 8 ≤ _; omega) (by simp; omega) ?_; intro v1 w1 hr1 hg1; have hB1 := hg1.below (Row.alloc (by assumption) _) (by simp; omega)))
      all_goals go_wp2
      go_roundw
      case rel =>
        obtain ⟨hx, hBt⟩ := HH.out
        refine ⟨k + 1, by omega, by go_num, ?_, (al hBt).drew.trans hB1⟩
        rw [split_snoc X hlt, hx]; exact hr1
      case measure => simp [intOf]; omega
    · have hfull : X.take k = X := List.take_of_length_le (by omega)
      rw [hfull] at hrow
      have hs := hrow.sl
      clear hfull hX hX0 hrow
      go_wp2_with (go_at_call 65; refine (plain_sl _ (split X) hs (split_u16 uX) (by rw [split_length]; omega) N (by rw [split_val]; exact HN.out)).mono ?_; rintro e w' ⟨r, rfl, hr, rfl⟩)
      go_ret
      exact ⟨r, rfl, hr, hBt⟩
theorem pow16_32 (n : Nat) : (65536 : Int) ^ (2 * n) = 4294967296 ^ n := by rw [Int.pow_mul]; rfl
theorem RTrim_any {w : World} (v : Value) (X : List Int) (hX : Sl .u32 w v X) (uX : U32s X) (hl : X.length ≤ 268435456) (N : Int) (hN : val X = N) :
    Calls Tryd.prog 34 #[v] w fun e w' => ∃ r, e = .returned r ∧ Sl .u32 w' r (lim N.toNat) ∧ Below w.heap.size w w' := by
  have nN : 0 ≤ N := hN ▸ val_nonneg uX
  have bX := val_lt uX
  rw [hN] at bX
  have dN : (D.lim N.toNat).length ≤ 2 * X.length := D.lim_fits nN (by rw [pow16_32]; exact bX)
  have HX : Hid (val X = N) := hN
  have HV : Hid (D.val (D.lim N.toNat) = N) := D.val_limI nN
  have hBt : Below w.heap.size w w := Below.refl _ _
  clear hN bX nN
  go_enter Tryd.func34, Tryd.ntmps34
  go_wp2_with (first
    | (go_at_call 55; refine (Digits_any _ X hX uX (by omega) N HX.out).mono ?_; rintro e w' ⟨p, rfl, hp, hB⟩; replace hBt := grow0 hBt hB)
    | (go_at_call 54; refine (Limbs_any _ _ hp (D.lim_u16 _) (by omega) N HV.out).mono ?_; rintro e w' ⟨o, rfl, ho, hB⟩; replace hBt := grow0 hBt hB))
  go_ret
  exact ⟨_, rfl, ho, hBt⟩
end Go.Proofs.YtndcpjnfdgojkaaDoor
