/-
  Digest: the walk of word32: four bytes of a block, the highest first.
-/
import Derived.Test.YtgipmjpkaemdkaaDoorG1
namespace Go.Proofs.YtgipmjpkaemdkaaDoor
open Go.RowKit

def U8 (x : Int) : Prop := 0 ≤ x ∧ x < 256
def U8s (xs : List Int) : Prop := ∀ x ∈ xs, U8 x
theorem U8s.at {xs : List Int} (h : U8s xs) (i : Nat) : U8 (xs.getD i 0) := by
  by_cases hi : i < xs.length
  · simp [hi]; exact h _ (List.getElem_mem hi)
  · simp [List.getD, List.getElem?_eq_none (Nat.le_of_not_lt hi), U8]
/-- The word t of a block. -/
def wd32 (bs : List Int) (t : Nat) : Int := bs.getD (4 * t) 0 * 16777216 + bs.getD (4 * t + 1) 0 * 65536 + bs.getD (4 * t + 2) 0 * 256 + bs.getD (4 * t + 3) 0
theorem wd32_u32 {bs : List Int} (h : U8s bs) (t : Nat) : U32 (wd32 bs t) := by
  have h0 := h.at (4 * t); have h1 := h.at (4 * t + 1); have h2 := h.at (4 * t + 2); have h3 := h.at (4 * t + 3)
  unfold U8 at h0 h1 h2 h3
  unfold wd32 U32; omega
theorem or_hi (s : Nat) (x y : Int) (hx0 : 0 ≤ x) (hx : x * 2 ^ s < 4294967296) (hy0 : 0 ≤ y) (hy : y < 2 ^ s) (hs : s ≤ 32) : bits .or .u32 (x * 2 ^ s) y = x * 2 ^ s + y := by
  obtain ⟨a, rfl⟩ := Int.eq_ofNat_of_zero_le hx0
  obtain ⟨b, rfl⟩ := Int.eq_ofNat_of_zero_le hy0
  have e : ((a * 2 ^ s : Nat) : Int) = (a : Int) * 2 ^ s := by simp
  have hb : b < 2 ^ s := by
    have : ((b : Nat) : Int) < ((2 ^ s : Nat) : Int) := by rw [Int.natCast_pow]; exact hy
    exact Int.ofNat_lt.1 this
  have ha : a * 2 ^ s < 2 ^ 32 := by
    have : ((a * 2 ^ s : Nat) : Int) < ((2 ^ 32 : Nat) : Int) := by rw [e]; exact hx
    exact Int.ofNat_lt.1 this
  have hb2 : b < 2 ^ 32 := Nat.lt_of_lt_of_le hb (Nat.pow_le_pow_right (by decide) hs)
  have h := (bits_nat .u32 32 (by decide) (fun n h₀ h₁ => by rw [IntKind.wrap_u32']; omega) (a * 2 ^ s) b ha hb2).2
  rw [e] at h
  rw [h, Nat.mul_comm a, ← Nat.two_pow_add_eq_or_of_lt hb a, Nat.mul_comm, Int.natCast_add, e]

set_option maxHeartbeats 1000000 in
theorem word32_any {w : World} (b off len c : Nat) (bs : List Int) (hr : Rd .u8 w b off bs) (ub : U8s bs) (t : Nat) (hlen : bs.length ≤ len) (hlc : len ≤ c) (ht : 4 * t + 4 ≤ bs.length) (hc : bs.length ≤ 1024) :
    Calls Tryd.prog 57 #[.slice (some ⟨b, off, none⟩) len c, .int .i64 t] w fun e w' => e = .returned (.int .u32 (wd32 bs t)) ∧ ∃ q, w' = w.drewN q := by
  obtain ⟨x0, h0⟩ : ∃ x, bs.getD (4 * t) 0 = x := ⟨_, rfl⟩
  obtain ⟨x1, h1⟩ : ∃ x, bs.getD (4 * t + 1) 0 = x := ⟨_, rfl⟩
  obtain ⟨x2, h2⟩ : ∃ x, bs.getD (4 * t + 2) 0 = x := ⟨_, rfl⟩
  obtain ⟨x3, h3⟩ : ∃ x, bs.getD (4 * t + 3) 0 = x := ⟨_, rfl⟩
  have u0 : U8 x0 := h0 ▸ ub.at _
  have u1 : U8 x1 := h1 ▸ ub.at _
  have u2 : U8 x2 := h2 ▸ ub.at _
  have u3 : U8 x3 := h3 ▸ ub.at _
  obtain ⟨a01, a02⟩ := u0
  obtain ⟨a11, a12⟩ := u1
  obtain ⟨a21, a22⟩ := u2
  obtain ⟨a31, a32⟩ := u3
  have c0 : w.cell? ⟨b, off + 4 * t, none⟩ = some (.int .u8 x0) := by rw [hr (4 * t) (by omega), h0]
  have c1 : w.cell? ⟨b, off + 4 * t + 1, none⟩ = some (.int .u8 x1) := by rw [Nat.add_assoc, hr (4 * t + 1) (by omega), h1]
  have c2 : w.cell? ⟨b, off + 4 * t + 2, none⟩ = some (.int .u8 x2) := by rw [Nat.add_assoc, hr (4 * t + 2) (by omega), h2]
  have c3 : w.cell? ⟨b, off + 4 * t + 3, none⟩ = some (.int .u8 x3) := by rw [Nat.add_assoc, hr (4 * t + 3) (by omega), h3]
  have HW : Hid (wd32 bs t = x0 * 16777216 + x1 * 65536 + x2 * 256 + x3) := by unfold wd32; rw [h0, h1, h2, h3]; rfl
  have e1 : bits .or .u32 (x0 * 16777216) (x1 * 65536) = x0 * 16777216 + x1 * 65536 := or_hi 24 x0 (x1 * 65536) a01 (by omega) (by omega) (by omega) (by decide)
  have e2 : bits .or .u32 (x0 * 16777216 + x1 * 65536) (x2 * 256) = x0 * 16777216 + x1 * 65536 + x2 * 256 := by
    have := or_hi 16 (x0 * 256 + x1) (x2 * 256) (by omega) (by omega) (by omega) (by omega) (by decide)
    have e : (x0 * 256 + x1) * 2 ^ 16 = x0 * 16777216 + x1 * 65536 := by omega
    rw [e] at this; exact this
  have e3 : bits .or .u32 (x0 * 16777216 + x1 * 65536 + x2 * 256) x3 = x0 * 16777216 + x1 * 65536 + x2 * 256 + x3 := by
    have := or_hi 8 (x0 * 65536 + x1 * 256 + x2) x3 (by omega) (by omega) (by omega) (by omega) (by decide)
    have e : (x0 * 65536 + x1 * 256 + x2) * 2 ^ 8 = x0 * 16777216 + x1 * 65536 + x2 * 256 := by omega
    rw [e] at this; exact this
  have hne : ¬ c = 4 * t := by omega
  clear h0 h1 h2 h3 hr ub
  go_enter Tryd.func57, Tryd.ntmps57
  go_upto_region 2 with (fail)
  go_quiet (fail)
  go_wp2
  go_ret
  exact ⟨by rw [HW.out]; rfl, _, rfl⟩
end Go.Proofs.YtgipmjpkaemdkaaDoor
