/-
  Ber: Parse; rows of elements that are read.
-/
import Derived.Test.YtefebamomdcaaaaGreatDoorK16
namespace Go.Proofs.YtefebamomdcaaaaGreatDoor
open Go.RowKit
/-- What Parse answers. -/
def PsOut (B : Nat) (w : World) (e : Ending) (n : Nat) : Tr → Prop
  | .inl (er, a) => e = .returned (.tuple #[.slice none 0 0, .int .i64 er, .int .i64 (a : Int)])
  | .inr L => ∃ v, e = .returned (.tuple #[v, .int .i64 0, .int .i64 (n : Int)]) ∧ Elems B w v L
set_option maxHeartbeats 1000000 in
theorem Parse_any {w : World} (hG : GlbE w) (v : Value) (M : List Int) (hv : Sl .u8 w v M) (uM : U8s M) (hl : M.length ≤ 9223372036854775807) :
    Calls Tryz.prog 11 #[v] w fun e w' => PsOut w.heap.size w' e M.length (parseS M) ∧ Below w.heap.size w w' := by
  have HX : Hid (GlbE w ∧ Sl .u8 w v M ∧ U8s M) := ⟨hG, hv, uM⟩
  obtain ⟨n, hn⟩ : ∃ n, M.length = n := ⟨_, rfl⟩
  obtain ⟨a, c, rfl⟩ : ∃ a c, v = .slice a n c := by obtain ⟨a, c, h, _⟩ := hv; exact ⟨a, c, by rw [h, hn]⟩
  have HN : Hid (M.length = n) := hn
  rw [hn]
  obtain ⟨O, hO⟩ : ∃ O, parseS M = O := ⟨_, rfl⟩
  have HO : Hid (parseS M = O) := hO
  rw [hO]
  clear hO
  have hnI : (n : Int) ≤ 9223372036854775807 := by omega
  clear hG hv uM hn hl
  go_enter Tryz.func11, Tryz.ntmps11
  go_wp2_with fail
  refine (parse_any (.slice a n c) M HX.out.2.1 HX.out.2.2 (by have := HN.out; omega)).mono ?_
  rintro e w1 ⟨h1, hb⟩
  have HB : Hid (Below w.heap.size w w1) := hb
  clear hb
  rw [HO.out] at h1
  clear HO
  cases O with
  | inl ea =>
    obtain ⟨er, at_⟩ := ea
    unfold PrOut at h1
    subst h1
    go_wp2_with fail
    refine (told_spot (HX.out.1.below HB.out) er at_).mono ?_
    rintro e w2 ⟨rfl, hb⟩
    have H2 : Hid (Below w.heap.size w w2) := HB.out.trans (hb.mono HB.out.size)
    clear hb
    go_wp2
    go_ret3
    exact ⟨rfl, H2.out⟩
  | inr L =>
    unfold PrOut at h1
    obtain ⟨r, rfl, hE⟩ := h1
    have HE : Hid (Elems w.heap.size w1 r L) := hE
    clear hE
    go_wp2
    go_ret3
    exact ⟨⟨r, rfl, HE.out⟩, HB.out⟩
/-- A slice reads a row of elements. -/
def ElS (w : World) (v : Value) (L : List Te) : Prop :=
  ∃ a c Y, v = .slice a L.length c ∧ L.length ≤ c ∧ Y.map (·.1) = L ∧ (L = [] ∨ ∃ b off, a = some ⟨b, off, none⟩ ∧ b < w.heap.size ∧ ∀ i, i < L.length * 5 → w.cell? ⟨b, off + i, none⟩ = (elCells Y)[i]?) ∧ ∀ y ∈ Y, Sl .u8 w y.2 y.1.d
theorem Elems.s {B : Nat} {w : World} {v : Value} {L : List Te} (h : Elems B w v L) : ElS w v L := by
  obtain ⟨Y, h1, h2, h3, _⟩ := h
  have hl : Y.length = L.length := by rw [← h1, List.length_map]
  rw [hl] at h2
  obtain ⟨h0, h2⟩ := h2
  rcases h2 with ⟨rfl, h2⟩ | ⟨b, S, c, rfl, hB, hA, hS, hc, ht, hm⟩
  · have : L = [] := List.eq_nil_of_length_eq_zero h2
    subst this
    exact ⟨none, 0, Y, rfl, Nat.le_refl _, h1, .inl rfl, fun y hy => (h3 y hy).sl⟩
  · refine ⟨_, _, Y, rfl, hc, h1, .inr ⟨b, 0, rfl, hA.lt, fun i hi => ?_⟩, fun y hy => (h3 y hy).sl⟩
    rw [Nat.zero_add, hA.cell i, ← ht, List.getElem?_take, if_pos hi]
theorem ElS.below {w w' : World} {v : Value} {L : List Te} (h : ElS w v L) (hb : Below w.heap.size w w') : ElS w' v L := by
  obtain ⟨a, c, Y, h1, h2, h3, h4, h5⟩ := h
  refine ⟨a, c, Y, h1, h2, h3, ?_, fun y hy => below_sl hb (h5 y hy)⟩
  rcases h4 with h4 | ⟨b, off, h6, h7, h8⟩
  · exact .inl h4
  · exact .inr ⟨b, off, h6, Nat.lt_of_lt_of_le h7 hb.size, fun i hi => (hb.cell (p := ⟨b, off + i, none⟩) h7).trans (h8 i hi)⟩
theorem elCells_at {Y : List Tv} {i : Nat} (h : i < Y.length) (k : Nat) (hk : k < 5) : (elCells Y)[i * 5 + k]? = (cellE Y[i])[k]? := by
  induction Y generalizing i with
  | nil => simp at h
  | cons y Y ih =>
    have he : elCells (y :: Y) = cellE y ++ elCells Y := by simp [elCells]
    have hl : (cellE y).length = 5 := rfl
    rw [he]
    cases i with
    | zero => rw [List.getElem?_append_left (by omega)]; simp
    | succ i =>
      rw [List.getElem?_append_right (by omega), hl, show (i + 1) * 5 + k - 5 = i * 5 + k by omega, ih (by simpa using h)]
      simp
theorem elCells_len (Y : List Tv) : (elCells Y).length = Y.length * 5 := by
  induction Y with
  | nil => rfl
  | cons y Y ih => simp [elCells] at ih ⊢; rw [ih]; simp [cellE]; omega
/-- The i-th one, cell by cell. -/
theorem ElS.at {w : World} {a : Option Addr} {n c : Nat} {L : List Te} (h : ElS w (.slice a n c) L) {i : Nat} (hi : i < L.length) :
    ∃ b off d m k, a = some ⟨b, off, none⟩ ∧ b < w.heap.size ∧ w.cell? ⟨b, off + i * 5, none⟩ = some (.int .i64 L[i].dp) ∧ w.cell? ⟨b, off + i * 5 + 1, none⟩ = some (.int .i64 L[i].cl) ∧ w.cell? ⟨b, off + i * 5 + 2, none⟩ = some (.int .i64 L[i].tg) ∧ w.cell? ⟨b, off + i * 5 + 3, none⟩ = some (.bool L[i].co) ∧ w.cell? ⟨b, off + i * 5 + 4, none⟩ = some (.slice d m k) ∧ Sl .u8 w (.slice d m k) L[i].d := by
  obtain ⟨a', c', Y, h1, h2, h3, h4, h5⟩ := h
  rcases h4 with h4 | ⟨b, off, h6, h7, h8⟩
  · subst h4; simp at hi
  · simp only [Value.slice.injEq] at h1
    obtain ⟨rfl, _, _⟩ := h1
    have hl : Y.length = L.length := by rw [← h3, List.length_map]
    have hY : (Y[i]'(by omega)).1 = L[i] := by
      subst h3; simp
    have hs := h5 (Y[i]'(by omega)) (List.getElem_mem _)
    rw [hY] at hs
    obtain ⟨d, k, hd, hdc, hdr⟩ := hs
    have g : ∀ k, k < 5 → w.cell? ⟨b, off + i * 5 + k, none⟩ = (cellE (Y[i]'(by omega)))[k]? := fun k hk => by
      rw [← elCells_at (by omega) k hk, ← h8 (i * 5 + k) (by omega), Nat.add_assoc]
    refine ⟨b, off, d, L[i].d.length, k, h6, h7, ?_, ?_, ?_, ?_, ?_, ⟨d, k, rfl, hdc, hdr⟩⟩
    · have := g 0 (by omega); simpa [cellE, hY] using this
    · have := g 1 (by omega); simpa [cellE, hY] using this
    · have := g 2 (by omega); simpa [cellE, hY] using this
    · have := g 3 (by omega); simpa [cellE, hY] using this
    · have := g 4 (by omega); simpa [cellE, hY, hd] using this
end Go.Proofs.YtefebamomdcaaaaGreatDoor
