/- J0: layer 13: votes as lists, in memory; what the document makes of those that came. -/
import Derived.Test.YtkoncjcnpconkaaY0
import Derived.Test.YtkoncjcnpconkaaLW
namespace Go.V
open Go.RowKit
structure Vt where
  k : Int
  v : Int
  r : Int
  s : Int
  h : List UInt8
  b : List UInt8
  ps : List (List UInt8)
  hh : h.length = 32
/-- its cells: batch and cert are slices -/
def Vt.l (m : Vt) (ub up : Value) : List Value := .int .i64 m.k :: .int .i64 m.v :: .int .i64 m.r :: .int .i64 m.s :: (bvs m.h ++ [ub, up])
def Vt.val (m : Vt) (ub up : Value) : Value := .agg (m.l ub up).toArray
def zH : List UInt8 := List.replicate 32 0
theorem zH_len : zH.length = 32 := rfl
def zV : Vt := ⟨0, 0, 0, 0, zH, [], [], rfl⟩
theorem len_vt (m : Vt) (ub up : Value) : (m.l ub up).length = 38 := by simp [Vt.l, bvs, m.hh]
theorem vt_body {m : Vt} (hh : m.h.length = 32) (ub up : Value) : (m.l ub up)[36]? = some ub := by
  have : (bvs m.h ++ [ub, up])[32]? = some ub := by rw [List.getElem?_append_right (by simp [bvs, hh])]; simp [bvs, hh]
  simpa [Vt.l] using this
theorem vt_parts {m : Vt} (hh : m.h.length = 32) (ub up : Value) : (m.l ub up)[37]? = some up := by
  have : (bvs m.h ++ [ub, up])[33]? = some up := by rw [List.getElem?_append_right (by simp [bvs, hh])]; simp [bvs, hh]
  simpa [Vt.l] using this
theorem vt_hash {m : Vt} (_hh : m.h.length = 32) (ub up : Value) (j : Nat) (v : Value) (hv : (bvs m.h)[j]? = some v) : (m.l ub up)[4 + j]? = some v := by
  have hj := (List.getElem?_eq_some_iff.1 hv).1
  have : (bvs m.h ++ [ub, up])[j]? = some v := by rw [List.getElem?_append_left hj]; exact hv
  rw [show 4 + j = j + 4 from by omega]
  simpa [Vt.l] using this
theorem one_vt {m : Vt} {A B : Option Addr} {n c k d : Nat} : ∀ v ∈ m.l (.slice A n c) (.slice B k d), v.oneCell' = true := by
  intro v hv
  simp only [Vt.l, List.mem_cons, List.mem_append] at hv
  rcases hv with rfl | rfl | rfl | rfl | hv | rfl | rfl | hv
  · rfl
  · rfl
  · rfl
  · rfl
  · exact oneCell_bvs _ v hv
  · rfl
  · rfl
  · cases hv
def vtD : WD Vt 38 := ⟨fun m => .atom (.int .i64 m.k) :: .atom (.int .i64 m.v) :: .atom (.int .i64 m.r) :: .atom (.int .i64 m.s) :: ((bvs m.h).map .atom ++ [bys m.b, tx m.ps]), fun m => by simp [bvs, m.hh], by omega⟩
theorem vt_open {w : World} {F : Nat → Prop} {m : Vt} {cs : List Value} (h : WdEl w F vtD m cs) : ∃ ub up, cs = m.l ub up ∧ Rd w F ub (bys m.b) ∧ Rd w F up (tx m.ps) := by
  obtain ⟨hl, ha⟩ := h
  have hh := m.hh
  match cs, hl with
  | c0 :: c1 :: c2 :: c3 :: cs, hl =>
    have hl : cs.length = 34 := by simpa using hl
    have h0 := ha 0 c0 _ rfl rfl
    have h1 := ha 1 c1 _ rfl rfl
    have h2 := ha 2 c2 _ rfl rfl
    have h3 := ha 3 c3 _ rfl rfl
    unfold Rd at h0 h1 h2 h3
    subst h0 h1 h2 h3
    have hat : ∀ j v d, cs[j]? = some v → ((bvs m.h).map Dat.atom ++ [bys m.b, tx m.ps])[j]? = some d → Rd w F v d := fun j v d hv hd => ha (j + 4) v d (by simpa using hv) (by simpa [vtD] using hd)
    have hbl : (bvs m.h).length = 32 := by simp [bvs, hh]
    obtain ⟨ub, hub⟩ : ∃ ub, cs[32]? = some ub := ⟨_, List.getElem?_eq_getElem (by omega)⟩
    obtain ⟨up, hup⟩ : ∃ up, cs[33]? = some up := ⟨_, List.getElem?_eq_getElem (by omega)⟩
    refine ⟨ub, up, ?_, hat 32 ub _ hub (by rw [List.getElem?_append_right (by simp [hbl])]; simp [hbl]), hat 33 up _ hup (by rw [List.getElem?_append_right (by simp [hbl])]; simp [hbl])⟩
    have e : cs = bvs m.h ++ [ub, up] := by
      apply List.ext_getElem?
      intro j
      by_cases hj : j < 32
      · obtain ⟨v, hv⟩ : ∃ v, cs[j]? = some v := ⟨_, List.getElem?_eq_getElem (by omega)⟩
        obtain ⟨u, hu⟩ : ∃ u, (bvs m.h)[j]? = some u := ⟨_, List.getElem?_eq_getElem (by omega)⟩
        have := hat j v (.atom u) hv (by rw [List.getElem?_append_left (by simp [hbl]; omega), List.getElem?_map, hu]; rfl)
        unfold Rd at this
        rw [hv, this, List.getElem?_append_left (by omega), hu]
      · by_cases h32 : j = 32
        · subst h32
          rw [hub, List.getElem?_append_right (by omega), hbl]; rfl
        · by_cases h33 : j = 33
          · subst h33
            rw [hup, List.getElem?_append_right (by omega), hbl]; rfl
          · rw [List.getElem?_eq_none (by omega), List.getElem?_eq_none (by simp [hbl]; omega)]
    rw [e]
    rfl
theorem vt_mk {w : World} {F : Nat → Prop} {m : Vt} {ub up : Value} (h1 : Rd w F ub (bys m.b)) (h2 : Rd w F up (tx m.ps)) : WdEl w F vtD m (m.l ub up) := by
  refine ⟨len_vt m ub up, fun j v d hv hd => ?_⟩
  have hh := m.hh
  have hbl : (bvs m.h).length = 32 := by simp [bvs, hh]
  match j with
  | 0 => simp [Vt.l, vtD] at hv hd; subst hv hd; unfold Rd; rfl
  | 1 => simp [Vt.l, vtD] at hv hd; subst hv hd; unfold Rd; rfl
  | 2 => simp [Vt.l, vtD] at hv hd; subst hv hd; unfold Rd; rfl
  | 3 => simp [Vt.l, vtD] at hv hd; subst hv hd; unfold Rd; rfl
  | j + 4 =>
    have hv : (bvs m.h ++ [ub, up])[j]? = some v := by simpa [Vt.l] using hv
    have hd : ((bvs m.h).map Dat.atom ++ [bys m.b, tx m.ps])[j]? = some d := by simpa [vtD] using hd
    by_cases hj : j < 32
    · rw [List.getElem?_append_left (by omega)] at hv
      rw [List.getElem?_append_left (by simp [hbl]; omega), List.getElem?_map, hv] at hd
      simp at hd
      subst hd
      unfold Rd
      rfl
    · rw [List.getElem?_append_right (by omega), hbl] at hv
      rw [List.getElem?_append_right (by simp [hbl]; omega), List.length_map, hbl] at hd
      by_cases h32 : j = 32
      · subst h32; simp at hv hd; subst hv hd; exact h1
      · by_cases h33 : j = 33
        · subst h33; simp at hv hd; subst hv hd; exact h2
        · rw [List.getElem?_eq_none (by simp; omega)] at hv; cases hv
/-- the numbers and what must be empty -/
def partsV (m : Vt) : Bool := decide ((1 ≤ m.k ∧ m.k ≤ 3) ∧ (0 ≤ m.v ∧ m.v ≤ 60) ∧ (0 ≤ m.r ∧ m.r ≤ 40) ∧ (0 ≤ m.s ∧ m.s ≤ 60) ∧ (m.k = 1 → m.s ≤ 0 ∧ m.h = zH ∧ m.b.length = 0) ∧ (m.k = 3 ∨ m.ps.length = 0))
def longV (m : Vt) : Bool := decide (500 < m.b.length ∨ 20 < m.ps.length ∨ ∃ t ∈ m.ps, 300 < t.length)
theorem longV_bd {m : Vt} (h : longV m = false) : m.b.length ≤ 500 ∧ m.ps.length ≤ 20 ∧ ∀ t ∈ m.ps, t.length ≤ 300 := by
  unfold longV at h
  rw [decide_eq_false_iff_not] at h
  refine ⟨by omega, by omega, fun t ht => ?_⟩
  rcases Nat.lt_or_ge 300 t.length with h3 | h3
  · exact absurd (.inr (.inr ⟨t, ht, h3⟩)) h
  · exact h3
theorem vlong_bd {m : Vt} (h : longV m = false) : m.b.length ≤ 3000 ∧ m.ps.length ≤ 20 ∧ ∀ t ∈ m.ps, t.length ≤ 3000 := by
  obtain ⟨h1, h2, h3⟩ := longV_bd h
  exact ⟨by omega, h2, fun t ht => by have := h3 t ht; omega⟩
def longVs (l : List Vt) : Bool := decide (40 < l.length) || l.any longV
structure VtIn (m : Vt) : Prop where
  k : in64w m.k
  v : in64w m.v
  r : in64w m.r
  s : in64w m.s
/-- of votes that came: the greatest slot -/
def slotS (n : Int) (m : Vt) : Int := if 1 < m.k ∧ n < m.s then m.s else n
def slotF (l : List Vt) : Int := l.foldl slotS 0
def regS (p : Int × Int) (m : Vt) : Int × Int := if m.k = 1 ∧ (p.1 < m.v ∨ m.v = p.1 ∧ p.2 < m.r) then (m.v, m.r) else p
def regF (l : List Vt) : Int × Int := l.foldl regS (-1, -1)
def isW (s v r : Int) (m : Vt) : Bool := m.k == 2 && m.s == s && m.v == v && m.r == r
def wroteF (l : List Vt) (v r : Int) : Option Vt := l.find? (isW (slotF l) v r)
def accS (s : Int) (o : Option Vt) (m : Vt) : Option Vt := if m.k = 3 ∧ m.s = s then (match o with
  | none => some m
  | some y => if y.v < m.v ∨ m.v = y.v ∧ y.r < m.r then some m else some y) else o
def accQ (s : Int) (l : List Vt) : Option Vt := l.foldl (accS s) none
def accF (l : List Vt) : Option Vt := accQ (slotF l) l
def regV (v r : Int) : Vt := ⟨1, v, r, 0, zH, [], [], rfl⟩
def wrotesR (l : List Vt) (v n : Nat) : List Vt := (List.range n).flatMap fun (r : Nat) => (wroteF l v r).toList
def wrotesF (l : List Vt) (n : Nat) : List Vt := (List.range n).flatMap fun (v : Nat) => wrotesR l v 41
def allF (l : List Vt) : List Vt := ((if 0 ≤ (regF l).1 then [regV (regF l).1 (regF l).2] else []) ++ wrotesF l 61) ++ (accF l).toList
theorem slotF_snoc (l : List Vt) (m : Vt) : slotF (l ++ [m]) = slotS (slotF l) m := by unfold slotF; rw [List.foldl_append]; rfl
theorem regF_snoc (l : List Vt) (m : Vt) : regF (l ++ [m]) = regS (regF l) m := by unfold regF; rw [List.foldl_append]; rfl
theorem accQ_snoc (s : Int) (l : List Vt) (m : Vt) : accQ s (l ++ [m]) = accS s (accQ s l) m := by unfold accQ; rw [List.foldl_append]; rfl
end Go.V
namespace Go.Proofs.Ytkoncjcnpconkaa
open Go.RowKit Go.V
def Vt.hd (m : Vt) : List UInt8 := (((fixR 1 (un m.k) ++ fixR 2 (un m.v)) ++ fixR 2 (un m.r)) ++ fixR 2 (un m.s)) ++ m.h
def Vt.by (m : Vt) : List UInt8 := (((Vt.hd m) ++ (packed m.b.length ++ m.b)) ++ packed m.ps.length) ++ m.ps.flatMap tb1
theorem len_vhd (m : Vt) : (Vt.hd m).length = 39 := by
  unfold Vt.hd
  simp only [List.length_append, len_fixR1, len_fixR2, m.hh]
theorem len_vby {m : Vt} (hlo : longV m = false) : (Vt.by m).length ≤ 63260 := by
  obtain ⟨h1, h2, h3⟩ := vlong_bd hlo
  have h4 := len_parts m.ps h3
  have h5 := psz_bd m.b.length
  have h6 := psz_bd m.ps.length
  unfold Vt.by
  simp only [List.length_append, length_packed, len_vhd]
  omega
/-- what Put tells -/
def errV (m : Vt) : Nat := if 16 < m.ps.length then 4 else if 65536 < (Vt.by m).length then 4 else if partsV m then 0 else 15
def takeF (l : List Vt) (m : Vt) : Nat := if errV m ≠ 0 then 15 else if 1 < m.k ∧ m.s < slotF l then 7 else 0
theorem sizeV13 : (Try.prog.info? 27).map (·.size) = some 38 := by kernel_rfl
end Go.Proofs.Ytkoncjcnpconkaa
