/- S6: contracts of digest, Sum, Pair, Chain, All. -/
import Derived.Test.YtigojjdoacfdgaaS5
namespace Go.V
open Go.RowKit
theorem RdC.elem {w : World} {F : Nat → Prop} {g : Nat} : ∀ {ds : List Dat} {off : Nat}, RdC w F g off ds → ∀ (i : Nat) (d : Dat), ds[i]? = some d → ∃ u, w.cell? ⟨g, off + i, none⟩ = some u ∧ Rd w F u d
  | [], off, _, i, d, hd => by simp at hd
  | d0 :: ds, off, h, i, d, hd => by
    unfold RdC at h
    obtain ⟨⟨u, hu, hr⟩, hc⟩ := h
    cases i with
    | zero => simp at hd; subst hd; exact ⟨u, hu, hr⟩
    | succ i =>
      obtain ⟨x, hx, hxr⟩ := RdC.elem hc i d (by simpa using hd)
      exact ⟨x, by rw [show off + (i + 1) = off + 1 + i from by omega]; exact hx, hxr⟩
/-- an element of a slice -/
theorem Rd.elem {w : World} {F : Nat → Prop} {A : Option Addr} {n c : Nat} {ds : List Dat} (h : Rd w F (.slice A n c) (.sl n ds)) (i : Nat) (d : Dat) (hd : ds[i]? = some d) :
    ∃ g off u, A = some ⟨g, off, none⟩ ∧ F g ∧ w.cell? ⟨g, off + i, none⟩ = some u ∧ Rd w F u d := by
  unfold Rd at h
  obtain ⟨A', c', hv, _, _, _, h4⟩ := h
  injection hv with e1 e2 e3
  subst e1
  obtain ⟨g, off, hA, hg, hc⟩ := h4 (by intro e; rw [e] at hd; simp at hd)
  obtain ⟨u, hu, hr⟩ := hc.elem i d hd
  exact ⟨g, off, u, hA, hg, hu, hr⟩
theorem Rd.slShape {w : World} {F : Nat → Prop} {v : Value} {n : Nat} {ds : List Dat} (h : Rd w F v (.sl n ds)) : ∃ A c, v = .slice A n c ∧ n ≤ c ∧ c ≤ maxLen := by
  unfold Rd at h
  obtain ⟨A, c, hv, h1, h2, _⟩ := h
  exact ⟨A, c, hv, h1, h2⟩
/-- a list of texts -/
def tx (ts : List (List UInt8)) : Dat := .sl ts.length (ts.map bys)
/-- a new block of values that read -/
theorem RdC.mk {w : World} {F : Nat → Prop} {g : Nat} {t : TypeId} : ∀ {us : List Value} {ds : List Dat} {cs : List Value} {off : Nat}, Blk w g t cs → us.length = ds.length → (∀ i u, us[i]? = some u → cs[off + i]? = some u) → (∀ (i : Nat) (u : Value) (d : Dat), us[i]? = some u → ds[i]? = some d → Rd w F u d) → RdC w F g off ds
  | _, [], _, _, _, _, _, _ => by unfold RdC; trivial
  | [], d :: ds, _, _, _, hl, _, _ => by simp at hl
  | u :: us, d :: ds, cs, off, hb, hl, hc, h => by
    unfold RdC
    refine ⟨⟨u, hb.cellAt off u (by simpa using hc 0 u rfl), h 0 u d rfl rfl⟩, RdC.mk (us := us) hb (by simpa using hl) (fun i x hx => ?_) (fun i x y hx hy => h (i + 1) x y (by simpa using hx) (by simpa using hy))⟩
    rw [show off + 1 + i = off + (i + 1) from by omega]
    exact hc (i + 1) x (by simpa using hx)
end Go.V
namespace Go.Proofs.Ytigojjdoacfdgaa
open Go.RowKit Go.V
def zmix : List Value := mixC ⟨0, 0, 0, 0, 0, 0, 0, 0⟩ (List.replicate 64 0) 0
theorem mixC_one (s : S8) (blk : List UInt8) (n : Nat) : ∀ v ∈ mixC s blk n, v.oneCell' = true := by
  intro v hv
  unfold mixC at hv
  rcases List.mem_append.1 hv with h | h
  · exact oneCell_wvs _ v h
  · rcases List.mem_append.1 h with h | h
    · exact oneCell_bvs _ v h
    · simp at h; subst h; rfl
theorem len_sha (p : List UInt8) : (shaF p).length = 32 := len_s8b _
theorem set25 (l : List UInt8) (hl : l.length = 32) : (zs8 32).take 0 ++ bvs l ++ (zs8 32).drop (0 + (bvs l).length) = bvs l := by simp [len_bvs, hl, zs8]
theorem flatten_take_succ (ts : List (List UInt8)) (i : Nat) (t : List UInt8) (h : ts[i]? = some t) : (ts.take (i + 1)).flatten = (ts.take i).flatten ++ t := by
  obtain ⟨hi, he⟩ := List.getElem?_eq_some_iff.1 h
  rw [List.take_succ_eq_append_getElem hi, he]
  simp
theorem flatten_take_le (ts : List (List UInt8)) (i : Nat) : (ts.take i).flatten.length ≤ ts.flatten.length := by
  have : ts.flatten = (ts.take i).flatten ++ (ts.drop i).flatten := by rw [← List.flatten_append, List.take_append_drop]
  rw [this, List.length_append]
  omega

end Go.Proofs.Ytigojjdoacfdgaa
