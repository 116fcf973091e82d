/- S8: several texts in one (S7 R3 S8). -/
import Derived.Test.YtnhhbbjkeekneaaDoorS6
import Derived.Test.YtnhhbbjkeekneaaDoorRB
import Derived.Test.YtnhhbbjkeekneaaDoorVA
import Derived.Great.BuildSlice
/- S7: contracts of Sum, Pair, Chain, All. -/
namespace Go.V
open Go.RowKit
theorem run_mk {P : Program} {t e : TypeId} {z : Value} {by_ : Nat} (ht : SlT P t e z by_) (hz : z.cells = #[z]) (n : Nat) (hb : by_ * n ≤ 281474976710656) (hm : n ≤ maxLen) (W : World) :
    (Instr.makeSlice t (.int .i64 (n : Int)) (.int .i64 (n : Int))).run P W = .ok (.slice (some ⟨W.heap.size, 0, none⟩) n n) (W.alloc (.cells (List.replicate n z).toArray e)) := by
  obtain ⟨i, hi, hzz, hsz, hby⟩ := ht.inf
  have h63 : (n : Int) ≤ 9223372036854775807 := by simp [maxLen] at hm; omega
  have hb' : (i.bytes : Int) * (n : Int) ≤ 281474976710656 := by
    have : ((i.bytes * n : Nat) : Int) ≤ 281474976710656 := by rw [hby]; omega
    rwa [Int.natCast_mul] at this
  have hr := run_make (P := P) W t e i z ht.sl hi hzz .i64 .i64 n n (by omega) (Int.le_refl _) hb' h63
  rw [hr]
  simp only [Int.toNat_natCast, hsz, Nat.mul_one, hz]
  congr 3
  apply Array.ext
  · simp [madeCells]
  · intro j h1 h2
    simp [madeCells, Nat.mod_one]
theorem wp_mk {P : Program} {w : World} {ops : Array Oper} {rest : List Oper} {o : Oper} {a : Act} {Q : Exit → Act → World → Prop} {t e : TypeId} {z : Value} {by_ : Nat} (ht : SlT P t e z by_) (hz : z.cells = #[z]) (x y : Operand) (hgd : o.guard = none) (ho : o.op = .makeSlice t x y) (n : Nat)
    (hx : a.eval x = .int .i64 (n : Int)) (hy : a.eval y = .int .i64 (n : Int)) (hb : by_ * n ≤ 281474976710656) (hm : n ≤ maxLen) (l : List Value) (hl : l = List.replicate n z)
    (h : wpList P ops Q rest (a.put o.dst (.slice (some ⟨w.heap.size, 0, none⟩) n n)) (w.alloc (.cells l.toArray e))) : wpList P ops Q (o :: rest) a w := by
  refine wpList_plain hgd fun K hK => ?_
  subst hl
  unfold Oper.wp execOp
  simp only [ho, hx, hy, Sem.run_bind, Sem.run_pure, run_mk ht hz n hb hm, Result.andThen_ok]
  exact hK _ _ h
/-- one text, two texts, in a new block -/
theorem Rd.tx1 {w : World} {F : Nat → Prop} {v : Value} {bs : List UInt8} (t : TypeId) (h : Rd w F v (bys bs)) : Rd (w.alloc (.cells #[v] t)) (fun _ => True) (.slice (some ⟨w.heap.size, 0, none⟩) 1 1) (tx [bs]) := by
  have hal : Below w.heap.size w (w.alloc (.cells #[v] t)) := (Below.refl _ _).alloc (Nat.le_refl _) _
  unfold tx Rd
  refine ⟨_, 1, rfl, Nat.le_refl _, by simp [maxLen], fun h => by simp at h, fun _ => ⟨_, _, rfl, trivial, ?_⟩⟩
  refine RdC.mk (us := [v]) (Blk.new w t #[v]) rfl (fun i u hu => by rw [Nat.zero_add]; exact hu) (fun i u d hu hd => ?_)
  cases i with
  | zero => simp at hu hd; subst hu hd; exact (h.below hal).weak (fun _ _ _ => trivial)
  | succ i => simp at hu
end Go.V
namespace Go.Proofs.YtnhhbbjkeekneaaDoor
open Go.RowKit Go.V
theorem slBB : SlT Tryd.prog 25 37 (.slice none 0 0) 24 := .of Tryd.underlying25 (by kernel_rfl) rfl
theorem bs1 (v : Value) (hv : v.cells = #[v]) : ∀ W : World, (Instr.buildSlice 25 1 #[(0, v)]).run Tryd.prog W = .ok (.slice (some ⟨W.heap.size, 0, none⟩) 1 1) (W.alloc (.cells #[v] 37)) := fun _ => run_buildSlice1 _ _ _ v _ slBB hv

theorem sum_any (v : Value) (bs : List UInt8) (F : Nat → Prop) (w : World) (hK : KS w) (ht : Rd w F v (bys bs)) (hn : bs.length < 288230376151711744) :
    Calls Tryd.prog 43 #[v] w fun e w' => e = .returned (.agg (bvs (shaF bs)).toArray) ∧ Below w.heap.size w w' := by
  obtain ⟨A, c, rfl⟩ := ht.shape
  have hbs := bs1 (.slice A bs.length c) rfl
  go_enter Tryd.func43, Tryd.ntmps43
  go_wp2_with (refine wp_new 46 rfl rfl zero25 ?_)
  have hz := Blk.new' w 46 (zs8 32)
  have hB1 : Below w.heap.size w (w.alloc (.cells (zs8 32).toArray 46)) := (Below.refl _ _).alloc (Nat.le_refl _) _
  have hB2 := hB1.alloc (by simp) (.cells #[.slice A bs.length c] 37)
  refine (digest_any _ [bs] _ _ (hK.below hB2) (by simpa using Rd.tx1 37 (ht.below hB1)) (by simpa using hn)).mono ?_
  rintro e w3 ⟨rfl, hB3⟩
  have hz3 := (hz.alloc (.cells #[.slice A bs.length c] 37)).below hB3
  have hB3' := hB2.trans (hB3.mono (by simp; omega))
  rw [show [bs].flatten = bs from by simp] at *
  go_wp2_with (refine wp_st 46 (.tmp 2) (.tmp 5) rfl rfl rfl (f := 0) rfl (l := bvs (shaF bs)) rfl hz3 (by simp [zs8, len_bvs, len_sha]) (by rw [len_bvs, len_sha]; exact size25) (oneCell_bvs _) ?_; intro w7 hb7 hG7)
  rw [set25 _ (len_sha bs)] at hb7
  refine ret_cell rfl rfl hb7.whole Tryd.underlying46 rfl (by rw [len_bvs, len_sha]; exact size25) rfl ?_
  exact ⟨rfl, hB3'.grown hG7 hB3'.size (by intro k hk; injection hk with hk; omega)⟩

theorem und25 : Tryd.prog.underlying 46 = some (.array 32 5) := Tryd.underlying46
/-- slices that read as texts, in blocks other than g -/
def TR (w : World) (g : Nat) (us : List Value) (ts : List (List UInt8)) : Prop := us.length = ts.length ∧ ∀ (i : Nat) (u : Value) (t : List UInt8), us[i]? = some u → ts[i]? = some t → Rd w (fun b => b ≠ g) u (bys t)
theorem TR.keep {w w' : World} {g : Nat} {us : List Value} {ts : List (List UInt8)} (h : TR w g us ts) (hb : ∀ b, b < w.heap.size → b ≠ g → w'.heap[b]? = w.heap[b]?) : TR w' g us ts :=
  ⟨h.1, fun i u t hu ht => (h.2 i u t hu ht).keep fun b hl hn => ⟨hn, hb b hl hn⟩⟩
theorem TR.snoc {w : World} {g : Nat} {us : List Value} {ts : List (List UInt8)} {u : Value} {t : List UInt8} (h : TR w g us ts) (hu : Rd w (fun b => b ≠ g) u (bys t)) : TR w g (us ++ [u]) (ts ++ [t]) := by
  refine ⟨by simp [h.1], fun i x y hx hy => ?_⟩
  rcases Nat.lt_trichotomy i us.length with hi | hi | hi
  · rw [List.getElem?_append_left hi] at hx
    rw [List.getElem?_append_left (by rw [← h.1]; exact hi)] at hy
    exact h.2 i x y hx hy
  · subst hi
    rw [List.getElem?_append_right (Nat.le_refl _), Nat.sub_self] at hx
    rw [h.1, List.getElem?_append_right (Nat.le_refl _), Nat.sub_self] at hy
    simp at hx hy
    subst hx hy
    exact hu
  · have := (List.getElem?_eq_some_iff.1 hx).1
    simp at this
    omega
theorem TR.rd {w : World} {g : Nat} {t : TypeId} {us : List Value} {ts : List (List UInt8)} (h : TR w g us ts) (hb : Blk w g t us) (hm : us.length ≤ maxLen) : Rd w (fun _ => True) (.slice (some ⟨g, 0, none⟩) us.length us.length) (tx ts) := by
  unfold tx Rd
  refine ⟨_, us.length, by rw [h.1], by rw [h.1]; exact Nat.le_refl _, hm, fun h0 => by rw [List.eq_nil_of_length_eq_zero h0]; rfl, fun _ => ⟨_, _, rfl, trivial, ?_⟩⟩
  refine RdC.mk (us := us) hb (by simp [h.1]) (fun i u hu => by rw [Nat.zero_add]; exact hu) (fun i u d hu hd => ?_)
  rw [List.getElem?_map] at hd
  cases he : ts[i]? with
  | none => rw [he] at hd; cases hd
  | some t' =>
    rw [he] at hd
    simp at hd
    subst hd
    exact (h.2 i u t' hu he).weak (fun _ _ _ => trivial)
end Go.Proofs.YtnhhbbjkeekneaaDoor
/- R3: contract of the document's ReadFixed, where the bytes are there. -/
namespace Go.Proofs.YtnhhbbjkeekneaaDoor
open Go.RowKit Go.V
/-- the number of n bytes from a place on, the highest first -/
def nb (b : List UInt8) (k : Nat) : Nat → Nat
  | 0 => 0
  | n + 1 => 256 * nb b k n + (b.getD (k + n) 0).toNat
end Go.Proofs.YtnhhbbjkeekneaaDoor
/- S8: contracts of the document's ReadFixed, Word. -/
namespace Go.Proofs.YtnhhbbjkeekneaaDoor
open Go.RowKit Go.V

end Go.Proofs.YtnhhbbjkeekneaaDoor
