/- N3: contracts of PutPacked, PutFolded, PutText, New. -/
import Derived.Test.YthdkfcbfjhdpoaaN2
namespace Go.Proofs.Ythdkfcbfjhdpoaa
open Go.RowKit Go.V

/-- a new slice of bytes, nothing else turned -/
def NewB (w w' : World) (v : Value) (bs : List UInt8) : Prop := w'.ownsRow w.heap.size 5 1 v bs.length (bvs bs) ∧ Below w.heap.size w w'
theorem NewB.rd {w w' : World} {v : Value} {bs : List UInt8} (h : NewB w w' v bs) : Rd w' (fun b => w.heap.size ≤ b) v (bys bs) := Rd.of_own h.1
theorem len_packed (bs : List UInt8) (x : Nat) : (bs ++ packed x).length = bs.length + psz x := by rw [List.length_append, length_packed]

theorem putp_any (v : Value) (bs : List UInt8) (x : Nat) (F : Nat → Prop) (w : World) (hb : Rd w F v (bys bs)) (hx : x < 18446744073709551616) (hn : bs.length ≤ 35184372088832) :
    Calls Try.prog 33 #[v, .int .u64 (x : Int)] w fun e w' => ∃ v', e = .returned v' ∧ NewB w w' v' (bs ++ packed x) := by
  have hp := psz_bd x
  go_enter Try.func33, Try.ntmps33
  go_wp2_with (fail)
  refine (psize_any x _ hx).mono ?_
  rintro e w' ⟨rfl, rfl⟩
  go_wp2_with (fail)
  refine (ext_any v bs (psz x) F _ hb (by omega)).mono ?_
  rintro e w1 ⟨v1, rfl, ho1, hB1⟩
  go_wp2_with (fail)
  refine (app_any v1 bs x (psz x) _ _ ho1 hB1.size hx hp.2 (by omega)).mono ?_
  rintro e w2 ⟨v2, rfl, ho2, hC2⟩
  go_wp2
  go_ret
  rw [apk_psz x hx] at ho2
  exact ⟨v2, rfl, by unfold NewB; rw [len_packed]; exact ⟨ho2, Ch.below_of hB1 hC2 (fun k hk => (ho1.lt k hk).1) hB1.size⟩⟩

theorem putf_any (v : Value) (bs : List UInt8) (x : Int) (F : Nat → Prop) (w : World) (hb : Rd w F v (bys bs)) (h1 : -9223372036854775808 ≤ x) (h2 : x ≤ 9223372036854775807) (hn : bs.length ≤ 35184372088832) :
    Calls Try.prog 23 #[v, .int .i64 x] w fun e w' => ∃ v', e = .returned v' ∧ NewB w w' v' (bs ++ packed (foldN x)) := by
  go_enter Try.func23, Try.ntmps23
  go_wp2_with (fail)
  refine (fold_any x _ h1 h2).mono ?_
  rintro e w' ⟨rfl, rfl⟩
  go_wp2_with (fail)
  refine (putp_any v bs (foldN x) F _ hb (foldN_lt x h1 h2) hn).mono ?_
  rintro e w1 ⟨v1, rfl, ho1⟩
  go_wp2
  go_ret
  exact ⟨v1, rfl, ho1⟩

theorem putt_any (v tv : Value) (bs ts : List UInt8) (F G : Nat → Prop) (w : World) (hb : Rd w F v (bys bs)) (ht : Rd w G tv (bys ts)) (hn : bs.length ≤ 17592186044416) (hm : ts.length ≤ 17592186044416) :
    Calls Try.prog 34 #[v, tv] w fun e w' => ∃ v', e = .returned v' ∧ NewB w w' v' (bs ++ (packed ts.length ++ ts)) := by
  have hp := psz_bd ts.length
  have ht' := ht
  obtain ⟨A, c, rfl, hsrc⟩ := Src.of_bytes ht'
  go_enter Try.func34, Try.ntmps34
  go_wp2_with (fail)
  refine (psize_any _ _ (by omega)).mono ?_
  rintro e w' ⟨rfl, rfl⟩
  go_wp2_with (fail)
  refine (ext_i v bs _ F _ hb (by omega) (by omega)).mono ?_
  rintro e w1 ⟨v1, rfl, ho1, hB1⟩
  go_wp2_with (fail)
  refine (app_any v1 bs _ _ _ _ ho1 hB1.size (by omega) hp.2 (by omega)).mono ?_
  rintro e w2 ⟨v2, rfl, ho2, hC2⟩
  have hB2 := Ch.below_of hB1 hC2 (fun k hk => (ho1.lt k hk).1) hB1.size
  rw [apk_psz _ (by omega)] at ho2
  go_wp2_with (refine wp_app (.tmp 22) (.tmp 23) slB rfl rfl rfl ho2 rfl (ht.below hB2).src (oneCell_bvs ts) (by simp only [maxLen]; omega) (by omega) hB2.size ?_)
  intro v3 w3 ho3 hG3 _
  go_wp2
  go_ret
  refine ⟨v3, rfl, ?_, hB2.grown hG3 hB2.size (fun k hk => (ho2.lt k hk).1)⟩
  have e1 : bvs (bs ++ packed ts.length) ++ bvs ts = bvs (bs ++ (packed ts.length ++ ts)) := by simp [bvs]
  rw [e1] at ho3
  rw [show (bs ++ (packed ts.length ++ ts)).length = bs.length + psz ts.length + ts.length from by simp [length_packed]; omega]
  exact ho3

/-- a reader in block p: its bytes, and how many were read -/
def RdR (w : World) (p : Nat) (F : Nat → Prop) (bs : List UInt8) (at_ : Nat) : Prop :=
  ∃ v, w.heap[p]? = some (.cells #[v, .int .i64 (at_ : Int)] 65 (0, 0)) ∧ Rd w F v (bys bs) ∧ at_ ≤ bs.length ∧ ¬ F p

theorem RdR.keep {w w' : World} {p : Nat} {F : Nat → Prop} {bs : List UInt8} {k : Nat} (h : RdR w p F bs k) (hp : w'.heap[p]? = w.heap[p]?) (hF : ∀ b, b < w.heap.size → F b → w'.heap[b]? = w.heap[b]?) : RdR w' p F bs k := by
  obtain ⟨v, h1, h2, h3⟩ := h
  exact ⟨v, hp.trans h1, h2.keep (fun b hb hf => ⟨hf, hF b hb hf⟩), h3⟩
theorem RdR.drewN {w : World} {p : Nat} {F : Nat → Prop} {bs : List UInt8} {k : Nat} (h : RdR w p F bs k) (n : Nat) : RdR (w.drewN n) p F bs k := h.keep rfl (fun _ _ _ => rfl)

theorem RdR.belowR {w w' : World} {p : Nat} {F : Nat → Prop} {bs : List UInt8} {k : Nat} (h : RdR w p F bs k) (hB : Below w.heap.size w w') : RdR w' p F bs k := by
  obtain ⟨v, h1, _⟩ := id h
  exact h.keep (hB.block p (lt_of_block h1)) (fun b hb _ => hB.block b hb)
set_option maxHeartbeats 400000 in
theorem new_any (v : Value) (bs : List UInt8) (F : Nat → Prop) (w : World) (hb : Rd w F v (bys bs)) (hn : bs.length ≤ 35184372088832) :
    Calls Try.prog 24 #[v] w fun e w' => ∃ p, e = .returned (.pointer (some ⟨p, 0, none⟩)) ∧ w.heap.size ≤ p ∧ RdR w' p (fun b => w.heap.size ≤ b ∧ b < p) bs 0 ∧ Below w.heap.size w w' := by
  go_enter Try.func24, Try.ntmps24
  go_wp2_with (fail)
  refine (ext_i v bs _ F _ hb (by omega) (by omega)).mono ?_
  rintro e w1 ⟨v1, rfl, ho1, hB1⟩
  obtain ⟨A1, c1, rfl⟩ := own_shape ho1
  go_wp2
  go_ret
  have hB2 : Below w.heap.size w1 (w1.alloc (Obj.cells #[.slice A1 bs.length c1, .int .i64 0] 65)) := (Below.refl _ _).alloc hB1.size _
  exact ⟨w1.heap.size, rfl, hB1.size, ⟨_, heap_alloc_new w1 _, (Rd.of_own' ho1 fun b h1 h2 => ⟨h1, h2⟩).below ((Below.refl _ _).alloc (Nat.le_refl _) _), Nat.zero_le _, fun h => by omega⟩, hB1.trans hB2⟩
end Go.Proofs.Ythdkfcbfjhdpoaa
