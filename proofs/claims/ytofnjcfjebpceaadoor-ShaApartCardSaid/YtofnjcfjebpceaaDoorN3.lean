/- N3: contracts of PutPacked, PutFolded, PutText, New. -/
import Derived.Test.YtofnjcfjebpceaaDoorN2
namespace Go.Proofs.YtofnjcfjebpceaaDoor
open Go.RowKit Go.V

/-- a new slice of bytes, nothing else turned -/
def NewB (w w' : World) (v : Value) (bs : List UInt8) : Prop := w'.ownsRow w.heap.size 5 1 v bs.length (bvs bs) ∧ Below w.heap.size w w'
theorem NewB.rd {w w' : World} {v : Value} {bs : List UInt8} (h : NewB w w' v bs) : Rd w' (fun b => w.heap.size ≤ b) v (bys bs) := Rd.of_own h.1
theorem len_packed (bs : List UInt8) (x : Nat) : (bs ++ packed x).length = bs.length + psz x := by rw [List.length_append, length_packed]

theorem putt_any (v tv : Value) (bs ts : List UInt8) (F G : Nat → Prop) (w : World) (hb : Rd w F v (bys bs)) (ht : Rd w G tv (bys ts)) (hn : bs.length ≤ 17592186044416) (hm : ts.length ≤ 17592186044416) :
    Calls Tryd.prog 21 #[v, tv] w fun e w' => ∃ v', e = .returned v' ∧ NewB w w' v' (bs ++ (packed ts.length ++ ts)) := by
  have hp := psz_bd ts.length
  have ht' := ht
  obtain ⟨A, c, rfl, hsrc⟩ := Src.of_bytes ht'
  go_enter Tryd.func21, Tryd.ntmps21
  go_wp2_with (fail)
  refine (psize_any _ _ (by omega)).mono ?_
  rintro e w' ⟨rfl, rfl⟩
  go_wp2_with (fail)
  refine (ext_i v bs _ F _ hb (by omega) (by omega)).mono ?_
  rintro e w1 ⟨v1, rfl, ho1, hB1⟩
  go_wp2_with (fail)
  refine (app_any v1 bs _ _ _ _ ho1 hB1.size (by omega) hp.2 (by omega)).mono ?_
  rintro e w2 ⟨v2, rfl, ho2, hC2⟩
  have hB2 := Ch.below_of hB1 hC2 (fun k hk => (ho1.lt k hk).1) hB1.size
  rw [apk_psz _ (by omega)] at ho2
  go_wp2_with (refine wp_app (.tmp 22) (.tmp 23) slB rfl rfl rfl ho2 rfl (ht.below hB2).src (oneCell_bvs ts) (by simp only [maxLen]; omega) (by omega) hB2.size ?_)
  intro v3 w3 ho3 hG3 _
  go_wp2
  go_ret
  refine ⟨v3, rfl, ?_, hB2.grown hG3 hB2.size (fun k hk => (ho2.lt k hk).1)⟩
  have e1 : bvs (bs ++ packed ts.length) ++ bvs ts = bvs (bs ++ (packed ts.length ++ ts)) := by simp [bvs]
  rw [e1] at ho3
  rw [show (bs ++ (packed ts.length ++ ts)).length = bs.length + psz ts.length + ts.length from by simp [length_packed]; omega]
  exact ho3

end Go.Proofs.YtofnjcfjebpceaaDoor
