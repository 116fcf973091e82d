/- JC: layer 13: contracts of package votes. -/
import Derived.Test.YtkoncjcnpconkaaJZ
import Derived.Test.YtkoncjcnpconkaaJG
namespace Go.Proofs.Ytkoncjcnpconkaa
open Go.RowKit Go.V
theorem btake13_any (v : Value) (M F G : Nat → Prop) (B : List Vt) (m : Vt) (ub up : Value) (w : World) (h : BX w v M F B) (hB : B.length ≤ 100000) (hm : VtIn m) (hs : VtSm m) (hub : Rd w G ub (bys m.b)) (hup : Rd w G up (tx m.ps)) (hG : ∀ b, G b → ¬ M b) :
    Calls Try.prog 17 #[v, m.val ub up] w fun e w' => e = .returned (.int .i64 (takeF B m : Int)) ∧ BXp w M F v (if takeF B m = 0 then B ++ [m] else B) w' := by
  obtain ⟨p, rfl⟩ := h.ptr
  by_cases he : errV m = 0
  · by_cases hk : m.k = 1
    · have ht : takeF B m = 0 := by unfold takeF; rw [if_neg (fun h => h he), if_neg (by omega)]
      rw [ht, if_pos rfl]
      exact take13_reg p M F G B m ub up w h hB hm hs hub hup hG he hk
    · by_cases ho : m.s < slotF B
      · have hf := (fine_of (err_parts he)).k
        have ht : takeF B m = 7 := by unfold takeF; rw [if_neg (fun h => h he), if_pos ⟨by omega, ho⟩]
        rw [ht, if_neg (by omega)]
        exact take13_old p M F G B m ub up w h hm hs hub hup he hk ho
      · have ht : takeF B m = 0 := by unfold takeF; rw [if_neg (fun h => h he), if_neg (by omega)]
        rw [ht, if_pos rfl]
        exact take13_go p M F G B m ub up w h hB hm hs hub hup hG he hk (by omega)
  · have ht : takeF B m = 15 := if_pos he
    rw [ht, if_neg (by omega)]
    exact take13_bad p M F G B m ub up w h hm hs hub hup he
end Go.Proofs.Ytkoncjcnpconkaa
