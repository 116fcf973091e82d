/- U4: layer 14: KvDoes. -/
import Derived.Test.YtfjgfaccfjdklaaDoorU3
import Derived.Test.YtfjgfaccfjdklaaDoorLW
namespace Go.V
open Go.RowKit
def okD : WD Ok 4 := ⟨fun o => [.atom (.int .i64 o.k), .atom (.int .i64 o.y), .atom (.int .i64 o.a), .atom (.int .i64 o.b)], fun _ => rfl, by omega⟩
theorem ok_open {w : World} {F : Nat → Prop} {o : Ok} {cs : List Value} (h : WdEl w F okD o cs) : cs = o.l := by
  obtain ⟨hl, ha⟩ := h
  match cs, hl with
  | [c0, c1, c2, c3], _ =>
    have h0 := ha 0 c0 _ rfl rfl
    have h1 := ha 1 c1 _ rfl rfl
    have h2 := ha 2 c2 _ rfl rfl
    have h3 := ha 3 c3 _ rfl rfl
    unfold Rd at h0 h1 h2 h3
    subst h0 h1 h2 h3
    rfl
theorem ok_mk {w : World} {F : Nat → Prop} {o : Ok} : WdEl w F okD o o.l :=
  ⟨rfl, fun j v d hv hd => by
    match j with
    | 0 => simp [Ok.l, okD] at hv hd; subst hv hd; unfold Rd; rfl
    | 1 => simp [Ok.l, okD] at hv hd; subst hv hd; unfold Rd; rfl
    | 2 => simp [Ok.l, okD] at hv hd; subst hv hd; unfold Rd; rfl
    | 3 => simp [Ok.l, okD] at hv hd; subst hv hd; unfold Rd; rfl
    | j + 4 => simp [Ok.l] at hv⟩
end Go.V
namespace Go.Proofs.YtfjgfaccfjdklaaDoor
open Go.RowKit Go.V
end Go.Proofs.YtfjgfaccfjdklaaDoor
