/- ChartLabels: the card. -/
import Derived.Test.YthjieekbbhhjgaaDoorA5
namespace Go.Proofs.YthjieekbbhhjgaaDoor
open Go

theorem labels_card : Rows.ChartLabelsCardSaid :=
  Claim7.holds_tied_plain_at .later [] [.data] true (true, "bdcf4e9fea41583dc5c6c52fb1220c90b4399ff3346804906d1d27412a7ca6e8") false
    labels_holds (fun _ h => by cases h) (by kernel_rfl) (fun _ h => by cases h) chartLabels_row_tie rfl ⟨rfl, rfl⟩ (by kernel_rfl) rfl
    (fun f fn hf hfn => by
      obtain rfl : f = 11 := Option.some.inj ((show Tryd.prog.funcNamed "aloeswood/aloeswoodlaw01.ChartLabels" = some 11 by kernel_rfl).symm.trans hf) |>.symm
      obtain rfl : fn = Tryd.f11 := (Option.some.inj (Tryd.func11.symm.trans hfn)).symm
      exact ⟨by kernel_rfl, fun j t ht => by
        rw [Tryd.params11] at ht
        have h3 : t = 22 ∨ t = 3 := by
          rcases j with _ | _ | j
          · exact .inl (Option.some.inj (show some 22 = some t from ht)).symm
          · exact .inr (Option.some.inj (show some 3 = some t from ht)).symm
          · simp at ht
        rcases h3 with rfl | rfl
        · exact (show Tryd.prog.wantsStandIn 22 = false by kernel_rfl)
        · exact (show Tryd.prog.wantsStandIn 3 = false by kernel_rfl)⟩)
    (by kernel_rfl)
end Go.Proofs.YthjieekbbhhjgaaDoor
