/-
  Package alloc (chapter 22): a link up and a link down, or neither.
-/
import Derived.Test.YtahcplddonipcaaGreatAlLink
set_option maxRecDepth 100000
namespace Go.Proofs.YtahcplddonipcaaGreat.Al
set_option linter.unusedVariables false
set_option linter.unusedSimpArgs false
open Go.RowKit Lb Cl Ce Mi

theorem link_some {F : Hs} {f : Int} {len chans x y : Nat} {o : Int} {G : Hs} (h : linkF F f len chans x y o = some G) : ∃ a b : C, G = addF (addF F x a) y b := by
  unfold linkF at h
  cases hp : placeF F f len chans x y o with
  | none => rw [hp] at h; cases h
  | some i =>
    rw [hp] at h
    injection h with h
    exact ⟨_, _, h.symm⟩
theorem back_link {F : Hs} {x y : Nat} {a b : C} (h : x ≠ y) : backF (backF (addF (addF F x a) y b) x) y = F := by
  funext k
  unfold backF addF
  by_cases h1 : k = y
  · subst h1
    have h2 : ¬ k = x := fun e => h e.symm
    simp [h2]
  · by_cases h2 : k = x
    · subst h2
      simp [h1]
    · simp [h1, h2]
def ServePost (lo db bm : Nat) (f : Int) (len chans x y : Nat) (F : Hs) (w : World) (r : Ending) (w' : World) : Prop := Jb lo bm w w' ∧ ((r = .returned (.bool false) ∧ serveF F f len chans x y = none ∧ ∃ vs', Dr w' lo db bm f len chans vs' F) ∨ ∃ G, r = .returned (.bool true) ∧ serveF F f len chans x y = some G ∧ ∃ vs', Dr w' lo db bm f len chans vs' G)
set_option maxHeartbeats 2000000 in
theorem serve_d (lo db bm x y len chans : Nat) (f : Int) (vs : Nat → Value) (F : Hs) (w : World) (h : Dr w lo db bm f len chans vs F) (hx : x < 16) (hy : y < 16) (hxy : x ≠ y) (hlen : len ≤ 200) (hch : chans ≤ 16) :
    Calls Tryz.prog 23 #[.pointer (some ⟨db, 0, none⟩), .int .i64 (x : Nat), .int .i64 (y : Nat)] w (ServePost lo db bm f len chans x y F w) := by
  have H := Lib.hid h
  clear h
  go_enter Tryz.func23, Tryz.ntmps23
  go_wp2_with fail
  refine (link_d lo db bm x y len chans f 2 vs F w H.out hx hy hxy hlen hch).mono ?_
  rintro r w1 ⟨j1, ⟨rfl, hl, vs1, D1⟩ | ⟨G, rfl, hl, vs1, D1⟩⟩
  · go_wp2_with fail
    go_ret
    exact ⟨j1, .inl ⟨rfl, by unfold serveF; rw [hl]; rfl, vs1, D1⟩⟩
  go_wp2_with fail
  refine (link_d lo db bm y x len chans f 10 vs1 G w1 D1 hy hx (fun e => hxy e.symm) hlen hch).mono ?_
  rintro r w2 ⟨j2, ⟨rfl, hl2, vs2, D2⟩ | ⟨K, rfl, hl2, vs2, D2⟩⟩
  · obtain ⟨a, b, hG⟩ := link_some hl
    have hGx : G x ≠ [] := by
      rw [hG, add_off _ _ hxy, add_at]
      simp
    have hGy : backF G x y ≠ [] := by
      unfold backF
      rw [if_neg (fun e => hxy e.symm), hG, add_at]
      simp
    have hback : backF (backF G x) y = F := by rw [hG]; exact back_link hxy
    have HN : Hid (serveF F f len chans x y = none) := Lib.hid (by unfold serveF; rw [hl]; exact hl2)
    clear hl hl2 hG
    go_wp2_with fail
    refine (take_d lo db bm x f len chans vs2 G w2 D2 hx hGx).mono ?_
    rintro r w3 ⟨rfl, ⟨vs3, D3⟩, j3⟩
    go_wp2_with fail
    refine (take_d lo db bm y f len chans vs3 (backF G x) w3 D3 hy hGy).mono ?_
    rintro r w4 ⟨rfl, ⟨vs4, D4⟩, j4⟩
    rw [hback] at D4
    go_wp2_with fail
    go_ret
    exact ⟨((j1.trans j2).trans j3).trans j4, .inl ⟨rfl, HN.out, vs4, D4⟩⟩
  · go_wp2_with fail
    go_ret
    exact ⟨j1.trans j2, .inr ⟨K, rfl, by unfold serveF; rw [hl]; exact hl2, vs2, D2⟩⟩
end Go.Proofs.YtahcplddonipcaaGreat.Al
