/-
  What an ask comes to, alone.
-/
import Derived.Test.YtcncimnhbggdaaaDoorSk1
set_option linter.unusedVariables false
set_option linter.unusedSimpArgs false
namespace Go.Proofs.YtcncimnhbggdaaaDoor
open Go.RowKit Go.Maps Go.Sort

/-- What an ask comes to. -/
def Vd (z : Nat) (s : Sl) (ins : List AskR) (x : AskR) (n : Nat) (s' : Sl) (o : Opm) : Prop :=
  (pk x.kind 3 = 2 ∧ ks s' = ks s ∧ ∃ (j : Nat) (a : AskR), ins[j]? = some a ∧ o.fk = a.key ∧ o.nm = a.ref ∧ o.had = true ∧ o.code = 0 ∧ ¬ Blw a.key x.key ∧ ∀ b ∈ ins, Blw b.key x.key ∨ ¬ Blw b.key a.key) ∨
  (pk x.kind 3 = 2 ∧ ks s' = ks s ∧ o.fk = .empty ∧ o.nm = 0 ∧ o.had = false ∧ o.code = 0 ∧ ∀ b ∈ ins, Blw b.key x.key) ∨
  (pk x.kind 3 ≠ 2 ∧ good x.key = false ∧ ks s' = ks s ∧ o.fk = .empty ∧ o.nm = 0 ∧ o.had = false ∧ o.code = 100 ∧ n = 1) ∨
  (pk x.kind 3 ≠ 2 ∧ good x.key = true ∧ ks s' = ks s ∧ ∃ (j : Nat) (a : AskR), ins[j]? = some a ∧ a.key = x.key ∧ o.fk = x.key ∧ o.nm = a.ref ∧ o.had = true ∧ o.code = 0) ∨
  (pk x.kind 3 = 1 ∧ good x.key = true ∧ ks s' = ks s ∧ o.fk = .empty ∧ o.nm = 0 ∧ o.had = false ∧ o.code = 0 ∧ ∀ b ∈ ins, b.key ≠ x.key) ∨
  (pk x.kind 3 = 0 ∧ good x.key = true ∧ ks s' = ks s ∧ o.fk = .empty ∧ o.nm = 0 ∧ o.had = false ∧ o.code = 31 ∧ (∀ b ∈ ins, b.key ≠ x.key) ∧ z < s.cells.length + hgt x.h) ∨
  (pk x.kind 3 = 0 ∧ good x.key = true ∧ ks s' = ks s ++ [(x.key, x.ref, hgt x.h)] ∧ o.fk = x.key ∧ o.nm = x.ref ∧ o.had = false ∧ o.code = 0 ∧ (∀ b ∈ ins, b.key ≠ x.key) ∧ s.cells.length + hgt x.h ≤ z)

section
variable {s s' : Sl} {ins : List AskR} {x : AskR} {o : Opm} {z : Nat}
theorem Inn.no (h : Inn s ins) {P : ByteArray → Prop} (hn : ∀ y, 1 ≤ y → y < s.tw.length → P (s.at y).k) : ∀ b ∈ ins, P b.key := fun b hb => by
  obtain ⟨i, hi, rfl⟩ := List.getElem_of_mem hb
  obtain ⟨a1, a2, a3⟩ := h.at (List.getElem?_eq_getElem hi)
  have := hn (i + 1) (by omega) a1
  rw [a2] at this
  exact this
theorem Fin.vd_next (hI : Inn s ins) (hp : pk x.kind 3 = 2) {r : Int} {h n : Nat} (hf : Fin s x.key 1 r h s' o) : Vd z s ins x n s' o := by
  obtain ⟨-, hc, -, hf⟩ := hf
  rcases hf with ⟨j, h1, h2, h3, h4, h5, h6, h7⟩ | ⟨_, h1, h2, h3, h4, h5⟩ | ⟨q, _⟩
  · obtain ⟨a, ha, e1, e2⟩ := hI.of h1 h2
    refine .inl ⟨hp, h6, j - 1, a, ha, by rw [h3, e1], by rw [h4, e2], h5, hc, ?_, ?_⟩
    · rw [← e1]
      rcases h7 with q | ⟨_, q, _⟩
      · rw [q]; exact Blw.irrefl
      · exact Blw.asymm q
    · rw [← e1]
      refine hI.no (P := fun k => Blw k x.key ∨ ¬ Blw k (s.at j).k) (fun y y1 y2 => ?_)
      rcases h7 with q | ⟨_, _, q⟩
      · rw [q]
        exact Classical.em _
      · exact q y y1 y2
  · exact .inr (.inl ⟨hp, h4, h1, h2, h3, hc, hI.no (P := fun k => Blw k x.key) (fun y y1 y2 => (h5 y y1 y2).1 rfl)⟩)
  · exact absurd q (by decide)
theorem Fin.vd_look (hI : Inn s ins) (hp : pk x.kind 3 = 1) (hg : good x.key = true) {r : Int} {h n : Nat} (hf : Fin s x.key 0 r h s' o) : Vd z s ins x n s' o := by
  obtain ⟨-, hc, -, hf⟩ := hf
  rcases hf with ⟨j, h1, h2, h3, h4, h5, h6, h7⟩ | ⟨_, h1, h2, h3, h4, h5⟩ | ⟨q, _⟩
  · obtain ⟨a, ha, e1, e2⟩ := hI.of h1 h2
    have hk : (s.at j).k = x.key := by
      rcases h7 with q | ⟨q, _⟩
      · exact q
      · exact absurd q (by decide)
    exact .inr (.inr (.inr (.inl ⟨by omega, hg, h6, j - 1, a, ha, by rw [← e1]; exact hk, by rw [h3]; exact hk, by rw [h4, e2], h5, hc⟩)))
  · exact .inr (.inr (.inr (.inr (.inl ⟨hp, hg, h4, h1, h2, h3, hc, hI.no (P := fun k => k ≠ x.key) (fun y y1 y2 => (h5 y y1 y2).2)⟩))))
  · exact absurd q (by decide)
theorem Fin.vd_ins (hI : Inn s ins) (hp : pk x.kind 3 = 0) (hg : good x.key = true) (hsp : s.sp = []) (hz : s'.cells.length ≤ z) {n : Nat} (hf : Fin s x.key 2 x.ref (hgt x.h) s' o ∨ FFin s x.key 2 (hgt x.h) z s' o) : Vd z s ins x n s' o := by
  rcases hf with ⟨-, hc, hsp', hf⟩ | ⟨-, -, f1, f2, f3, f4, f5, f6, f7, f8⟩
  · rcases hf with ⟨j, h1, h2, h3, h4, h5, h6, h7⟩ | ⟨q, _⟩ | ⟨_, h1, h2, h3, h4, h5⟩
    · obtain ⟨a, ha, e1, e2⟩ := hI.of h1 h2
      have hk : (s.at j).k = x.key := by
        rcases h7 with q | ⟨q, _⟩
        · exact q
        · exact absurd q (by decide)
      exact .inr (.inr (.inr (.inl ⟨by omega, hg, h6, j - 1, a, ha, by rw [← e1]; exact hk, by rw [h3]; exact hk, by rw [h4, e2], h5, hc⟩)))
    · exact absurd rfl q
    · refine .inr (.inr (.inr (.inr (.inr (.inr ⟨hp, hg, h4, h1, h2, h3, hc, hI.no (P := fun k => k ≠ x.key) h5, ?_⟩)))))
      rw [cells_len, hsp', h4] at hz
      rw [cells_len, hsp]
      simp at hz ⊢
      omega
  · exact .inr (.inr (.inr (.inr (.inr (.inl ⟨hp, hg, f5, f1, f2, f3, f4, hI.no (P := fun k => k ≠ x.key) f8, f7⟩)))))
end

section
variable {w : World} {K : Nat → Prop} {lb d z M : Nat} {s : Sl} {ob : Nat} {x : AskR} {ins : List AskR}
/-- done, of an ask's operation. -/
theorem done_ask (hl : LT w K lb d z M s) (hsp : s.sp = []) (hI : Inn s ins) (ho : Om w ob (lpp lb) nilv (opA x)) (hob : ¬ K ob) (h0 : ob ≠ 0) (hn : ins.length ≤ 1000) (hM : M < 1000000000000) :
    Calls Tryd.prog 15 #[.pointer (some ⟨ob, 0, none⟩), .int .i64 ((32 + 2 * ins.length : Nat) : Int)] w fun e w' => ∃ (n : Nat) (s' : Sl) (o' : Opm) (K' : Nat → Prop) (cv' : Value), e = .returned (.int .i64 (n : Int)) ∧ 1 ≤ n ∧ o'.st = 5 ∧ s'.sp = [] ∧ Vd z s ins x n s' o' ∧ LT w' K' lb d z (M + 5000) s' ∧ Om w' ob (lpp lb) cv' o' ∧ ¬ K' ob ∧ (∀ j, j < w.heap.size → (K' j ↔ K j)) ∧ Fr (fun j => K j ∨ j = ob) w w' := by
  have hpk := pk_lt x.kind (n := 3) (by decide)
  have hlen := hI.len
  have hh := hgt_bd x.h
  unfold opA at ho
  rcases (show pk x.kind 3 = 0 ∨ pk x.kind 3 = 1 ∨ pk x.kind 3 = 2 by omega) with hp | hp | hp
  · rw [if_pos hp] at ho
    cases hg : good x.key with
    | true =>
      rw [if_pos hg] at ho
      refine (done_full (most := 32 + 2 * ins.length) (kind := 2) hl hsp ho hob h0 (fun _ _ => rfl) (fun _ => ⟨hg, hh⟩) (by rw [if_pos rfl]; omega) (by omega) hM).mono ?_
      rintro e w' ⟨n, s', o', K', cv', rfl, n1, hf, hl', ho', k1, k2, k3⟩
      refine ⟨n, s', o', K', cv', rfl, n1, ?_, ?_, Fin.vd_ins hI hp hg hsp hl'.le hf, hl'.up (by omega), ho', k1, k2, k3⟩
      · rcases hf with q | q
        · exact q.1
        · exact q.2.1
      · rcases hf with q | q
        · exact q.2.2.1
        · exact q.2.2.2.2.2.2.2.1
    | false =>
      rw [if_neg (by rw [hg]; decide)] at ho
      refine (done_gen (P := fun q u => q = 1 ∧ u = w) (R := fun u => LT u K lb d z M s ∧ Om u ob (lpp lb) nilv { opN 2 with r := x.ref, h := hgt x.h, code := 100, st := 5 } ∧ Fr (fun j => j = ob) w u) (p := 1) ⟨rfl, rfl⟩ (fun q u h => by omega) (fun q u h => ?_) (show 1 ≤ 32 + 2 * ins.length by omega) (by omega)).mono ?_
      · obtain ⟨rfl, rfl⟩ := h
        refine (hl.refuse ho hob (fun e => h0 e.symm) rfl).mono ?_
        rintro e w' ⟨rfl, q1, q2, q3⟩
        exact ⟨true, rfl, fun _ => ⟨q1, q2, q3⟩, fun q => (nomatch q)⟩
      · rintro e w' ⟨n, rfl, n1, n2, q1, q2, q3⟩
        exact ⟨n, s, _, K, nilv, rfl, n1, rfl, hsp, .inr (.inr (.inl ⟨by omega, hg, rfl, rfl, rfl, rfl, rfl, by omega⟩)), q1.up (by omega), q2, hob, fun _ _ => Iff.rfl, q3.mono (fun j _ e => .inr e)⟩
  · rw [if_neg (by omega), if_pos hp] at ho
    cases hg : good x.key with
    | true =>
      rw [if_pos hg] at ho
      refine (done_full (most := 32 + 2 * ins.length) (kind := 0) (r := 0) (h := 0) hl hsp ho hob h0 (fun q => absurd rfl q) (fun q => absurd q (by decide)) (by rw [if_neg (by decide)]; omega) (by omega) hM).mono ?_
      rintro e w' ⟨n, s', o', K', cv', rfl, n1, hf, hl', ho', k1, k2, k3⟩
      rcases hf with hf | hf
      · exact ⟨n, s', o', K', cv', rfl, n1, hf.1, hf.2.2.1, Fin.vd_look hI hp hg hf, hl'.up (by omega), ho', k1, k2, k3⟩
      · exact absurd hf.1 (by decide)
    | false =>
      rw [if_neg (by rw [hg]; decide)] at ho
      refine (done_gen (P := fun q u => q = 1 ∧ u = w) (R := fun u => LT u K lb d z M s ∧ Om u ob (lpp lb) nilv { opN 0 with code := 100, st := 5 } ∧ Fr (fun j => j = ob) w u) (p := 1) ⟨rfl, rfl⟩ (fun q u h => by omega) (fun q u h => ?_) (show 1 ≤ 32 + 2 * ins.length by omega) (by omega)).mono ?_
      · obtain ⟨rfl, rfl⟩ := h
        refine (hl.refuse ho hob (fun e => h0 e.symm) rfl).mono ?_
        rintro e w' ⟨rfl, q1, q2, q3⟩
        exact ⟨true, rfl, fun _ => ⟨q1, q2, q3⟩, fun q => (nomatch q)⟩
      · rintro e w' ⟨n, rfl, n1, n2, q1, q2, q3⟩
        exact ⟨n, s, _, K, nilv, rfl, n1, rfl, hsp, .inr (.inr (.inl ⟨by omega, hg, rfl, rfl, rfl, rfl, rfl, by omega⟩)), q1.up (by omega), q2, hob, fun _ _ => Iff.rfl, q3.mono (fun j _ e => .inr e)⟩
  · rw [if_neg (by omega), if_neg (by omega)] at ho
    refine (done_full (most := 32 + 2 * ins.length) (kind := 1) (r := 0) (h := 0) hl hsp ho hob h0 (fun _ q => absurd rfl q) (fun q => absurd q (by decide)) (by rw [if_neg (by decide)]; omega) (by omega) hM).mono ?_
    rintro e w' ⟨n, s', o', K', cv', rfl, n1, hf, hl', ho', k1, k2, k3⟩
    rcases hf with hf | hf
    · exact ⟨n, s', o', K', cv', rfl, n1, hf.1, hf.2.2.1, Fin.vd_next hI hp hf, hl'.up (by omega), ho', k1, k2, k3⟩
    · exact absurd hf.1 (by decide)
end
end Go.Proofs.YtcncimnhbggdaaaDoor
