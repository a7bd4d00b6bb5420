/- Forks whose way is known. No program is named here. -/
import Derived.Test.YtjbbgpacijageacUC
namespace Go.Proofs.Ytjbbgpacijageac.M
open Go.RowKit

theorem Fork.ndecP {p : Prop} [i : Decidable p] {x y : Prop} (hp : p) (h : y) : Fork (!decide p) x y := Fork.mk (fun e => absurd hp (by simpa using e)) (fun _ => h)
theorem Fork.ndecQ {p : Prop} [i : Decidable p] {x y : Prop} (hp : ¬ p) (h : x) : Fork (!decide p) x y := Fork.mk (fun _ => h) (fun e => absurd (by simpa using e) hp)
theorem Way.ndecP {p : Prop} [i : Decidable p] {x y : Prop} (hp : p) (h : Go y) : Way (!decide p) x y := Way.mk (fun e => absurd hp (by simpa using e)) (fun _ => h.out)
theorem Way.ndecQ {p : Prop} [i : Decidable p] {x y : Prop} (hp : ¬ p) (h : Go x) : Way (!decide p) x y := Way.mk (fun _ => h.out) (fun e => absurd (by simpa using e) hp)
theorem Way.decT {p : Prop} [i : Decidable p] {x y : Prop} (hp : p) (h : Go x) : Way (decide p) x y := Way.decG (fun _ => h) (fun g => absurd hp g)
theorem Way.decN {p : Prop} [i : Decidable p] {x y : Prop} (hp : ¬ p) (h : Go y) : Way (decide p) x y := Way.decG (fun g => absurd g hp) (fun _ => h)
theorem Fork.decT {p : Prop} [i : Decidable p] {x y : Prop} (hp : p) (h : x) : Fork (decide p) x y := Fork.dec (fun _ => h) (fun g => absurd hp g)
theorem Fork.decN {p : Prop} [i : Decidable p] {x y : Prop} (hp : ¬ p) (h : y) : Fork (decide p) x y := Fork.dec (fun g => absurd g hp) (fun _ => h)
end Go.Proofs.Ytjbbgpacijageac.M
