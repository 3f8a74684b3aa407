package group_test

import (
	"slices"
	"testing"

	"commodatum/api"
	"commodatum/group"
)

// Normal agrees with the definition for all groups of permutations of four points and their subgroups.
func TestNormal(t *testing.T) {
	list := subgroups(4)
	for _, l := range list {
		for _, sub := range list {
			normal, e := group.Normal(l, sub)
			if !contains(l, sub) {
				if e != api.ErrArg || normal {
					t.Fatalf("Normal(%v, %v) = %v, %v", l, sub, normal, e)
				}
				continue
			}
			if e != api.OK || normal != isNormal(l, sub) {
				t.Fatalf("Normal(%v, %v) = %v, %v", l, sub, normal, e)
			}
		}
	}
}

func isNormal(l, sub []api.Perm) bool {
	set := setOf(sub)
	for _, c := range l {
		for _, s := range sub {
			if !set[name(conjugate(s, c))] {
				return false
			}
		}
	}
	return true
}

func TestNormalOfAllPermutations(t *testing.T) {
	for n := 1; n <= api.MaxPoints; n++ {
		all := everyPerm(n)
		for _, sub := range [][]api.Perm{{identity(n)}, evenPerms(n), all} {
			if normal, e := group.Normal(all, sub); e != api.OK || !normal {
				t.Errorf("Normal of %d permutations, %d points = %v, %v", len(sub), n, normal, e)
			}
		}
		if n < 3 {
			continue
		}
		exchange := identity(n)
		exchange[0], exchange[1] = 1, 0
		if normal, e := group.Normal(all, []api.Perm{identity(n), exchange}); e != api.OK || normal {
			t.Errorf("Normal of an exchange, %d points = %v, %v", n, normal, e)
		}
		if normal, e := group.Normal(evenPerms(n), all); e != api.ErrArg || normal {
			t.Errorf("Normal of a greater group, %d points = %v, %v", n, normal, e)
		}
	}
}

// A subgroup has the points of its group, even if its only element is an identity.
func TestNormalOfOtherPoints(t *testing.T) {
	for n := 1; n <= api.MaxPoints; n++ {
		for m := 1; m <= api.MaxPoints; m++ {
			wanted := api.OK
			if n != m {
				wanted = api.ErrArg
			}
			one := []api.Perm{identity(m)}
			for _, l := range [][]api.Perm{everyPerm(n), {identity(n)}} {
				if normal, e := group.Normal(l, one); e != wanted || normal != (n == m) {
					t.Errorf("Normal of %d and %d points = %v, %v", n, m, normal, e)
				}
			}
		}
	}
}

// P2.4: the center consists of the classes of one element, which commute with every element.
func TestCenter(t *testing.T) {
	for n := 1; n <= 5; n++ {
		for _, l := range subgroups(n) {
			var wanted []api.Perm
			for _, p := range l {
				if !slices.ContainsFunc(l, func(q api.Perm) bool { return name(product(p, q)) != name(product(q, p)) }) {
					wanted = append(wanted, p)
				}
			}
			center, e := group.Center(l)
			want(t, "Center", center, e, wanted)
			classes, e := group.Classes(l)
			var single []api.Perm
			for _, class := range classes {
				if len(class) == 1 {
					single = append(single, class[0])
				}
			}
			want(t, "Center", center, e, single)
		}
	}
}

func TestCenterOfAllPermutations(t *testing.T) {
	for n := 3; n <= api.MaxPoints; n++ {
		center, e := group.Center(everyPerm(n))
		want(t, "Center", center, e, []api.Perm{identity(n)})
	}
	center, e := group.Center([]api.Perm{{0, 1}, {1, 0}})
	want(t, "Center of two points", center, e, []api.Perm{{0, 1}, {1, 0}})
	center, e = group.Center(closed(t, api.Perm{1, 2, 3, 0}, api.Perm{2, 1, 0, 3}))
	want(t, "Center of a square", center, e, []api.Perm{{0, 1, 2, 3}, {2, 3, 0, 1}})
}

// P2.4: each element is in exactly one class, that of its conjugates; sizes of classes divide the order.
func TestClasses(t *testing.T) {
	for n := 1; n <= 5; n++ {
		for _, l := range subgroups(n) {
			classes, e := group.Classes(l)
			var wanted [][]api.Perm
			done := map[string]bool{}
			for _, p := range l {
				if done[name(p)] {
					continue
				}
				var class []api.Perm
				for _, c := range l {
					class = append(class, conjugate(p, c))
					done[name(conjugate(p, c))] = true
				}
				wanted = append(wanted, rising(class))
			}
			if len(classes) != len(wanted) {
				t.Fatalf("Classes(%v) = %v; want %v", l, classes, wanted)
			}
			for i, class := range classes {
				want(t, "class", class, e, wanted[i])
				if len(l)%len(class) != 0 {
					t.Errorf("Classes(%v) has a class of %d elements", l, len(class))
				}
			}
		}
	}
}

// The classes of all permutations are those of the same lengths of cycles: there is one for each partition.
func TestClassesOfAllPermutations(t *testing.T) {
	partitions := []int{1, 2, 3, 5, 7, 11, 15}
	for n := 1; n <= api.MaxPoints; n++ {
		classes, e := group.Classes(everyPerm(n))
		if e != api.OK || len(classes) != partitions[n-1] {
			t.Fatalf("Classes of all permutations of %d points: %d, %v", n, len(classes), e)
		}
		var together []api.Perm
		for i, class := range classes {
			if names(rising(class)) != names(class) || i > 0 && name(classes[i-1][0]) >= name(class[0]) {
				t.Fatalf("Classes of all permutations of %d points are not rising", n)
			}
			together = append(together, class...)
		}
		if len(together) != len(rising(together)) {
			t.Fatalf("Classes of all permutations of %d points repeat an element", n)
		}
		want(t, "the classes together", rising(together), e, everyPerm(n))
	}
}
