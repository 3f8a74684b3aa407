package group_test

import (
	"slices"
	"testing"

	"commodatum/api"
	"commodatum/group"
)

// flat joins the lists of a result, so that one check serves all functions.
func flat(lists [][]api.Perm) []api.Perm { return slices.Concat(lists...) }

func flatPairs(list [][2]api.Perm) []api.Perm {
	var all []api.Perm
	for _, pair := range list {
		all = append(all, pair[:]...)
	}
	return all
}

// calls are the functions of a group, with results that are flat lists.
func calls() map[string]func(l []api.Perm) ([]api.Perm, api.Errno) {
	return map[string]func(l []api.Perm) ([]api.Perm, api.Errno){
		"Close":   group.Close,
		"Derived": group.Derived,
		"Center":  group.Center,
		"Series": func(l []api.Perm) ([]api.Perm, api.Errno) {
			lists, e := group.Series(l)
			return flat(lists), e
		},
		"Classes": func(l []api.Perm) ([]api.Perm, api.Errno) {
			lists, e := group.Classes(l)
			return flat(lists), e
		},
		"Pairs": func(l []api.Perm) ([]api.Perm, api.Errno) {
			list, e := group.Pairs(l, api.Perm{1, 2, 0})
			return flatPairs(list), e
		},
		"Solvable": func(l []api.Perm) ([]api.Perm, api.Errno) {
			is, e := group.Solvable(l)
			if is && e != api.OK {
				return l, e
			}
			return nil, e
		},
		"Normal": func(l []api.Perm) ([]api.Perm, api.Errno) {
			is, e := group.Normal(l, l)
			if is && e != api.OK {
				return l, e
			}
			return nil, e
		},
	}
}

// R1 to R3: lists that are no groups are rejected, without any other result.
func TestErrors(t *testing.T) {
	for function, call := range calls() {
		for _, l := range notAlike() {
			if got, e := call(l); e != api.ErrForm || len(got) != 0 {
				t.Errorf("%s of %s = %s, %v", function, brief(l), brief(got), e)
			}
		}
		for _, l := range notGroups() {
			got, e := call(l)
			if function == "Close" {
				if e != api.OK || !contains(got, l) || !group.Valid(got) {
					t.Errorf("%s of %s = %s, %v", function, brief(l), brief(got), e)
				}
			} else if e != api.ErrForm || len(got) != 0 {
				t.Errorf("%s of %s = %s, %v", function, brief(l), brief(got), e)
			}
		}
	}
}

// R2: both arguments of Normal are checked before they are compared.
func TestNormalErrors(t *testing.T) {
	for _, bad := range append(notAlike(), notGroups()...) {
		for _, l := range [][]api.Perm{{{0}}, {{0, 1}, {1, 0}}, everyPerm(3), bad} {
			if is, e := group.Normal(bad, l); e != api.ErrForm || is {
				t.Errorf("Normal(%s, %s) = %v, %v", brief(bad), brief(l), is, e)
			}
			if is, e := group.Normal(l, bad); e != api.ErrForm || is {
				t.Errorf("Normal(%s, %s) = %v, %v", brief(l), brief(bad), is, e)
			}
		}
	}
}

// R5 and R6: arguments stay as they are, results are new memory, and equal calls have equal results.
func TestMemory(t *testing.T) {
	for function, call := range calls() {
		for _, l := range [][]api.Perm{everyPerm(3), everyPerm(4)[:1], everyPerm(3)[:1], evenPerms(3)} {
			given := clones(l)
			first, e := call(given)
			wanted := clones(first)
			for i, p := range first {
				for j := range p {
					p[j] = 10*i + j + 10
				}
			}
			for i, p := range first {
				_ = append(p, 9)
				for j := range p {
					if p[j] != 10*i+j+10 {
						t.Fatalf("%s(%v): two permutations of the result share memory", function, l)
					}
				}
			}
			if names(given) != names(l) {
				t.Fatalf("%s changed %v to %v", function, l, given)
			}
			again, f := call(given)
			if f != e || names(again) != names(wanted) {
				t.Fatalf("%s(%v) = %v, %v and then %v, %v", function, l, wanted, e, again, f)
			}
		}
	}
}

// R5: no list of a result grows into another one.
func TestListsShareNothing(t *testing.T) {
	for _, call := range []func([]api.Perm) ([][]api.Perm, api.Errno){group.Series, group.Classes} {
		lists, _ := call(everyPerm(4))
		before := names(flat(lists))
		for _, l := range lists {
			_ = append(l, api.Perm{9})
		}
		if names(flat(lists)) != before {
			t.Errorf("lists of one result share memory: %v", lists)
		}
	}
}

// R5: the arguments of Pairs and of Normal are not changed.
func TestSecondArgument(t *testing.T) {
	all, even := everyPerm(4), evenPerms(4)
	g := api.Perm{1, 2, 0, 3}
	pairs, _ := group.Pairs(all, g)
	for _, p := range flatPairs(pairs) {
		p[0] = 9
	}
	_, _ = group.Normal(all, even)
	if name(g) != "1203" || names(all) != names(everyPerm(4)) || names(even) != names(evenPerms(4)) {
		t.Errorf("changed arguments: %v, %v, %v", all, even, g)
	}
}

func clones(l []api.Perm) []api.Perm {
	var list []api.Perm
	for _, p := range l {
		list = append(list, slices.Clone(p))
	}
	return list
}
