package tree_test

import (
	"math/rand"
	"slices"
	"testing"

	"campanile/api"
	"campanile/topo"
	"campanile/tree"
)

const (
	big   = 1<<63 - 1
	small = -1 << 63
)

// graph: links as a, b, quality, both ways.
func graph(t *testing.T, nodes int, links ...int) *topo.Graph {
	t.Helper()
	g := topo.New(nodes)
	said := make([][]api.Link, nodes)
	for i := 0; i < len(links); i += 3 {
		a, b, q := links[i], links[i+1], links[i+2]
		said[a] = append(said[a], api.Link{A: a, B: b, Q: q})
		said[b] = append(said[b], api.Link{A: b, B: a, Q: q})
	}
	for me, l := range said {
		if err := g.Report(me, l); err != api.OK {
			t.Fatal(me, l, err)
		}
	}
	return g
}

type row struct {
	rank              int // -1: none
	parents, children []int
	path              []int
}

func want(t *testing.T, x *tree.Tree, order []int, rows ...row) {
	t.Helper()
	if !slices.Equal(x.Order(), order) {
		t.Error("order", x.Order())
	}
	for node, r := range rows {
		rank, ok := x.Rank(node)
		if ok != (r.rank >= 0) || rank != max(r.rank, 0) {
			t.Error(node, "rank", rank, ok)
		}
		if l := x.Parents(node); !slices.Equal(l, r.parents) {
			t.Error(node, "parents", l)
		}
		if l := x.Children(node); !slices.Equal(l, r.children) {
			t.Error(node, "children", l)
		}
		if l := x.Path(node); !slices.Equal(l, r.path) {
			t.Error(node, "path", l)
		}
	}
	for _, node := range []int{-1, len(rows), 16, 64, big, small} {
		if rank, ok := x.Rank(node); rank != 0 || ok || len(x.Parents(node))+len(x.Children(node))+len(x.Path(node)) != 0 {
			t.Error(node, rank, ok)
		}
	}
}

// P21.1: ranks, parents, children, paths.
func TestBuild(t *testing.T) {
	want(t, tree.Build(graph(t, 3, 0, 1, 9, 1, 2, 9), 1), []int{0, 1, 2}, row{0, nil, []int{1}, []int{0}}, row{1, []int{0}, []int{2}, []int{0, 1}}, row{2, []int{1}, nil, []int{0, 1, 2}})
	want(t, tree.Build(graph(t, 1), 0), []int{0}, row{0, nil, nil, []int{0}})
	// who hears nobody well enough has no rank, and no parents
	g := graph(t, 7, 0, 4, 10, 0, 2, 10, 0, 1, 10, 4, 3, 30, 2, 3, 20, 1, 3, 30, 1, 2, 99, 3, 5, 9, 5, 6, 50)
	want(t, tree.Build(g, 10), []int{0, 1, 2, 4, 3}, row{0, nil, []int{1, 2, 4}, []int{0}}, row{1, []int{0}, []int{3}, []int{0, 1}}, row{1, []int{0}, nil, []int{0, 2}}, row{2, []int{1, 4}, nil, []int{0, 1, 3}}, row{1, []int{0}, nil, []int{0, 4}}, row{rank: -1}, row{rank: -1})
	want(t, tree.Build(g, 9), []int{0, 1, 2, 4, 3, 5, 6}, row{0, nil, []int{1, 2, 4}, []int{0}}, row{1, []int{0}, []int{3}, []int{0, 1}}, row{1, []int{0}, nil, []int{0, 2}}, row{2, []int{1, 4}, []int{5}, []int{0, 1, 3}}, row{1, []int{0}, nil, []int{0, 4}}, row{3, []int{3}, []int{6}, []int{0, 1, 3, 5}}, row{4, []int{5}, nil, []int{0, 1, 3, 5, 6}})
	want(t, tree.Build(g, 11), []int{0}, row{0, nil, nil, []int{0}}, row{rank: -1}, row{rank: -1}, row{rank: -1}, row{rank: -1}, row{rank: -1}, row{rank: -1})
	// the best quality first, whatever the numbers
	g = graph(t, 5, 0, 1, 5, 0, 2, 5, 0, 3, 5, 1, 4, 6, 2, 4, 7, 3, 4, 8)
	want(t, tree.Build(g, small), []int{0, 1, 2, 3, 4}, row{0, nil, []int{1, 2, 3}, []int{0}}, row{1, []int{0}, nil, []int{0, 1}}, row{1, []int{0}, nil, []int{0, 2}}, row{1, []int{0}, []int{4}, []int{0, 3}}, row{2, []int{3, 2}, nil, []int{0, 3, 4}})
	// the shortest way, not the best
	g = graph(t, 3, 0, 1, 200, 1, 2, 200, 0, 2, 1)
	want(t, tree.Build(g, 0), []int{0, 1, 2}, row{0, nil, []int{1, 2}, []int{0}}, row{1, []int{0}, nil, []int{0, 1}}, row{1, []int{0}, nil, []int{0, 2}})
}

// R2: a tree is its own.
func TestMemory(t *testing.T) {
	g := graph(t, 3, 0, 1, 9, 1, 2, 9)
	x := tree.Build(g, 1)
	g.Forget(1)
	x.Parents(2)[0] = 7
	x.Children(1)[0] = 7
	x.Order()[0] = 7
	x.Path(2)[0] = 7
	want(t, x, []int{0, 1, 2}, row{0, nil, []int{1}, []int{0}}, row{1, []int{0}, []int{2}, []int{0, 1}}, row{2, []int{1}, nil, []int{0, 1, 2}})
}

// P21.1: nil.
func TestNil(t *testing.T) {
	x := tree.Build(nil, 0)
	if x != nil {
		t.Error("a tree of nothing")
	}
	want(t, x, nil)
}

// P21.2: each has a parent; ranks fall by one; paths are as long as ranks.
func TestRanks(t *testing.T) {
	rnd := rand.New(rand.NewSource(21))
	for range 300 {
		n := 1 + rnd.Intn(16)
		var links []int
		for a := range n {
			for b := range a {
				if rnd.Intn(4) == 0 {
					links = append(links, a, b, 1+rnd.Intn(9))
				}
			}
		}
		least := rnd.Intn(5)
		g := graph(t, n, links...)
		x := tree.Build(g, least)
		for _, node := range x.Order() {
			rank, ok := x.Rank(node)
			parents := x.Parents(node)
			if !ok || (len(parents) == 0) != (node == 0) || len(parents) > 2 {
				t.Fatal(node, rank, ok, parents)
			}
			for _, p := range parents {
				if r, ok := x.Rank(p); !ok || r != rank-1 || g.Quality(p, node) < max(least, 1) {
					t.Fatal(node, p, r, ok)
				}
			}
			path := x.Path(node)
			if len(path) != rank+1 || path[0] != 0 || path[rank] != node {
				t.Fatal(node, path)
			}
			for i := range rank {
				if p := x.Parents(path[i+1]); p[0] != path[i] || !slices.Contains(x.Children(path[i]), path[i+1]) {
					t.Fatal(node, path, p)
				}
			}
			for _, b := range g.Near(node, least) {
				if r, ok := x.Rank(b); !ok || r > rank+1 || r < rank-1 {
					t.Fatal(node, b, r, ok)
				}
			}
		}
	}
}
