package heap

import (
	"math"
	"math/rand"
	"slices"
	"testing"

	"jurist/api"
)

func TestHeapBasics(t *testing.T) {
	h := New(3)
	if h.Size() != 3 || h.Len() != 0 || h.Has(0) {
		t.Error("new heap")
	}
	if _, ok := h.Pop(); ok {
		t.Error("Pop of an empty heap")
	}
	if h.Push(-1) != api.ErrArg || h.Push(3) != api.ErrArg || h.Push(math.MinInt) != api.ErrArg {
		t.Error("Push of a number that is none of the heap's")
	}
	for i := range 3 {
		if h.Push(i) != api.OK || !h.Has(i) {
			t.Error("Push", i)
		}
	}
	if h.Push(1) != api.ErrTwice || h.Len() != 3 {
		t.Error("Push twice")
	}
	h.Raise(2, 5)
	h.Raise(0, 5)
	for _, want := range []int{0, 2, 1} {
		if first, ok := h.First(); !ok || first != want || h.Len() == 0 {
			t.Error("First", first, want)
		}
		if n, ok := h.Pop(); !ok || n != want || h.Has(want) {
			t.Error("Pop", n, want)
		}
	}
	if n, ok := h.First(); ok || n != 0 {
		t.Error("First of an empty heap")
	}
}

func TestSizes(t *testing.T) {
	if New(-5).Size() != 0 || New(math.MaxInt).Size() != api.MaxHeap || New(api.MaxHeap).Size() != api.MaxHeap || New(math.MinInt).Size() != 0 {
		t.Error("sizes")
	}
}

func TestWeights(t *testing.T) {
	h := New(2)
	if h.Raise(2, 1) != api.ErrArg || h.Raise(-1, 1) != api.ErrArg || h.Raise(0, -1) != api.ErrArg || h.Raise(5, math.MaxInt64) != api.ErrArg {
		t.Error("Raise ErrArg")
	}
	if h.Raise(0, 1<<62) != api.OK || h.Raise(0, 1) != api.ErrOverflow || h.Raise(0, math.MaxInt64) != api.ErrOverflow || h.Weight(0) != 1<<62 || h.Raise(0, 0) != api.OK {
		t.Error("Raise ErrOverflow")
	}
	h.Raise(1, 3)
	h.Halve()
	if h.Weight(1) != 1 || h.Weight(0) != 1<<61 || h.Weight(2) != 0 || h.Weight(-1) != 0 {
		t.Error("Halve")
	}
}

func TestHalveReorders(t *testing.T) {
	h := New(3)
	h.Raise(0, 2)
	h.Raise(1, 3)
	h.Raise(2, 3)
	for i := range 3 {
		h.Push(i)
	}
	h.Halve()
	if got := slices.Collect(h.All()); !slices.Equal(got, []int{0, 1, 2}) {
		t.Error("order after Halve", got)
	}
	if n, _ := h.Pop(); n != 0 {
		t.Error("Pop after Halve", n)
	}
}

func TestAll(t *testing.T) {
	h := New(5)
	all := h.All()
	h.Push(4)
	h.Push(1)
	h.Push(3)
	h.Raise(3, 7)
	if got := slices.Collect(all); !slices.Equal(got, []int{3, 1, 4}) {
		t.Error("All is of the time of the iteration", got)
	}
	count := 0
	for range all {
		count++
		break
	}
	if count != 1 || h.Len() != 3 {
		t.Error("All stops and changes nothing")
	}
	for i := range all {
		h.Halve()
		if h.Has(i) {
			h.Pop()
		}
	}
}

func TestHeapAgainstSorting(t *testing.T) {
	r := rand.New(rand.NewSource(3))
	h := New(40)
	weight, in := make([]int64, 40), make([]bool, 40)
	first := func() int {
		best := -1
		for i := range in {
			if in[i] && (best < 0 || weight[i] > weight[best]) {
				best = i
			}
		}
		return best
	}
	for range 20000 {
		i := r.Intn(40)
		switch r.Intn(5) {
		case 0, 1:
			if (h.Push(i) == api.OK) == in[i] {
				t.Fatal("Push")
			}
			in[i] = true
		case 2:
			want := first()
			n, ok := h.Pop()
			if ok != (want >= 0) || ok && n != want {
				t.Fatal("Pop", n, want)
			}
			if ok {
				in[n] = false
			}
		case 3:
			by := int64(r.Intn(6))
			h.Raise(i, by)
			weight[i] += by
		case 4:
			if r.Intn(20) == 0 {
				h.Halve()
				for i := range weight {
					weight[i] /= 2
				}
			}
		}
		if r.Intn(10) == 0 {
			for n := range h.All() {
				if n != first() {
					t.Fatal("All")
				}
				break
			}
		}
		if n, ok := h.First(); ok && n != first() || h.Has(i) != in[i] || h.Weight(i) != weight[i] {
			t.Fatal("state")
		}
	}
}

func TestNilAndZeroHeap(t *testing.T) {
	var none *Heap
	if none.Size() != 0 || none.Len() != 0 || none.Has(0) || none.Push(0) != api.ErrNil || none.Raise(0, 1) != api.ErrNil || none.Weight(0) != 0 {
		t.Error("nil heap")
	}
	none.Halve()
	if _, ok := none.Pop(); ok {
		t.Error("nil Pop")
	}
	if _, ok := none.First(); ok {
		t.Error("nil First")
	}
	for range none.All() {
		t.Error("nil All")
	}
	var zero Heap
	zero.Halve()
	if zero.Size() != 0 || zero.Push(0) != api.ErrArg || zero.Raise(0, 0) != api.ErrArg || zero.Has(0) {
		t.Error("zero heap")
	}
	for range zero.All() {
		t.Error("zero All")
	}
}

func TestTrail(t *testing.T) {
	var tr Trail[string]
	tr.Push("a")
	if tr.Level() != 0 || tr.Mark() != 0 || tr.Level() != 1 {
		t.Error("Mark")
	}
	tr.Push("b")
	tr.Push("c")
	if x, ok := tr.At(2); !ok || x != "c" {
		t.Error("At", x)
	}
	for _, i := range []int{-1, 3, math.MinInt} {
		if x, ok := tr.At(i); ok || x != "" {
			t.Error("At", i)
		}
	}
	if tr.Back(1) != nil || tr.Back(-1) != nil || tr.Len() != 3 || tr.Level() != 1 {
		t.Error("Back to no mark")
	}
	if gone := tr.Back(0); !slices.Equal(gone, []string{"c", "b"}) || tr.Len() != 1 || tr.Level() != 0 {
		t.Error("Back", gone)
	}
}

func TestTrailLevels(t *testing.T) {
	var tr Trail[int]
	for level := range 3 {
		tr.Push(level)
		if tr.Mark() != level {
			t.Error("level")
		}
	}
	tr.Push(3)
	gone := tr.Back(1)
	if !slices.Equal(gone, []int{3, 2}) || tr.Len() != 2 || tr.Level() != 1 {
		t.Error("Back over two marks", gone)
	}
	tr.Push(9)
	if !slices.Equal(gone, []int{3, 2}) {
		t.Error("what Back gave out is the caller's own")
	}
	if gone := tr.Back(0); !slices.Equal(gone, []int{9, 1}) {
		t.Error("Back", gone)
	}
	var none *Trail[int]
	none.Push(1)
	if x, ok := none.At(0); ok || x != 0 || none.Len() != 0 || none.Mark() != 0 || none.Level() != 0 || none.Back(0) != nil {
		t.Error("nil trail")
	}
}
