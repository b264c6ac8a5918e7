package window

import (
	"slices"
	"testing"

	"souterrain/api"
)

// The document's own numbers: package words holds api's against them.
const (
	most  = 1 << 40
	width = 64
)

// said is a window in P23's own words: it forgets none of the numbers.
type said struct {
	order   []int
	taken   map[int]bool
	highest int
}

func newSaid() *said { return &said{taken: map[int]bool{}} }

func (s *said) check(n int) api.Errno {
	if n < 0 || n > most {
		return api.ErrArg
	}
	if s.taken[n] || len(s.order) > 0 && s.highest-n >= width {
		return api.ErrOld
	}
	return api.OK
}

func (s *said) take(n int) api.Errno {
	e := s.check(n)
	if e == api.OK {
		s.order, s.taken[n] = append(s.order, n), true
		s.highest = slices.Max(s.order)
	}
	return e
}

func (s *said) next() int {
	if len(s.order) == 0 {
		return 0
	}
	return s.highest + 1
}

// both is a Window, and what the chapter says of it.
type both struct {
	*Window
	said *said
}

func newBoth() both { return both{New(), newSaid()} }

// behind answers both where these were taken, which all were to be had.
func behind(t *testing.T, list ...int) both {
	t.Helper()
	b := newBoth()
	for _, n := range list {
		if e := b.said.take(n); e != api.OK {
			t.Fatal(n, e, "in", list)
		}
		wantTake(t, b.Window, n, api.OK)
	}
	return b
}

func (b both) wantCheck(t *testing.T, n int) {
	t.Helper()
	if got, right := b.Check(n), b.said.check(n); got != right {
		t.Errorf("Check(%d) = %d; want %d, behind %d", n, got, right, b.said.order)
	}
}

func (b both) wantTake(t *testing.T, n int) {
	t.Helper()
	right := b.said.take(n)
	if got := b.Take(n); got != right {
		t.Errorf("Take(%d) = %d; want %d, behind %d", n, got, right, b.said.order)
	}
}

func (b both) wantNext(t *testing.T) {
	t.Helper()
	if got, right := b.Next(), b.said.next(); got != right {
		t.Errorf("Next() = %d; want %d, behind %d", got, right, b.said.order)
	}
}

// wantAll holds Next, and Check of each number that may matter.
func (b both) wantAll(t *testing.T) {
	t.Helper()
	b.wantNext(t)
	for _, n := range around(b.said.next()) {
		b.wantCheck(t, n)
	}
	b.wantNext(t)
}

// around answers each number that is not far from n, and those at the bounds.
func around(n int) []int {
	list := append(rightNumbers(), wrongNumbers()...)
	for i := n - 3*width; i <= n+width; i++ {
		list = append(list, i)
	}
	return list
}
