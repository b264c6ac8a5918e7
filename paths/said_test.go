package paths

import (
	"cmp"
	"reflect"
	"slices"
	"testing"

	"souterrain/api"
)

// The document's own numbers: package words holds api's against them.
const (
	most  = 64
	peers = 8
	high  = 1<<32 - 1
)

// said is a table in P24's own words: a plain list, in the order of its coming.
type said struct{ list []api.Path }

// share answers how many addresses have the same first bits, so many of them.
func share(bits int) uint64 {
	n := uint64(1)
	for range 32 - bits {
		n *= 2
	}
	return n
}

// has says whether a's first bits are those of p's Addr.
func has(p api.Prefix, a uint32) bool {
	return uint64(a)/share(p.Bits) == uint64(p.Addr)/share(p.Bits)
}

// cut answers the prefix of so many bits that has a.
func cut(a uint32, bits int) api.Prefix {
	return api.Prefix{Addr: a - uint32(uint64(a)%share(bits)), Bits: bits}
}

func (s *said) check(p api.Prefix, peer int) api.Errno {
	switch {
	case p.Bits < 0 || p.Bits > 32:
		return api.ErrArg
	case peer < 0 || peer > peers-1:
		return api.ErrArg
	case uint64(p.Addr)%share(p.Bits) != 0:
		return api.ErrForm
	case s.at(p) < 0 && len(s.list) == most:
		return api.ErrFull
	}
	return api.OK
}

func (s *said) at(p api.Prefix) int {
	return slices.IndexFunc(s.list, func(x api.Path) bool { return x.Prefix == p })
}

func (s *said) set(p api.Prefix, peer int) api.Errno {
	if e := s.check(p, peer); e != api.OK {
		return e
	}
	if i := s.at(p); i >= 0 {
		s.list[i].Peer = peer
	} else {
		s.list = append(s.list, api.Path{Prefix: p, Peer: peer})
	}
	return api.OK
}

func (s *said) drop(peer int) int {
	var left []api.Path
	for _, x := range s.list {
		if x.Peer != peer {
			left = append(left, x)
		}
	}
	dropped := len(s.list) - len(left)
	s.list = left
	return dropped
}

func (s *said) find(a uint32) (peer int, is bool) {
	longest := -1
	for _, x := range s.list {
		if has(x.Prefix, a) && x.Bits > longest {
			longest, peer, is = x.Bits, x.Peer, true
		}
	}
	return peer, is
}

func (s *said) all() []api.Path {
	return slices.SortedFunc(slices.Values(s.list), func(a, b api.Path) int {
		return cmp.Or(cmp.Compare(a.Addr, b.Addr), cmp.Compare(a.Bits, b.Bits))
	})
}

// both is a Table, and what the chapter says of it.
type both struct {
	*Table
	said *said
}

func newBoth() both { return both{New(), &said{}} }

// of answers both where these were set.
func of(t *testing.T, list ...api.Path) both {
	t.Helper()
	b := newBoth()
	for _, x := range list {
		b.said.set(x.Prefix, x.Peer)
		wantSet(t, b.Table, x.Prefix, x.Peer, api.OK)
	}
	return b
}

func (b both) wantSet(t *testing.T, p api.Prefix, peer int) {
	t.Helper()
	right := b.said.set(p, peer)
	if got := b.Set(p, peer); got != right {
		t.Errorf("Set(%x, %d) = %d; want %d, behind %x", p, peer, got, right, b.said.list)
	}
}

func (b both) wantDrop(t *testing.T, peer int) {
	t.Helper()
	before := b.said.all()
	right := b.said.drop(peer)
	if got := b.Drop(peer); got != right {
		t.Errorf("Drop(%d) = %d; want %d, behind %x", peer, got, right, before)
	}
}

func (b both) wantFind(t *testing.T, a uint32) {
	t.Helper()
	got, gotIs := b.Find(a)
	right, rightIs := b.said.find(a)
	if got != right || gotIs != rightIs {
		t.Errorf("Find(%x) = %d, %t; want %d, %t, behind %x", a, got, gotIs, right, rightIs, b.said.list)
	}
}

func (b both) wantAll(t *testing.T) {
	t.Helper()
	if got, right := b.All(), b.said.all(); !slices.Equal(got, right) {
		t.Errorf("All() = %x; want %x", got, right)
	}
}

// wantWhole holds All, Find of each address that may matter, and that nothing is
// kept beside what those in the table need: it is like one that had no others.
func (b both) wantWhole(t *testing.T) {
	t.Helper()
	b.wantAll(t)
	for _, a := range b.said.addresses() {
		b.wantFind(t, a)
		// One is enough: the others would tell the same at length.
		if t.Failed() {
			return
		}
	}
	if like := of(t, b.said.all()...); !reflect.DeepEqual(b.Table, like.Table) {
		t.Errorf("it keeps other things than one of %x does", b.said.all())
	}
	b.wantAll(t)
}

// addresses answers those at both bounds of each prefix, within it and beside it,
// those whose first bits part from it at each place, and some of nobody in particular.
func (s *said) addresses() []uint32 {
	list := []uint32{0, 1, high, high - 1, 1 << 31, 1<<31 - 1, 0x0a000001, 0x7f000001, 0xc0a80101}
	for _, x := range s.list {
		last := x.Addr + uint32(share(x.Bits)-1)
		list = append(list, x.Addr, x.Addr-1, x.Addr+1, last, last-1, last+1, x.Addr/2+last/2)
		for i := range 32 {
			list = append(list, x.Addr^1<<i)
		}
	}
	return list
}

func wantSet(t *testing.T, of *Table, p api.Prefix, peer int, right api.Errno) {
	t.Helper()
	if got := of.Set(p, peer); got != right {
		t.Errorf("Set(%x, %d) = %d; want %d", p, peer, got, right)
	}
}

func wantDrop(t *testing.T, of *Table, peer, right int) {
	t.Helper()
	if got := of.Drop(peer); got != right {
		t.Errorf("Drop(%d) = %d; want %d", peer, got, right)
	}
}

// wantPeer holds that a is the peer's.
func wantPeer(t *testing.T, of *Table, a uint32, peer int) {
	t.Helper()
	if got, is := of.Find(a); got != peer || !is {
		t.Errorf("Find(%x) = %d, %t; want %d, true", a, got, is, peer)
	}
}

// wantNobody holds that a is nobody's.
func wantNobody(t *testing.T, of *Table, a uint32) {
	t.Helper()
	if got, is := of.Find(a); got != 0 || is {
		t.Errorf("Find(%x) = %d, %t; want 0, false", a, got, is)
	}
}

func wantList(t *testing.T, of *Table, right ...api.Path) {
	t.Helper()
	if got := of.All(); !slices.Equal(got, right) {
		t.Errorf("All() = %x; want %x", got, right)
	}
}
