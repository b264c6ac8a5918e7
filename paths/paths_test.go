package paths

import (
	"math"
	"math/rand"
	"reflect"
	"slices"
	"sync"
	"testing"

	"souterrain/api"
)

func prefix(a uint32, bits int) api.Prefix { return api.Prefix{Addr: a, Bits: bits} }

func path(a uint32, bits, peer int) api.Path { return api.Path{Prefix: prefix(a, bits), Peer: peer} }

// mixed answers list in an order by chance.
func mixed(list []api.Path, r *rand.Rand) []api.Path {
	list = slices.Clone(list)
	r.Shuffle(len(list), func(i, j int) { list[i], list[j] = list[j], list[i] })
	return list
}

func backwards(list []api.Path) []api.Path {
	list = slices.Clone(list)
	slices.Reverse(list)
	return list
}

// within answers the prefixes of all lengths that have a, the shortest first.
func within(a uint32) []api.Path {
	var list []api.Path
	for bits := range 33 {
		list = append(list, api.Path{Prefix: cut(a, bits), Peer: bits % peers})
	}
	return list
}

// byChance answers a prefix that may well have others, or lie within them.
func byChance(r *rand.Rand) api.Prefix {
	a := []uint32{0, high, 10 << 24, 1 << 31}[r.Intn(4)]
	for range r.Intn(3) {
		a ^= 1 << r.Intn(32)
	}
	return cut(a, r.Intn(33))
}

// fullLists answers lists of 64 prefixes.
func fullLists() [][]api.Path {
	var side, last, spread []api.Path
	for i := range most {
		side = append(side, path(uint32(i)<<26, 6, i%peers))
		last = append(last, path(high-uint32(i), 32, i%peers))
		spread = append(spread, path(uint32(i)<<26, 8, i%3))
	}
	nested := append(within(0x0a0b0c0d), within(high)[1:32]...)
	return [][]api.Path{side, last, spread, nested}
}

// used answers tables that have some, one that has none, and those that are full.
func used(t *testing.T) []both {
	t.Helper()
	list := []both{
		newBoth(),
		of(t, path(0, 0, 0)),
		of(t, path(0, 0, 7)),
		of(t, path(high, 32, 0), path(0, 32, 7)),
		of(t, path(10<<24, 8, 1), path(10<<24, 9, 2), path(10<<24, 32, 1), path(11<<24, 8, 0)),
		of(t, within(0x12345678)...),
	}
	for _, full := range fullLists() {
		list = append(list, of(t, full...))
	}
	return list
}

// P24: what each call answers, written out.
func TestWrittenOut(t *testing.T) {
	p := New()
	wantNobody(t, p, 0x0a010203)
	wantSet(t, p, prefix(0x0a000000, 8), 2, api.OK)
	wantPeer(t, p, 0x0a010203, 2)
	wantPeer(t, p, 0x0a000000, 2)
	wantPeer(t, p, 0x0affffff, 2)
	wantNobody(t, p, 0x09ffffff)
	wantNobody(t, p, 0x0b000000)
	wantSet(t, p, prefix(0x0a010000, 16), 0, api.OK)
	wantPeer(t, p, 0x0a010203, 0)
	wantPeer(t, p, 0x0a00ffff, 2)
	wantPeer(t, p, 0x0a020000, 2)
	wantSet(t, p, prefix(0, 0), 5, api.OK)
	wantPeer(t, p, 0x09ffffff, 5)
	wantPeer(t, p, 0x0a010203, 0)
	wantSet(t, p, prefix(0x0a010203, 32), 2, api.OK)
	wantPeer(t, p, 0x0a010203, 2)
	wantPeer(t, p, 0x0a010202, 0)
	wantPeer(t, p, 0x0a010204, 0)
	wantSet(t, p, prefix(0x0a010202, 31), 7, api.OK)
	wantPeer(t, p, 0x0a010203, 2)
	wantPeer(t, p, 0x0a010202, 7)
	wantSet(t, p, prefix(0x0a010201, 31), 7, api.ErrForm)
	wantSet(t, p, prefix(0x0a010200, 33), 7, api.ErrArg)
	wantSet(t, p, prefix(0x0a010200, 24), 8, api.ErrArg)
	wantList(t, p, path(0, 0, 5), path(0x0a000000, 8, 2), path(0x0a010000, 16, 0), path(0x0a010202, 31, 7), path(0x0a010203, 32, 2))
	wantSet(t, p, prefix(0x0a000000, 8), 5, api.OK)
	wantDrop(t, p, 2, 1)
	wantPeer(t, p, 0x0a010203, 7)
	wantDrop(t, p, 2, 0)
	wantDrop(t, p, 0, 1)
	wantPeer(t, p, 0x0a010204, 5)
	wantDrop(t, p, 5, 2)
	wantNobody(t, p, 0x0a010204)
	wantPeer(t, p, 0x0a010203, 7)
	wantList(t, p, path(0x0a010202, 31, 7))
	wantDrop(t, p, 7, 1)
	wantNobody(t, p, 0x0a010203)
	wantList(t, p)
}

// P24: the first bits of an address are its highest ones.
func TestFirstBits(t *testing.T) {
	for _, c := range []struct {
		a                uint32
		bits             int
		lowest, greatest uint32
	}{
		{0, 1, 0, 0x7fffffff},
		{0x80000000, 1, 0x80000000, 0xffffffff},
		{0x40000000, 2, 0x40000000, 0x7fffffff},
		{0x0a000000, 7, 0x0a000000, 0x0bffffff},
		{0x0a000000, 8, 0x0a000000, 0x0affffff},
		{0xc0a80000, 16, 0xc0a80000, 0xc0a8ffff},
		{0xc0a80100, 24, 0xc0a80100, 0xc0a801ff},
		{0xc0a80140, 26, 0xc0a80140, 0xc0a8017f},
		{0xc0a80140, 30, 0xc0a80140, 0xc0a80143},
		{0xc0a80140, 31, 0xc0a80140, 0xc0a80141},
		{0xc0a80140, 32, 0xc0a80140, 0xc0a80140},
		{0xfffffffe, 31, 0xfffffffe, 0xffffffff},
	} {
		p := of(t, path(c.a, c.bits, 3))
		wantPeer(t, p.Table, c.lowest, 3)
		wantPeer(t, p.Table, c.greatest, 3)
		wantPeer(t, p.Table, c.lowest+(c.greatest-c.lowest)/2, 3)
		if c.lowest > 0 {
			wantNobody(t, p.Table, c.lowest-1)
		}
		if c.greatest < high {
			wantNobody(t, p.Table, c.greatest+1)
		}
		p.wantWhole(t)
	}
}

// P24: prefixes of several lengths, one within the other and beside the other, in
// whatever order they are set.
func TestSeveralLengths(t *testing.T) {
	list := []api.Path{
		path(0xac000000, 6, 0), path(0xac100000, 12, 1), path(0xac100000, 16, 2), path(0xac1e0000, 15, 3),
		path(0xac10ff00, 24, 4), path(0xac10fff0, 28, 5), path(0xac10ffff, 32, 6), path(0x20000000, 3, 7),
	}
	asked := map[uint32]int{
		0xac000000: 0, 0xac0fffff: 0, 0xac200000: 0, 0xafffffff: 0,
		0xac110000: 1, 0xac1dffff: 1,
		0xac100000: 2, 0xac10feff: 2, 0xac101234: 2,
		0xac1e0000: 3, 0xac1fffff: 3,
		0xac10ff00: 4, 0xac10ffef: 4,
		0xac10fff0: 5, 0xac10fffe: 5,
		0xac10ffff: 6,
		0x20000000: 7, 0x3fffffff: 7,
	}
	r := rand.New(rand.NewSource(2416))
	for range 100 {
		b := of(t, mixed(list, r)...)
		for a, peer := range asked {
			wantPeer(t, b.Table, a, peer)
		}
		for _, a := range []uint32{0, 0x1fffffff, 0x40000000, 0xabffffff, 0xb0000000, high} {
			wantNobody(t, b.Table, a)
		}
		wantList(t, b.Table, path(0x20000000, 3, 7), path(0xac000000, 6, 0), path(0xac100000, 12, 1), path(0xac100000, 16, 2),
			path(0xac10ff00, 24, 4), path(0xac10fff0, 28, 5), path(0xac10ffff, 32, 6), path(0xac1e0000, 15, 3))
		b.wantWhole(t)
	}
}

// P24: the longest prefix counts, whoever's it is, and whoever came first.
func TestLongestCounts(t *testing.T) {
	for long := range 33 {
		for short := range long {
			for _, c := range [][2]int{{0, 7}, {7, 0}, {3, 3}, {1, 2}} {
				one, other := path(cut(0x5a5a5a5a, short).Addr, short, c[0]), path(cut(0x5a5a5a5a, long).Addr, long, c[1])
				for _, b := range []both{of(t, one, other), of(t, other, one)} {
					wantPeer(t, b.Table, 0x5a5a5a5a, c[1])
					wantPeer(t, b.Table, 0x5a5a5a5a^1<<(32-long), c[0])
					wantList(t, b.Table, b.said.all()...)
				}
			}
		}
	}
}

// P24: of one that is set again the last peer counts, and there are no more of them.
func TestSetAgain(t *testing.T) {
	for _, p := range []api.Prefix{prefix(0, 0), prefix(0, 1), prefix(10<<24, 8), prefix(high-1, 31), prefix(high, 32), prefix(0, 32)} {
		b := newBoth()
		for _, peer := range []int{4, 4, 0, 0, 7, 1, 7, 7} {
			b.wantSet(t, p, peer)
			wantPeer(t, b.Table, p.Addr, peer)
			wantList(t, b.Table, api.Path{Prefix: p, Peer: peer})
			b.wantWhole(t)
		}
		for _, peer := range []int{0, 1, 2, 3, 4, 5, 6} {
			wantDrop(t, b.Table, peer, 0)
		}
		wantDrop(t, b.Table, 7, 1)
		wantList(t, b.Table)
	}
}

// P24: what is set again among others leaves the others as they are.
func TestSetAgainAmongOthers(t *testing.T) {
	r := rand.New(rand.NewSource(24))
	for _, b := range used(t) {
		for _, x := range mixed(b.said.list, r) {
			b.wantSet(t, x.Prefix, (x.Peer+1+r.Intn(7))%peers)
			b.wantAll(t)
			b.wantSet(t, x.Prefix, x.Peer)
			b.wantSet(t, x.Prefix, x.Peer)
			b.wantAll(t)
		}
		b.wantWhole(t)
		for peer := range peers {
			b.wantDrop(t, peer)
		}
		wantList(t, b.Table)
	}
}

// P24: Drop of who has none, one and many; and what is left behind it.
func TestDrop(t *testing.T) {
	list := []api.Path{
		path(0, 0, 1), path(0x0a000000, 8, 2), path(0x0a000000, 16, 1), path(0x0a000000, 24, 3), path(0x0a000000, 32, 1),
		path(0x0a000100, 24, 1), path(0x0b000000, 8, 4), path(high, 32, 1),
	}
	b := of(t, list...)
	wantDrop(t, b.Table, 0, 0)
	wantDrop(t, b.Table, 7, 0)
	b.wantWhole(t)
	wantDrop(t, b.Table, 3, 1)
	wantPeer(t, b.Table, 0x0a000001, 1)
	wantDrop(t, b.Table, 3, 0)
	wantDrop(t, b.Table, 1, 5)
	wantList(t, b.Table, path(0x0a000000, 8, 2), path(0x0b000000, 8, 4))
	wantPeer(t, b.Table, 0x0a000000, 2)
	wantPeer(t, b.Table, 0x0a000101, 2)
	wantNobody(t, b.Table, high)
	wantNobody(t, b.Table, 0)
	wantDrop(t, b.Table, 1, 0)
	wantSet(t, b.Table, prefix(0x0a000000, 32), 0, api.OK)
	wantSet(t, b.Table, prefix(0, 0), 0, api.OK)
	wantList(t, b.Table, path(0, 0, 0), path(0x0a000000, 8, 2), path(0x0a000000, 32, 0), path(0x0b000000, 8, 4))
	wantPeer(t, b.Table, 0x0a000000, 0)
	wantPeer(t, b.Table, high, 0)
	wantDrop(t, b.Table, 0, 2)
	wantList(t, b.Table, path(0x0a000000, 8, 2), path(0x0b000000, 8, 4))
}

// P24: Drop of each peer in each order, with all the calls behind it.
func TestDropEach(t *testing.T) {
	r := rand.New(rand.NewSource(1624))
	for range 10 {
		for _, b := range used(t) {
			for _, peer := range r.Perm(peers) {
				b.wantDrop(t, peer)
				b.wantWhole(t)
				b.wantDrop(t, peer)
				p := byChance(r)
				b.wantSet(t, p, peer)
				b.wantFind(t, p.Addr)
				b.wantDrop(t, peer)
				b.wantAll(t)
			}
			wantList(t, b.Table)
		}
	}
}

// P24: All rises by Addr and then by Bits, in whatever order they were set.
func TestAllRises(t *testing.T) {
	right := []api.Path{
		path(0, 0, 7), path(0, 1, 6), path(0, 8, 5), path(0, 31, 4), path(0, 32, 3), path(1, 32, 2), path(2, 31, 1), path(2, 32, 0),
		path(256, 24, 0), path(256, 25, 1), path(256, 32, 7), path(384, 25, 2), path(0x7fffffff, 32, 3), path(0x80000000, 1, 3),
		path(0x80000000, 32, 5), path(0xc0000000, 2, 4), path(0xfffffffe, 31, 6), path(0xfffffffe, 32, 0), path(high, 32, 1),
	}
	r := rand.New(rand.NewSource(16))
	for i := range 300 {
		list := mixed(right, r)
		if i < 2 {
			list = [][]api.Path{right, backwards(right)}[i]
		}
		b := of(t, list...)
		wantList(t, b.Table, right...)
		wantList(t, b.Table, right...)
	}
	for _, full := range fullLists() {
		sorted := of(t, full...).said.all()
		for range 20 {
			wantList(t, of(t, mixed(full, r)...).Table, sorted...)
		}
	}
}

// P24: any calls in any order.
func TestAnyOrder(t *testing.T) {
	r := rand.New(rand.NewSource(240016))
	for i := range 60 {
		b := newBoth()
		for range 150 {
			p := byChance(r)
			switch n := r.Intn(20); {
			case n < 14:
				b.wantSet(t, p, r.Intn(peers))
			case n < 16:
				b.wantFind(t, p.Addr+uint32(r.Uint64()%share(p.Bits)))
			case n < 18:
				b.wantSet(t, prefix(p.Addr|1<<r.Intn(32), p.Bits+r.Intn(5)-2), r.Intn(peers+2)-1)
			case n == 18:
				b.wantAll(t)
			case i%3 > 0:
				b.wantDrop(t, r.Intn(peers))
			}
			b.wantFind(t, r.Uint32())
		}
		b.wantWhole(t)
	}
}

// P24, the edges: a table that has none.
func TestEmpty(t *testing.T) {
	b := newBoth()
	for range 2 {
		for _, a := range b.said.addresses() {
			wantNobody(t, b.Table, a)
		}
		for i := range 32 {
			wantNobody(t, b.Table, 1<<i)
		}
		for peer := range peers {
			wantDrop(t, b.Table, peer, 0)
		}
		if all := b.All(); len(all) != 0 {
			t.Error(all)
		}
		wantSet(t, b.Table, prefix(0, 0), 0, api.OK)
		wantDrop(t, b.Table, 0, 1)
	}
	b.wantWhole(t)
}

// P24, the edges: the prefix of no bits has every address.
func TestNoBits(t *testing.T) {
	for _, peer := range []int{0, 7} {
		p := New()
		wantSet(t, p, prefix(0, 0), peer, api.OK)
		r := rand.New(rand.NewSource(0))
		for i := range 1000 {
			wantPeer(t, p, r.Uint32(), peer)
			wantPeer(t, p, 1<<(i%32), peer)
			wantPeer(t, p, high-1<<(i%32), peer)
		}
		wantPeer(t, p, 0, peer)
		wantPeer(t, p, high, peer)
		wantList(t, p, path(0, 0, peer))
		wantDrop(t, p, peer, 1)
		wantNobody(t, p, 0)
		wantNobody(t, p, high)
	}
}

// P24, the edges: a prefix of 32 bits has its own address alone, 0 and the highest one too.
func TestAllBits(t *testing.T) {
	for _, a := range []uint32{0, 1, 2, 0x7fffffff, 0x80000000, 0x0a000007, 0xfffffffe, high} {
		for _, peer := range []int{0, 7} {
			b := of(t, path(a, 32, peer))
			wantPeer(t, b.Table, a, peer)
			for i := range 32 {
				wantNobody(t, b.Table, a^1<<i)
			}
			wantNobody(t, b.Table, a+1)
			wantNobody(t, b.Table, a-1)
			wantList(t, b.Table, path(a, 32, peer))
			wantDrop(t, b.Table, 7-peer, 0)
			wantDrop(t, b.Table, peer, 1)
			wantNobody(t, b.Table, a)
		}
	}
}

// P24, the edges: each length by itself, 1 and 31 among them, at both ends and in between.
func TestEachLength(t *testing.T) {
	for bits := range 33 {
		for _, a := range []uint32{0, high, 0x55555555, 0xaaaaaaaa, 0x80000000, 1} {
			for _, peer := range []int{0, 7} {
				p := cut(a, bits)
				b := of(t, api.Path{Prefix: p, Peer: peer})
				wantPeer(t, b.Table, a, peer)
				wantPeer(t, b.Table, p.Addr, peer)
				if bits > 0 {
					wantNobody(t, b.Table, a^1<<(32-bits))
					wantNobody(t, b.Table, a^1<<31)
				}
				b.wantWhole(t)
				b.wantDrop(t, peer)
				b.wantWhole(t)
			}
		}
	}
}

// P24, the edges: two that part in their last bit, and two that part in their first.
func TestPart(t *testing.T) {
	for bits := 1; bits < 33; bits++ {
		for _, a := range []uint32{0, high, 0x5a5a5a5a, 0xa5a5a5a5} {
			last, first := a^1<<(32-bits), a^1<<31
			for _, other := range []uint32{last, first} {
				one, two := api.Path{Prefix: cut(a, bits), Peer: 0}, api.Path{Prefix: cut(other, bits), Peer: 7}
				for _, b := range []both{of(t, one, two), of(t, two, one)} {
					wantPeer(t, b.Table, a, 0)
					wantPeer(t, b.Table, other, 7)
					b.wantWhole(t)
					wantDrop(t, b.Table, 0, 1)
					wantNobody(t, b.Table, a)
					wantPeer(t, b.Table, other, 7)
					wantList(t, b.Table, two)
				}
			}
		}
	}
}

// P24, the edges: one Addr with several Bits is that many prefixes.
func TestOneAddr(t *testing.T) {
	r := rand.New(rand.NewSource(32))
	for _, a := range []uint32{0, 1 << 31, 10 << 24, 1 << 16, 2, high} {
		var list []api.Path
		for bits := range 33 {
			if cut(a, bits).Addr == a {
				list = append(list, path(a, bits, (bits*5)%peers))
			}
		}
		b := of(t, mixed(list, r)...)
		wantList(t, b.Table, list...)
		wantPeer(t, b.Table, a, list[len(list)-1].Peer)
		b.wantWhole(t)
		for peer := range peers {
			b.wantDrop(t, peer)
			b.wantWhole(t)
		}
	}
}

// P24, the edges: peers 0 and 7 are peers like the others, and one that has all.
func TestFirstAndLastPeer(t *testing.T) {
	for _, full := range fullLists() {
		for peer := range peers {
			b := newBoth()
			for _, x := range full {
				b.wantSet(t, x.Prefix, peer)
				wantPeer(t, b.Table, x.Addr, peer)
			}
			b.wantWhole(t)
			for other := range peers {
				if other != peer {
					wantDrop(t, b.Table, other, 0)
				}
			}
			wantDrop(t, b.Table, peer, most)
			wantList(t, b.Table)
		}
	}
}

// newcomers answers prefixes of which a list has none: beside it, above it, within it.
func newcomers(s *said) []api.Prefix {
	var list []api.Prefix
	r := rand.New(rand.NewSource(65))
	for bits := range 33 {
		for _, a := range []uint32{0, high, 1 << 31, 0x0a0b0c0d, 0x33333333, r.Uint32(), r.Uint32()} {
			if p := cut(a, bits); s.at(p) < 0 && !slices.Contains(list, p) {
				list = append(list, p)
			}
		}
	}
	return list
}

// P24, the edges: there is room for sixty-four, and not for the next one.
func TestFull(t *testing.T) {
	r := rand.New(rand.NewSource(64))
	for _, full := range fullLists() {
		if len(full) != most {
			t.Fatal(len(full))
		}
		b := of(t, full[:most-1]...)
		b.wantSet(t, full[0].Prefix, full[0].Peer)
		wantSet(t, b.Table, full[most-1].Prefix, full[most-1].Peer, api.OK)
		b = of(t, mixed(full, r)...)
		for _, p := range newcomers(b.said) {
			wantSet(t, b.Table, p, r.Intn(peers), api.ErrFull)
			b.wantAll(t)
			b.wantFind(t, p.Addr)
		}
		b.wantWhole(t)
		for i, x := range full {
			wantSet(t, b.Table, x.Prefix, x.Peer, api.OK)
			b.wantSet(t, x.Prefix, i%7+1)
			wantSet(t, b.Table, newcomers(b.said)[i], 0, api.ErrFull)
		}
		b.wantWhole(t)
		if n := len(b.All()); n != most {
			t.Error(n)
		}
	}
}

// P24, the edges: behind a Drop there is room again, for as many as went.
func TestRoomAgain(t *testing.T) {
	for _, full := range fullLists() {
		for peer := range peers {
			b := of(t, full...)
			went := b.said.drop(peer)
			wantDrop(t, b.Table, peer, went)
			for i, p := range newcomers(b.said)[:went] {
				wantSet(t, b.Table, p, peer, api.OK)
				wantSet(t, b.Table, p, (peer+i)%peers, api.OK)
				b.said.set(p, (peer+i)%peers)
			}
			for _, p := range newcomers(b.said)[:10] {
				wantSet(t, b.Table, p, peer, api.ErrFull)
			}
			b.wantWhole(t)
		}
	}
}

// P24, the edges: a table that is filled and emptied many times has room each time.
func TestFilledAgainAndAgain(t *testing.T) {
	b := newBoth()
	for i := range 40 {
		for _, x := range fullLists()[i%4] {
			b.wantSet(t, x.Prefix, x.Peer)
		}
		wantSet(t, b.Table, newcomers(b.said)[i], 3, api.ErrFull)
		b.wantWhole(t)
		for peer := range peers {
			b.wantDrop(t, peer)
		}
		b.wantWhole(t)
		wantList(t, b.Table)
	}
}

// P24, the edges: prefixes of all lengths, one within the other, dropped one by one.
func TestOneWithinTheOther(t *testing.T) {
	r := rand.New(rand.NewSource(33))
	for _, a := range []uint32{0, high, 0x0a0b0c0d, 0xaaaaaaaa} {
		list := within(a)
		for i := range list {
			list[i].Peer %= 7
		}
		orders := [][]api.Path{list, backwards(list), mixed(list, r), mixed(list, r)}
		for _, order := range orders {
			b := of(t, mixed(list, r)...)
			for i, x := range order {
				b.wantSet(t, x.Prefix, 7)
				b.wantWhole(t)
				wantDrop(t, b.Table, 7, 1)
				b.said.drop(7)
				if n := len(b.All()); n != 32-i {
					t.Error(n, i)
				}
				b.wantWhole(t)
			}
			wantNobody(t, b.Table, a)
		}
	}
}

func wrongBits() []int {
	return []int{-1, 33, -2, -32, -33, 34, 63, 64, 65, 96, 128, 256, 1 << 31, 1 << 32, 1<<32 + 8, -1 << 31, -1<<32 + 8,
		math.MinInt, math.MinInt + 8, math.MaxInt, math.MaxInt - 7}
}

func wrongPeers() []int {
	return []int{-1, 8, -2, -8, 9, 15, 16, 64, 255, 256, 1 << 32, 1<<32 + 1, -1 << 32, math.MinInt, math.MinInt + 1, math.MaxInt, math.MaxInt - 1}
}

// P24, wrong inputs: Bits that no prefix has; nothing has changed behind them.
func TestWrongBits(t *testing.T) {
	for _, b := range used(t) {
		for _, bits := range wrongBits() {
			for _, a := range []uint32{0, 1, 10 << 24, 1 << 31, high} {
				for _, peer := range []int{0, 7, -1, 8} {
					wantSet(t, b.Table, prefix(a, bits), peer, api.ErrArg)
				}
			}
			b.wantAll(t)
		}
		b.wantWhole(t)
	}
}

// P24, wrong inputs: peers that can't be; nothing has changed behind them, and
// they have nothing that can be dropped.
func TestWrongPeers(t *testing.T) {
	for _, b := range used(t) {
		for _, peer := range wrongPeers() {
			for bits := range 33 {
				wantSet(t, b.Table, cut(0x0a0b0c0d, bits), peer, api.ErrArg)
				wantSet(t, b.Table, prefix(high, bits), peer, api.ErrArg)
			}
			for _, x := range b.said.list {
				wantSet(t, b.Table, x.Prefix, peer, api.ErrArg)
			}
			wantDrop(t, b.Table, peer, 0)
			b.wantAll(t)
		}
		b.wantWhole(t)
	}
}

// P24, wrong inputs: an Addr with a bit behind the prefix, at each place.
func TestBitBehind(t *testing.T) {
	for _, b := range used(t) {
		for bits := range 32 {
			for place := range 32 - bits {
				for _, a := range []uint32{0, cut(0x0a0b0c0d, bits).Addr, cut(high, bits).Addr} {
					for _, peer := range []int{0, 7} {
						wantSet(t, b.Table, prefix(a|1<<place, bits), peer, api.ErrForm)
					}
				}
			}
			wantSet(t, b.Table, prefix(high, bits), 1, api.ErrForm)
			b.wantAll(t)
		}
		b.wantWhole(t)
	}
	// The lowest bit of the prefix itself is not behind it.
	for bits := 1; bits < 33; bits++ {
		wantSet(t, New(), prefix(1<<(32-bits), bits), 1, api.OK)
	}
}

// P24, wrong inputs: where there are no bits each bit of Addr is behind them.
func TestBitWithoutBits(t *testing.T) {
	b := of(t, path(0, 0, 4))
	for place := range 32 {
		wantSet(t, b.Table, prefix(1<<place, 0), 4, api.ErrForm)
		wantSet(t, b.Table, prefix(high-1<<place, 0), 4, api.ErrForm)
		wantSet(t, New(), prefix(1<<place, 0), 0, api.ErrForm)
	}
	b.wantWhole(t)
}

// P24, wrong inputs: of several at once the one that is told first is the answer.
func TestSeveralWrong(t *testing.T) {
	full := of(t, fullLists()[0]...)
	for _, b := range []both{newBoth(), full} {
		for _, c := range []struct {
			p     api.Prefix
			peer  int
			right api.Errno
		}{
			{prefix(1, 33), -1, api.ErrArg},
			{prefix(1, 33), 3, api.ErrArg},
			{prefix(1, -1), 3, api.ErrArg},
			{prefix(high, math.MinInt), math.MaxInt, api.ErrArg},
			{prefix(1, 31), 8, api.ErrArg},
			{prefix(1, 31), -1, api.ErrArg},
			{prefix(1, 0), 8, api.ErrArg},
			{prefix(0, 33), 8, api.ErrArg},
			{prefix(0, 9), 8, api.ErrArg},
			{prefix(0, -1), 3, api.ErrArg},
			{prefix(1, 31), 7, api.ErrForm},
			{prefix(high, 9), 0, api.ErrForm},
			{prefix(high, 0), 0, api.ErrForm},
			{prefix(1<<25, 6), 0, api.ErrForm},
		} {
			wantSet(t, b.Table, c.p, c.peer, c.right)
			b.wantAll(t)
		}
		b.wantWhole(t)
	}
	wantSet(t, full.Table, prefix(0, 9), 3, api.ErrFull)
	wantSet(t, full.Table, prefix(0, 6), 3, api.OK)
}

// P24: what is wrong on the way stops nothing: the next one is set.
func TestGoesOn(t *testing.T) {
	for _, full := range fullLists() {
		b := newBoth()
		for i, x := range full {
			b.wantSet(t, prefix(x.Addr, wrongBits()[i%len(wrongBits())]), x.Peer)
			b.wantSet(t, x.Prefix, wrongPeers()[i%len(wrongPeers())])
			b.wantSet(t, prefix(x.Addr|1, i%32), x.Peer)
			wantSet(t, b.Table, x.Prefix, x.Peer, api.OK)
			b.said.set(x.Prefix, x.Peer)
		}
		b.wantWhole(t)
	}
}

// The loop over the tree ends where its body breaks off, and not before.
func TestEachBreaksOff(t *testing.T) {
	for _, b := range used(t) {
		right := b.said.all()
		for stop := range len(right) + 1 {
			var got []api.Path
			for x := range b.root.each {
				if len(got) == stop {
					break
				}
				got = append(got, x)
			}
			if !slices.Equal(got, right[:stop]) {
				t.Errorf("%x; want %x", got, right[:stop])
			}
		}
	}
}

// fill writes one path over all of list, its spare room included.
func fill(list []api.Path, x api.Path) {
	list = list[:cap(list)]
	for i := range list {
		list[i] = x
	}
}

// P2: what All answers is new memory: it shares none with the table, or with
// another answer, and writing into it changes neither.
func TestAllIsNewMemory(t *testing.T) {
	one, other := path(1, 1, 1), path(2, 2, 2)
	for _, b := range used(t) {
		right := b.said.all()
		first, second := b.All(), b.All()
		fill(first, one)
		if !slices.Equal(second, right) {
			t.Errorf("%x became %x", right, second)
		}
		fill(second, other)
		for _, x := range first[:cap(first)] {
			if x != one {
				t.Errorf("%x became %x", one, x)
			}
		}
		b.wantWhole(t)
		third := b.All()
		fill(append(third[:0:cap(third)], one), one)
		b.wantWhole(t)
	}
}

// P2: what All answered stays, whatever becomes of the table.
func TestAllStays(t *testing.T) {
	for _, b := range used(t) {
		right, all := b.said.all(), b.All()
		for _, x := range right {
			b.wantSet(t, x.Prefix, (x.Peer+1)%peers)
		}
		b.wantSet(t, prefix(1<<31, 31), 2)
		for peer := range peers {
			b.wantDrop(t, peer)
		}
		b.wantSet(t, prefix(0, 5), 6)
		if !slices.Equal(all, right) {
			t.Errorf("%x became %x", right, all)
		}
	}
}

// P2: Find and All change nothing, however often they are asked.
func TestAskingChangesNothing(t *testing.T) {
	for _, b := range used(t) {
		for range 3 {
			b.wantWhole(t)
		}
	}
}

// P2: tables have nothing to do with each other, set, dropped and asked by turns,
// those that are made in between included.
func TestApart(t *testing.T) {
	one, other := newBoth(), newBoth()
	r := rand.New(rand.NewSource(50))
	for range 100 {
		p := byChance(r)
		one.wantSet(t, p, r.Intn(peers))
		other.wantFind(t, p.Addr)
		other.wantSet(t, byChance(r), r.Intn(peers))
		one.wantAll(t)
		if r.Intn(20) == 0 {
			other.wantDrop(t, r.Intn(peers))
		}
		newBoth().wantWhole(t)
	}
	one.wantWhole(t)
	other.wantWhole(t)
}

// P2: each answer of New is another table, that has none.
func TestNewEachTime(t *testing.T) {
	seen := map[*Table]bool{}
	for i := range 100 {
		p := New()
		if p == nil || seen[p] {
			t.Fatal("the same table once more", i)
		}
		seen[p] = true
		wantList(t, p)
		wantNobody(t, p, 0)
		wantSet(t, p, prefix(0, 0), i%peers, api.OK)
		wantSet(t, p, prefix(uint32(i), 32), 7-i%peers, api.OK)
		newBoth().wantWhole(t)
	}
	for p := range seen {
		if all := p.All(); len(all) != 2 || all[0].Prefix != prefix(0, 0) || all[0].Peer+all[1].Peer != 7 {
			t.Error(all)
		}
	}
}

// P2: nothing is kept but in a Table: the same calls answer the same, at the same
// time as those of other tables.
func TestAnswersStay(t *testing.T) {
	old := of(t, within(0x0a0b0c0d)...)
	var group sync.WaitGroup
	for i := range 40 {
		group.Go(func() {
			b := newBoth()
			r := rand.New(rand.NewSource(int64(i % 3)))
			for range 100 {
				b.wantSet(t, byChance(r), r.Intn(peers))
				b.wantFind(t, r.Uint32())
			}
			b.wantDrop(t, i%3)
			b.wantWhole(t)
		})
	}
	group.Wait()
	old.wantWhole(t)
}

// P2: a Table keeps no more than it needs: what was dropped, or refused, is gone.
func TestNothingStays(t *testing.T) {
	r := rand.New(rand.NewSource(2))
	for _, b := range used(t) {
		for range 50 {
			b.wantSet(t, byChance(r), r.Intn(peers+2)-1)
		}
		for peer := range peers {
			b.Drop(peer)
		}
		if !reflect.DeepEqual(b.Table, New()) {
			t.Error("something stays")
		}
	}
}

// P1: also a Table that New didn't make answers, whatever it answers.
func TestTableOfNobody(t *testing.T) {
	for _, bits := range append(wrongBits(), 0, 1, 31, 32) {
		for _, peer := range append(wrongPeers(), 0, 7) {
			var p Table
			p.Find(high)
			p.Drop(peer)
			p.All()
			p.Set(prefix(1<<31, bits), peer)
			p.Set(prefix(high, bits), peer)
			p.Set(prefix(0, bits), peer)
			p.Find(0)
			p.All()
			p.Drop(peer)
		}
	}
}

// P1 and P24: whatever comes, of all sizes, is answered as the chapter's words say.
func TestAnythingAnswers(t *testing.T) {
	r := rand.New(rand.NewSource(1))
	for range 200 {
		b := newBoth()
		for range 60 {
			a, bits, peer := r.Uint32()>>r.Intn(32), int(r.Uint64())>>r.Intn(64), int(r.Uint64())>>r.Intn(64)
			if r.Intn(3) > 0 {
				bits, peer = r.Intn(36)-2, r.Intn(10)-1
			}
			if r.Intn(3) > 0 {
				a = a << r.Intn(32)
			}
			b.wantSet(t, prefix(a, bits), peer)
			b.wantFind(t, a)
			b.wantFind(t, r.Uint32())
			if r.Intn(30) == 0 {
				b.wantDrop(t, peer)
			}
		}
		b.wantWhole(t)
	}
}

// P1 and P24 for whatever comes: three bytes are a call: what it is, and whose; how
// many bits; and an address, made of one of the two by one bit.
func FuzzAnything(f *testing.F) {
	f.Add(uint32(0), uint32(high), []byte{8, 1, 0, 24, 9, 2, 32, 33, 65, 13, 0, 0, 6, 0, 0, 7, 0, 0})
	f.Add(uint32(10<<24), uint32(1<<31), []byte{0, 0, 0, 72, 1, 1, 16, 34, 128, 16, 33, 129, 21, 0, 0})
	var many []byte
	for i := range 80 {
		many = append(many, byte(i*8), byte(i), byte(i*5), 6, byte(i), byte(i*3))
	}
	f.Add(uint32(0x0a0b0c0d), uint32(0xc0a80101), many)
	f.Fuzz(func(t *testing.T, one, other uint32, list []byte) {
		b := newBoth()
		for list = list[:min(len(list), 600)]; len(list) >= 3; list = list[3:] {
			peer, bits := int(list[0]/8)%10-1, int(list[1])%35-1
			a := []uint32{one, other}[list[2]&1] ^ 1<<(list[2]>>1&31)
			p := prefix(a, bits)
			// A bit behind the prefix is rare, or all others would be, too.
			if list[2]&64 == 0 && bits >= 0 && bits <= 32 {
				p = cut(a, bits)
			}
			switch list[0] % 8 {
			case 5:
				b.wantDrop(t, peer)
			case 6:
				b.wantFind(t, a)
			case 7:
				b.wantAll(t)
			default:
				b.wantSet(t, p, peer)
				b.wantFind(t, a)
			}
		}
		b.wantWhole(t)
	})
}
