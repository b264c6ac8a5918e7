package curve

import "souterrain/elem"

const (
	highest = 254 // the number of the highest bit that is 1 in each key

	noughts = "\x00\x00\x00\x00\x00\x00\x00\x00\x00\x00\x00\x00\x00\x00\x00\x00\x00\x00\x00\x00\x00\x00\x00\x00\x00\x00\x00\x00\x00"
	zero    = "\x00\x00\x00" + noughts
	one     = "\x01\x00\x00" + noughts
	base    = "\x09\x00\x00" + noughts
	factor  = "\x41\xdb\x01" + noughts // 121665
)

// number is a text of 32 bytes, so that no call of elem refuses it.
type number string

func (a number) plus(b number) number {
	s, _ := elem.Add(string(a), string(b))
	return number(s)
}

func (a number) minus(b number) number {
	s, _ := elem.Sub(string(a), string(b))
	return number(s)
}

func (a number) times(b number) number {
	s, _ := elem.Mul(string(a), string(b))
	return number(s)
}

func (a number) square() number { return a.times(a) }

func (a number) inverse() number {
	s, _ := elem.Inv(string(a))
	return number(s)
}

// point is x divided by z.
type point struct{ x, z number }

// climbed answers n times x. Beside each multiple goes the next one, so that
// x is what lies between them, at each step.
func climbed(n string, x number) number {
	low, high := point{one, zero}, point{x, one}
	for i := highest; i >= 0; i-- {
		if n[i/8]>>(i%8)&1 == 1 {
			high, low = step(high, low, x)
		} else {
			low, high = step(low, high, x)
		}
	}
	return low.x.times(low.z.inverse())
}

// step answers p doubled, and p and q together, where x lies between p and q.
func step(p, q point, x number) (doubled, together point) {
	a, b := p.x.plus(p.z), p.x.minus(p.z)
	c, d := q.x.plus(q.z), q.x.minus(q.z)
	da, cb := d.times(a), c.times(b)
	aa, bb := a.square(), b.square()
	e := aa.minus(bb)
	doubled = point{aa.times(bb), e.times(aa.plus(e.times(factor)))}
	together = point{da.plus(cb).square(), x.times(da.minus(cb).square())}
	return doubled, together
}
