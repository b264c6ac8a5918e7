package stamp

import (
	"math/big"

	"souterrain/api"
)

// power answers 2 to the power of n.
func power(n uint) *big.Int { return new(big.Int).Lsh(big.NewInt(1), n) }

// within says whether x is from 0 to most.
func within(x, most *big.Int) bool { return x.Sign() >= 0 && x.Cmp(most) <= 0 }

// saidTime says in P22's words whether Write tells of these numbers.
func saidTime(sec, nano *big.Int) bool {
	return within(sec, power(40)) && within(nano, big.NewInt(999999999))
}

// saidWrite is P22's Write in its own words, by numbers of any length.
func saidWrite(t api.Stamp) (string, api.Errno) {
	sec, nano := big.NewInt(int64(t.Sec)), big.NewInt(int64(t.Nano))
	if !saidTime(sec, nano) {
		return "", api.ErrArg
	}
	sec.Add(sec, power(62))
	return string(sec.FillBytes(make([]byte, 8))) + string(nano.FillBytes(make([]byte, 4))), api.OK
}

// saidRead is P22's Read in its own words: nothing wraps round.
func saidRead(s string) (api.Stamp, api.Errno) {
	if len(s) < 12 {
		return api.Stamp{}, api.ErrShort
	}
	if len(s) > 12 {
		return api.Stamp{}, api.ErrForm
	}
	sec, nano := new(big.Int).SetBytes([]byte(s[:8])), new(big.Int).SetBytes([]byte(s[8:]))
	sec.Sub(sec, power(62))
	if !saidTime(sec, nano) {
		return api.Stamp{}, api.ErrForm
	}
	return api.Stamp{Sec: int(sec.Int64()), Nano: int(nano.Int64())}, api.OK
}

// saidAfter is P22's After: a Sec outweighs each Nano that an int may be.
func saidAfter(a, b api.Stamp) bool {
	return weight(a).Cmp(weight(b)) > 0
}

func weight(t api.Stamp) *big.Int {
	w := new(big.Int).Lsh(big.NewInt(int64(t.Sec)), 65)
	return w.Add(w, big.NewInt(int64(t.Nano)))
}
