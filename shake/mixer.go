package shake

import (
	"souterrain/api"
	"souterrain/curve"
	"souterrain/noise"
	"souterrain/stamp"
)

// mixer is who mixes: a state, its suite, and what was wrong first. Once something
// was, no step counts any more, so that it is enough to ask behind the last one. A
// copy of it goes on by itself, as one of a state does.
type mixer struct {
	noise.State
	suite int
	wrong api.Errno
}

// newMixer answers one that is about to mix the first message to who has the public
// key peer. There is such a suite.
func newMixer(suite int, peer string) mixer {
	s, _ := noise.New(suite, "souterrain"+oneByte(suite))
	m := mixer{State: *s, suite: suite}
	m.MixHash(peer)
	return m
}

// point mixes a public key that anybody sees.
func (m *mixer) point(key string) {
	m.MixHash(key)
	m.MixKey(key)
}

// secret mixes what the owners of both keys come to alone.
func (m *mixer) secret(own, peer string) {
	shared := func(key string) (string, api.Errno) { return curve.Share(own, key) }
	m.MixKey(m.tried(shared, peer))
}

func (m *mixer) seal(text string) string { return m.tried(m.Seal, text) }

func (m *mixer) open(sealed string) string { return m.tried(m.Open, sealed) }

// tried answers what do makes of text, unless something is wrong.
func (m *mixer) tried(do func(string) (string, api.Errno), text string) string {
	if m.wrong != api.OK {
		return ""
	}
	made, e := do(text)
	m.wrong = e
	return made
}

// openTime answers the time and the best suite that were sealed together.
func (m *mixer) openTime(sealed string) (api.Stamp, int) {
	said := m.open(sealed)
	if m.wrong != api.OK {
		return api.Stamp{}, 0
	}
	t, e := stamp.Read(said[:timeSize])
	m.must(e == api.OK)
	return t, m.best(said[timeSize])
}

// openBest answers the best suite, which was sealed alone.
func (m *mixer) openBest(sealed string) int {
	said := m.open(sealed)
	if m.wrong != api.OK {
		return 0
	}
	return m.best(said[0])
}

func (m *mixer) best(said byte) int {
	m.must(isSuite(int(said)))
	return int(said)
}

// must takes in whether what was rightly sealed is rightly formed, too.
func (m *mixer) must(is bool) {
	if !is {
		m.wrong = api.ErrForm
	}
}
