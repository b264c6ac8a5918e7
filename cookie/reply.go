package cookie

import (
	"souterrain/api"
	"souterrain/seal"
)

const (
	nonceSize = 24
	tagSize   = 16
)

// Where the index of a message that was marked begins and ends; it has both marks
// behind it, and mostly more in between.
const (
	indexAt    = 2
	indexEnd   = 6
	markedSize = indexEnd + bothSize
)

// Where the parts of a reply begin behind its head, and where it ends.
const (
	nonceAt   = 6
	sealedAt  = nonceAt + nonceSize
	replySize = sealedAt + markSize + tagSize
)

// head answers what a reply to marked begins with.
func head(marked string) string {
	return string([]byte{api.Reply, 0}) + marked[indexAt:indexEnd]
}

// sealed answers the cookie as only those open it who have seen marked. All are as
// long as they must be: so nothing can be wrong.
func sealed(public, nonce, cookie, marked string) string {
	s, _ := seal.Long(key(forReplies, public), nonce, firstMark(marked), cookie)
	return s
}

// opened answers what was sealed for those who have seen marked.
func opened(public, nonce, sealed, marked string) (string, api.Errno) {
	return seal.Unlong(key(forReplies, public), nonce, firstMark(marked), sealed)
}

func firstMark(marked string) string {
	once, _ := cut(marked)
	_, one := cut(once)
	return one
}
