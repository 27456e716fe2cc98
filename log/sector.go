package log

import (
	"jobcase/api"
	"jobcase/little"
)

// What a sector that is written begins with.
const (
	ofChange = "o"
	ofEnd    = "c"
)

// noughts: a sector that isn't written.
const noughts = ""

// Where a sector's parts begin: its number, how long its body is, the body.
const (
	numberAt = 1
	lengthAt = 5
	bodyAt   = 7
)

// tell a sector of a kind, with a number and a body.
func tell(kind string, number uint32, body string) string {
	return kind + little.Bytes(number, lengthAt-numberAt) + little.Bytes(uint32(len(body)), bodyAt-lengthAt) + body
}

// parse a sector: of one that isn't written, or has another number, the kind is empty.
func parse(s string, number uint32) (kind, body string) {
	kind = s[:numberAt]
	end := bodyAt + int(little.Number(s[lengthAt:bodyAt]))
	if kind != ofChange && kind != ofEnd || little.Number(s[numberAt:lengthAt]) != number || end > api.Sector {
		return "", ""
	}
	return kind, s[bodyAt:end]
}

// count of changes, as the body of a deed's end.
func count(n int) string { return little.Bytes(uint32(n), 4) }
