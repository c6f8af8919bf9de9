package challenge_test

import (
	"bytes"
	stdhmac "crypto/hmac"
	"crypto/sha256"
	"encoding/binary"
	"encoding/hex"
	"hash/crc32"
	"math"
	"slices"
	"testing"

	"viaticum/api"
	"viaticum/challenge"
	"viaticum/ring"
	"viaticum/token"
)

// noise is count bytes that are spread over all values, the same ones for the same seed.
func noise(seed uint64, count int) []byte {
	x := seed*2654435761 + 88172645463325252
	out := []byte{}
	for range count {
		x ^= x << 13
		x ^= x >> 7
		x ^= x << 17
		out = append(out, byte(x>>32))
	}
	return out
}

// plain is the bytes of a number, without the layers below.
func plain(n uint64) []byte {
	return binary.AppendUvarint(nil, n)
}

// summed is bytes with their checksum behind them.
func summed(b []byte) []byte {
	return binary.LittleEndian.AppendUint32(slices.Clone(b), crc32.ChecksumIEEE(b))
}

// framed is a content's frame of a kind, as the document says it.
func framed(kind byte, parts ...[]byte) []byte {
	content := slices.Concat(parts...)
	return summed(slices.Concat([]byte{0xc7, kind}, plain(uint64(len(content))), content))
}

// counted is bytes behind their number.
func counted(b []byte) []byte {
	return slices.Concat(plain(uint64(len(b))), b)
}

// derived is a tag of a name and parts under a key, by the library.
func derived(key []byte, name string, parts ...[]byte) []byte {
	h := stdhmac.New(sha256.New, key)
	h.Write([]byte(name + "\x00"))
	h.Write(slices.Concat(parts...))
	return h.Sum(nil)
}

// numbersOf is a token's six numbers.
func numbersOf(x api.Token) [6]int {
	return [6]int{x.Trip, x.Account, x.Stop, x.Issued, x.Until, x.Epoch}
}

// of is the token of six numbers.
func of(n [6]int) api.Token {
	return api.Token{Trip: n[0], Account: n[1], Stop: n[2], Issued: n[3], Until: n[4], Epoch: n[5]}
}

// bounds is the least and the greatest of each of a token's six numbers.
func bounds() [6]struct{ least, most int } {
	return [6]struct{ least, most int }{{1, 1 << 31}, {1, 1 << 31}, {0, 4095}, {0, 1 << 40}, {0, 1 << 40}, {1, 1 << 20}}
}

// fieldsOf is a token's fields, without the layers below.
func fieldsOf(x api.Token) []byte {
	var out []byte
	for _, n := range numbersOf(x) {
		out = append(out, plain(uint64(n))...)
	}
	return out
}

// tokenOf is the bytes of a token with a tag.
func tokenOf(x api.Token, tag []byte) []byte {
	return framed(2, fieldsOf(x), counted(tag))
}

// keyOf is the bytes of the key of an epoch in the rings of these tests.
func keyOf(epoch int) []byte {
	return noise(uint64(epoch)+1000, 32)
}

// tagOf is the tag of a token under the key of its epoch.
func tagOf(x api.Token) []byte {
	return derived(keyOf(x.Epoch), "token", fieldsOf(x))
}

// issued is the bytes of a token under the key of its epoch.
func issued(x api.Token) []byte {
	return tokenOf(x, tagOf(x))
}

// ringOf is a ring of consecutive epochs from a first one on.
func ringOf(keep, first, count int) api.Ring {
	r := api.Ring{Keep: keep}
	for i := range count {
		r.Keys = append(r.Keys, api.Key{Epoch: first + i, Bytes: keyOf(first + i)})
	}
	return r
}

// deviceOf is the device key for the bytes of a token of an epoch.
func deviceOf(epoch int, b []byte) []byte {
	return derived(keyOf(epoch), "device", b)
}

// answerTag is the tag of an answer at a time under a device key.
func answerTag(key, question []byte, at int) []byte {
	return derived(key, "answer", question, plain(uint64(at)))
}

// answerOf is a frame with a time and a tag.
func answerOf(at int, tag []byte) []byte {
	return framed(6, plain(uint64(at)), counted(tag))
}

// answered is the answer at a time under a device key, without the layers below.
func answered(key, question []byte, at int) []byte {
	return answerOf(at, answerTag(key, question, at))
}

// middle is a token whose numbers are all away from their bounds.
func middle() api.Token {
	return of([6]int{300, 7, 12, 1000, 5000, 3})
}

// wide is a token that counts at all times.
func wide() api.Token {
	return of([6]int{300, 7, 12, 0, 1 << 40, 3})
}

// tokens is tokens of many kinds, of epochs from 1 to 16.
func tokens() []api.Token {
	return []api.Token{
		middle(), wide(),
		of([6]int{1, 1, 0, 0, 0, 1}),
		of([6]int{127, 128, 129, 130, 131, 16}),
		of([6]int{16383, 16384, 4095, 1 << 31, 1 << 32, 2}),
		of([6]int{1 << 31, 1 << 31, 4095, 1 << 40, 1 << 40, 16}),
		of([6]int{1 << 31, 1, 4094, 1<<40 - 1, 1 << 40, 15}),
	}
}

// call is what Check is given.
type call struct {
	ring                    api.Ring
	token, question, answer []byte
	now, slack              int
}

// callOf is a call for a token that was issued, whose device answered at a time.
func callOf(x api.Token, question []byte, at, now, slack int) call {
	b := issued(x)
	return call{ringOf(16, 1, 16), b, question, answered(deviceOf(x.Epoch, b), question, at), now, slack}
}

// good is a call that is accepted: the answer is of a time that is 5 below now.
func good() call {
	return callOf(middle(), noise(1, 16), 1995, 2000, 10)
}

// accepts asks that an answer is accepted.
func accepts(t *testing.T, c call, want api.Token) {
	t.Helper()
	if x, e := challenge.Check(c.ring, c.token, c.question, c.answer, c.now, c.slack); e != api.OK || x != want {
		t.Errorf("Check of % x for % x to % x at %d, slack %d = %v, error %d, want %v", c.answer, c.token, c.question, c.now, c.slack, x, e, want)
	}
}

// rejects asks that an answer is not accepted, with an empty token beside the error.
func rejects(t *testing.T, c call, want api.Errno) {
	t.Helper()
	if x, e := challenge.Check(c.ring, c.token, c.question, c.answer, c.now, c.slack); e != want || x != (api.Token{}) {
		t.Errorf("Check of %d bytes % x for %d bytes % x to % x at %d, slack %d = %v, error %d, want error %d and nothing", len(c.answer), c.answer[:min(len(c.answer), 60)], len(c.token), c.token[:min(len(c.token), 60)], c.question, c.now, c.slack, x, e, want)
	}
}

// gives asks that a token's device has a key.
func gives(t *testing.T, r api.Ring, b, want []byte) {
	t.Helper()
	if key, e := challenge.Device(r, b); e != api.OK || !bytes.Equal(key, want) {
		t.Errorf("Device of % x = % x, error %d, want % x", b, key, e, want)
	}
}

// denies asks that there is no device key, with nothing beside the error.
func denies(t *testing.T, r api.Ring, b []byte, want api.Errno) {
	t.Helper()
	if key, e := challenge.Device(r, b); e != want || len(key) != 0 {
		t.Errorf("Device of %d bytes % x = % x, error %d, want error %d and nothing", len(b), b[:min(len(b), 80)], key, e, want)
	}
}

// answers asks that a device answers with these bytes.
func answers(t *testing.T, key, question []byte, now int, want []byte) {
	t.Helper()
	if a, e := challenge.Answer(key, question, now); e != api.OK || !bytes.Equal(a, want) {
		t.Errorf("Answer under % x to % x at %d = % x, error %d, want % x", key, question, now, a, e, want)
	}
}

// cannot asks that a device does not answer, with nothing beside the error.
func cannot(t *testing.T, key, question []byte, now int) {
	t.Helper()
	if a, e := challenge.Answer(key, question, now); e != api.ErrArg || len(a) != 0 {
		t.Errorf("Answer under %d bytes to % x at %d = % x, error %d, want error %d and nothing", len(key), question, now, a, e, api.ErrArg)
	}
}

// P11.1 to P11.3: device keys and answers that are known.
func TestAnswersThatAreKnown(t *testing.T) {
	zeros, sevens := make([]byte, 32), bytes.Repeat([]byte{7}, 32)
	var rising []byte
	for c := range 32 {
		rising = append(rising, byte(c))
	}
	for _, c := range []struct {
		draw             []byte
		epoch            int
		token, device    string
		question         []byte
		at, trip, length int
		answer           string
	}{
		{zeros, 1, "c7022aac02070ce8078827012037a10afa82bde15251c6e3df322accb9dc647d27cc8172111324d3d58a5f34be23a92d31", "e23bdf1bcfee5df4303463ab2c68e5973a93d0171a07c40c4286b8d5e8671050", make([]byte, 16), 2000, 300, 42, "c70623d00f206ff01b43a64b1231449f59d6ee82f381c81320e75b54c336c36b7cfef8f7d97b07cb6a6e"},
		{rising, 1, "c7022701010000000120647123f03e2fbb693680539e6d36d9f7e1ab2ec8a461dfdd92b1151b6236619655207340", "9cf82e0d8eb2171e9805b859883893d5317ba642ee96703640897ec5af93a5a3", rising[:16], 0, 1, 41, "c7062200203b321a9dc75d174d6d2fa55bbdfceed7f533ae2a3edaad23323fb979f7e2d7f321067715"},
		{sevens, 2, "c70227050607080902208c93cbc5913f01d8b279652c742e957c3b0f3fdf69ca27d55c01091a58e659c407e0fc52", "e8e6a77e7a5984a2c25319ad4d3e481bf5cd99cbaaeedde968807cfd47ebb117", bytes.Repeat([]byte{0xff}, 16), 5, 5, 41, "c70622052029da52c04a5ba22af191eb0f4313d3df40948184a659d1f1d5366f60f62d84e194109f48"},
		{rising, 1 << 20, "c7023c80808080088080808008ff1f80808080802080808080802080804020943b13c8236424207df5175702684df5c217c87fc40d2a21866c5868222d54b5217295c9", "4dc498d49245d6b8cbdeb7c42058be1f77be48efe31be5668190d099cab181f8", []byte("sixteen letters."), 1 << 40, 1 << 31, 46, "c7062780808080802020bdc2aaad6fa679fe5bce9cee727efaa7a2a98525bade5ed3f367a6ddc57daf183ac05d39"},
	} {
		r := api.Ring{Keep: 2, Keys: []api.Key{{Epoch: c.epoch, Bytes: derived(c.draw, "epoch", binary.BigEndian.AppendUint32(nil, uint32(c.epoch)))}}}
		b, _ := hex.DecodeString(c.token)
		key, _ := hex.DecodeString(c.device)
		answer, _ := hex.DecodeString(c.answer)
		gives(t, r, b, key)
		answers(t, key, c.question, c.at, answer)
		if len(answer) != c.length {
			t.Errorf("the answer at %d has %d bytes, want %d", c.at, len(answer), c.length)
		}
		x, e := challenge.Check(r, b, c.question, answer, min(c.at+4, 1<<40), 4)
		if c.at == 0 {
			// The token counts at 0 alone.
			x, e = challenge.Check(r, b, c.question, answer, 0, 0)
		}
		if e != api.OK || x.Trip != c.trip {
			t.Errorf("Check of the answer at %d = %v, error %d", c.at, x, e)
		}
	}
}

// The chapter's example: an answer at the time 5 has 1 + 33 + 7 bytes; at other times the time has its own number of them.
func TestExample(t *testing.T) {
	for _, c := range []struct{ at, time int }{{5, 1}, {0, 1}, {127, 1}, {128, 2}, {16383, 2}, {16384, 3}, {1<<35 - 1, 5}, {1 << 35, 6}, {1 << 40, 6}} {
		a, e := challenge.Answer(noise(1, 32), noise(2, 16), c.at)
		if e != api.OK || len(a) != c.time+33+7 {
			t.Errorf("Answer at %d has %d bytes, error %d, want %d bytes", c.at, len(a), e, c.time+33+7)
		}
	}
}

// P11.1: the device keys of tokens of all kinds, at whatever time they count.
func TestDevice(t *testing.T) {
	for _, x := range tokens() {
		b := issued(x)
		for _, r := range []api.Ring{ringOf(16, 1, 16), ringOf(1, x.Epoch, 1), ringOf(3, max(x.Epoch-2, 1), 3)} {
			gives(t, r, b, deviceOf(x.Epoch, b))
		}
	}
	for _, epoch := range []int{1, 127, 128, 1<<20 - 1, 1 << 20} {
		x := middle()
		x.Epoch = epoch
		gives(t, ringOf(2, epoch-1, 2), issued(x), deviceOf(epoch, issued(x)))
	}
}

// P11.1: a device key is that of the token's whole bytes, and of the key of its epoch.
func TestDevicesOfTokens(t *testing.T) {
	var keys [][]byte
	for at := range 6 {
		for change := range 4 {
			n := numbersOf(middle())
			n[at] += change
			key, e := challenge.Device(ringOf(16, 1, 16), issued(of(n)))
			if e != api.OK || len(key) != 32 {
				t.Fatalf("Device of %v: %d bytes, error %d", n, len(key), e)
			}
			if change > 0 || at == 0 {
				keys = append(keys, key)
			}
		}
	}
	slices.SortFunc(keys, bytes.Compare)
	if count := len(slices.CompactFunc(keys, bytes.Equal)); count != 1+6*3 {
		t.Errorf("%d device keys of %d tokens", count, 1+6*3)
	}
}

// refused is bytes that Open has an error for, and that error.
type refused struct {
	b    []byte
	want api.Errno
}

// unframed is bytes that are no whole frame of a kind with a content: each error of layer 4.
func unframed(kind byte, content []byte) []refused {
	b := framed(kind, content)
	out := []refused{
		{nil, api.ErrEnd}, {[]byte{}, api.ErrEnd}, {[]byte{0xc7, kind, 0x80, 0}, api.ErrForm},
		{b[1:], api.ErrForm}, {append([]byte{0xc6}, b[1:]...), api.ErrForm},
		{slices.Concat([]byte{0xc7, kind}, plain(1<<20+1)), api.ErrLimit},
		{append(framed(kind+1, content), 0), api.ErrForm},
		{append(framed(kind, content[:1]), 0), api.ErrExtra},
	}
	for n := range b {
		out = append(out, refused{b[:n], api.ErrEnd})
	}
	for other := range 256 {
		if byte(other) != kind {
			out = append(out, refused{framed(byte(other), content), api.ErrForm})
		}
	}
	for _, more := range [][]byte{{0}, {0xc7}, b, noise(5, 100)} {
		out = append(out, refused{slices.Concat(b, more), api.ErrExtra})
	}
	for at := len(b) - 4; at < len(b); at++ {
		for bit := range 8 {
			other := slices.Clone(b)
			other[at] ^= 1 << bit
			out = append(out, refused{other, api.ErrSum})
		}
	}
	return out
}

// misread is contents whose fields layer 3 has an error for, with such an error in each of their fields.
func misread(kind byte, fields [][]byte, mosts []uint64) []refused {
	var out []refused
	all := slices.Concat(fields...)
	for at, most := range mosts {
		ahead, behind := slices.Concat(fields[:at]...), slices.Concat(fields[at+1:]...)
		for _, n := range []uint64{most + 1, most + 2, 1 << 41, 1<<48 + 1, 1 << 62, 1<<62 + 1, math.MaxInt, math.MaxUint64} {
			out = append(out, refused{framed(kind, ahead, plain(n), behind), api.ErrLimit}, refused{framed(kind, ahead, plain(n)), api.ErrLimit}, refused{framed(kind, ahead, plain(n), []byte{0x80, 0}), api.ErrLimit})
		}
		out = append(out, refused{framed(kind, ahead, []byte{0x80, 0}, behind), api.ErrForm}, refused{framed(kind, ahead, bytes.Repeat([]byte{0xff}, 9), []byte{2}, behind), api.ErrForm}, refused{framed(kind, ahead, bytes.Repeat([]byte{0x80}, 9)), api.ErrEnd})
	}
	for n := range all {
		out = append(out, refused{framed(kind, all[:n]), api.ErrEnd})
	}
	for _, more := range [][]byte{{0}, {1}, {0x80}, noise(10, 32), noise(10, 1000)} {
		out = append(out, refused{framed(kind, all, more), api.ErrExtra})
	}
	return out
}

// unopened is bytes that are no token's: each error of Open.
func unopened() []refused {
	x := wide()
	content := slices.Concat(fieldsOf(x), counted(tagOf(x)))
	out := unframed(2, content)
	var fields [][]byte
	var mosts []uint64
	for at, n := range numbersOf(x) {
		fields, mosts = append(fields, plain(uint64(n))), append(mosts, uint64(bounds()[at].most))
	}
	out = append(out, misread(2, append(fields, counted(tagOf(x))), append(mosts, 32))...)
	for _, n := range [][6]int{
		{0, 7, 12, 0, 5000, 3}, {300, 0, 12, 0, 5000, 3}, {300, 7, 12, 0, 5000, 0}, {300, 7, 12, 5001, 5000, 3}, {300, 7, 12, 1 << 40, 0, 3}, {},
	} {
		out = append(out, refused{issued(of(n)), api.ErrArg})
	}
	for length := range 32 {
		out = append(out, refused{tokenOf(x, tagOf(x)[:length]), api.ErrArg})
	}
	for _, length := range []int{33, 64, 1000} {
		out = append(out, refused{tokenOf(x, append(tagOf(x), make([]byte, length-32)...)), api.ErrLimit})
	}
	return out
}

// P11.1: the errors of Open come first, whatever keys the ring has.
func TestDeviceAsksOpen(t *testing.T) {
	for _, c := range unopened() {
		for _, r := range []api.Ring{ringOf(16, 1, 16), ringOf(1, 90, 1), {}} {
			denies(t, r, c.b, c.want)
		}
	}
}

// otherRings is rings without the key of an epoch, which have those of the epochs beside it.
func otherRings(epoch int) []api.Ring {
	gap := ringOf(16, epoch-3, 7)
	gap.Keys = slices.Delete(gap.Keys, 3, 4)
	return []api.Ring{{}, {Keep: 3}, ringOf(16, epoch+1, 16), ringOf(16, epoch-16, 16), gap, ringOf(1, epoch+1, 1), ringOf(1, epoch-1, 1), ringOf(2, epoch+1<<32, 2)}
}

// otherTags is tags that differ from one: in each of its bits, also of the first and the last byte, and in all bytes.
func otherTags(tag []byte) [][]byte {
	out := [][]byte{make([]byte, 32), bytes.Repeat([]byte{0xff}, 32), noise(1, 32)}
	for at := range 8 * len(tag) {
		other := slices.Clone(tag)
		other[at/8] ^= 1 << (at % 8)
		out = append(out, other)
	}
	reversed := slices.Clone(tag)
	slices.Reverse(reversed)
	return append(out, reversed)
}

// P11.1: an epoch whose key is not there, ahead of a tag that is different.
func TestDeviceWithoutKey(t *testing.T) {
	for _, epoch := range []int{1, 2, 3, 100, 256, 1<<20 - 1, 1 << 20} {
		x := middle()
		x.Epoch = epoch
		for _, r := range otherRings(epoch) {
			denies(t, r, issued(x), api.ErrKey)
			denies(t, r, tokenOf(x, noise(4, 32)), api.ErrKey)
		}
		gives(t, ringOf(1, epoch, 1), issued(x), deviceOf(epoch, issued(x)))
	}
}

// P11.1: tags that are different.
func TestDeviceOfOtherTags(t *testing.T) {
	for _, x := range tokens() {
		for _, tag := range otherTags(tagOf(x)) {
			denies(t, ringOf(16, 1, 16), tokenOf(x, tag), api.ErrTag)
		}
		denies(t, ringOf(16, 1, 16), tokenOf(x, derived(keyOf(x.Epoch%16+1), "token", fieldsOf(x))), api.ErrTag)
		denies(t, ringOf(16, 1, 16), tokenOf(x, deviceOf(x.Epoch, fieldsOf(x))), api.ErrTag)
	}
}

// P11.1, P11.2: of a ring, the key of the epoch alone is asked for: the first one if there are several, of any length.
func TestUnderWrongRings(t *testing.T) {
	x := middle()
	for _, length := range []int{0, 1, 31, 32, 33, 64, 65, 1000} {
		key := noise(77, length)
		b := tokenOf(x, derived(key, "token", fieldsOf(x)))
		r := api.Ring{Keep: -1, Keys: []api.Key{{Epoch: 9, Bytes: keyOf(9)}, {Epoch: 3, Bytes: key}, {Epoch: 3, Bytes: keyOf(3)}}}
		device := derived(key, "device", b)
		gives(t, r, b, device)
		c := call{r, b, noise(1, 16), answered(device, noise(1, 16), 2000), 2000, 0}
		accepts(t, c, x)
		denies(t, r, issued(x), api.ErrTag)
		c.ring.Keys = r.Keys[2:]
		rejects(t, c, api.ErrTag)
	}
}

// questions is questions of several kinds.
func questions() [][]byte {
	return [][]byte{make([]byte, 16), bytes.Repeat([]byte{0xff}, 16), []byte("0123456789abcdef"), noise(1, 16), noise(2, 16)}
}

// times is times at both bounds, between them, and where their number of bytes changes.
func times() []int {
	return []int{0, 1, 5, 127, 128, 255, 256, 16383, 16384, 1 << 20, 1<<31 - 1, 1 << 31, 1<<32 + 5, 1<<35 - 1, 1 << 35, 1<<40 - 1, 1 << 40}
}

// noTimes is numbers that are no times.
func noTimes() []int {
	return []int{-1, -2, -5, -1 << 31, -1 << 40, math.MinInt, math.MinInt + 1, 1<<40 + 1, 1<<40 + 2, 1 << 41, 1 << 62, math.MaxInt - 1, math.MaxInt}
}

// keys is device keys of many lengths.
func keys() [][]byte {
	out := [][]byte{nil, {}, make([]byte, 32)}
	for _, length := range []int{1, 31, 32, 33, 63, 64, 65, 100, 1000, 100000} {
		out = append(out, noise(uint64(length), length))
	}
	return out
}

// noQuestions is bytes that are no questions.
func noQuestions() [][]byte {
	out := [][]byte{nil, {}}
	for length := range 100 {
		if length != 16 {
			out = append(out, noise(uint64(length), length), make([]byte, length))
		}
	}
	return append(out, noise(3, 256+16), noise(3, 65536+16))
}

// P11.1: answers of keys, questions and times of all kinds.
func TestAnswer(t *testing.T) {
	for _, key := range keys() {
		for _, q := range questions() {
			for _, at := range times() {
				answers(t, key, q, at, answered(key, q, at))
			}
		}
	}
}

// P11.1: no question, no time, or neither.
func TestAnswerOfNone(t *testing.T) {
	for _, key := range [][]byte{nil, noise(1, 32), noise(1, 1000)} {
		for _, q := range noQuestions() {
			for _, at := range append(noTimes(), 0, 5, 2000, 1<<40) {
				cannot(t, key, q, at)
			}
		}
		for _, q := range questions() {
			for _, at := range noTimes() {
				cannot(t, key, q, at)
			}
		}
	}
}

// P11.2: answers that are accepted, of tokens, questions and times of all kinds.
func TestCheck(t *testing.T) {
	for _, x := range tokens() {
		for _, q := range questions() {
			for _, now := range []int{x.Issued, (x.Issued + x.Until) / 2, x.Until} {
				for _, at := range times() {
					far := max(at, now) - min(at, now)
					accepts(t, callOf(x, q, at, now, far), x)
					accepts(t, callOf(x, q, at, now, far+1), x)
					accepts(t, callOf(x, q, at, now, math.MaxInt), x)
					if far > 0 {
						rejects(t, callOf(x, q, at, now, far-1), api.ErrTime)
					}
				}
			}
		}
	}
}

// P11.2: questions, times and slacks that may not be, ahead of whatever else is wrong.
func TestCheckAsksArguments(t *testing.T) {
	for _, q := range noQuestions() {
		c := good()
		c.question = q
		rejects(t, c, api.ErrArg)
		// Also where the answer is one to these very bytes.
		c.answer = answered(deviceOf(3, c.token), q, 1995)
		rejects(t, c, api.ErrArg)
	}
	for _, now := range noTimes() {
		c := callOf(wide(), noise(1, 16), min(max(now, 0), 1<<40), now, math.MaxInt)
		rejects(t, c, api.ErrArg)
		c.slack = 1
		rejects(t, c, api.ErrArg)
	}
	for _, slack := range []int{-1, -2, -5, math.MinInt, math.MinInt + 1} {
		for _, at := range []int{1990, 1999, 2000, 2001, 2010} {
			rejects(t, callOf(middle(), noise(1, 16), at, 2000, slack), api.ErrArg)
		}
	}
}

// P11.2: questions of 15, 16 and 17 bytes, and times and slacks at their bounds and one beyond them, in all combinations.
func TestCheckAtBoundsTogether(t *testing.T) {
	for _, length := range []int{15, 16, 17} {
		for _, now := range []int{-1, 0, 1 << 40, 1<<40 + 1} {
			for _, slack := range []int{-1, 0, 1, 1 << 40, math.MaxInt - 1, math.MaxInt} {
				at := min(max(now, 0), 1<<40)
				c := callOf(wide(), noise(1, length), at, now, slack)
				if length == 16 && now == at && slack >= 0 {
					accepts(t, c, wide())
				} else {
					rejects(t, c, api.ErrArg)
				}
			}
		}
	}
}

// P11.2: the errors of Open, ahead of those of the ring and of the answer.
func TestCheckAsksOpen(t *testing.T) {
	for _, bad := range unopened() {
		for _, r := range []api.Ring{ringOf(16, 1, 16), ringOf(1, 90, 1), {}} {
			c := good()
			c.ring, c.token = r, bad.b
			rejects(t, c, bad.want)
			c.answer = answered(deviceOf(3, bad.b), c.question, 2000)
			rejects(t, c, bad.want)
			c.answer = nil
			rejects(t, c, bad.want)
		}
	}
}

// P11.2: the key, the tag and the time of the token, in this order.
func TestCheckAsksVerify(t *testing.T) {
	for _, x := range tokens() {
		b := issued(x)
		for _, r := range otherRings(x.Epoch) {
			for _, now := range []int{x.Issued, x.Until, 0, 1 << 40} {
				c := callOf(x, noise(1, 16), now, now, 0)
				c.ring = r
				rejects(t, c, api.ErrKey)
				c.token = tokenOf(x, noise(4, 32))
				rejects(t, c, api.ErrKey)
			}
		}
		for _, tag := range otherTags(tagOf(x)) {
			c := callOf(x, noise(1, 16), x.Until, x.Until, 0)
			c.token = tokenOf(x, tag)
			rejects(t, c, api.ErrTag)
			c.answer = answered(deviceOf(x.Epoch, c.token), c.question, x.Until)
			rejects(t, c, api.ErrTag)
		}
		for _, now := range []int{0, x.Issued - 2, x.Issued - 1, x.Until + 1, x.Until + 2, 1 << 40} {
			if 0 <= now && now <= 1<<40 && (now < x.Issued || now > x.Until) {
				c := call{ringOf(16, 1, 16), b, noise(1, 16), answered(deviceOf(x.Epoch, b), noise(1, 16), now), now, 5}
				rejects(t, c, api.ErrTime)
				c.token = tokenOf(x, noise(4, 32))
				rejects(t, c, api.ErrTag)
			}
		}
	}
}

// P11.2: the errors of layer 4 for the answer.
func TestCheckAsksLayer4(t *testing.T) {
	c := good()
	tag := answerTag(deviceOf(3, c.token), c.question, 1995)
	for _, bad := range unframed(6, slices.Concat(plain(1995), counted(tag))) {
		c.answer = bad.b
		rejects(t, c, bad.want)
	}
	c.answer = framed(6, make([]byte, 1<<20+1))
	rejects(t, c, api.ErrLimit)
	c.answer = c.token
	rejects(t, c, api.ErrForm)
	// Each of them comes ahead of what is wrong with the content.
	for _, content := range [][]byte{{1, 2}, plain(1 << 41), slices.Concat(plain(0), counted(tag))} {
		for _, bad := range unframed(6, content) {
			c.answer = bad.b
			rejects(t, c, bad.want)
		}
	}
}

// P11.2: the errors of layer 3 for the answer: no time, one above MaxTime, no tag, one that is too long, bytes that remain.
func TestCheckAsksLayer3(t *testing.T) {
	c := good()
	tag := answerTag(deviceOf(3, c.token), c.question, 1995)
	for _, slack := range []int{0, 10, math.MaxInt} {
		c.slack = slack
		for _, bad := range misread(6, [][]byte{plain(1995), counted(tag)}, []uint64{1 << 40, 32}) {
			c.answer = bad.b
			rejects(t, c, bad.want)
		}
		for _, bad := range []refused{
			{framed(6), api.ErrEnd},
			{framed(6, plain(1995)), api.ErrEnd},
			{framed(6, plain(1<<40+1), counted(tag)), api.ErrLimit},
			{framed(6, plain(1995), []byte{33}, tag), api.ErrLimit},
			{answerOf(1995, append(tag, 0)), api.ErrLimit},
			{framed(6, plain(1995), []byte{32}, tag[:31]), api.ErrEnd},
			{framed(6, plain(1995), []byte{31}, tag), api.ErrExtra},
			{framed(6, plain(1995), counted(nil), tag), api.ErrExtra},
			{framed(6, plain(1995), tag), api.ErrLimit},
			{framed(6, counted(tag)), api.ErrLimit},
		} {
			c.answer = bad.b
			rejects(t, c, bad.want)
		}
	}
}

// P11.2: what layer 3 says comes ahead of a time that is too far and of a tag that is another one.
func TestCheckAsksLayer3First(t *testing.T) {
	c := good()
	for _, at := range []int{0, 1989, 1995, 2011, 1 << 40} {
		for _, bad := range []refused{
			{answerOf(at, noise(4, 33)), api.ErrLimit},
			{framed(6, plain(uint64(at)), []byte{32}, noise(4, 31)), api.ErrEnd},
			{framed(6, plain(uint64(at)), counted(noise(4, 32)), []byte{0}), api.ErrExtra},
			{framed(6, plain(uint64(at)), counted(noise(4, 31)), []byte{0}), api.ErrExtra},
			{framed(6, plain(uint64(at)), counted(nil), []byte{0}), api.ErrExtra},
			{framed(6, plain(uint64(at)), []byte{0x80, 0}), api.ErrForm},
		} {
			c.answer = bad.b
			rejects(t, c, bad.want)
		}
	}
}

// P11.2, P11.3: the answer's time, earlier and later than now by the slack and by one more.
func TestCheckOfTimes(t *testing.T) {
	for _, now := range []int{0, 1, 127, 2000, 1 << 32, 1<<40 - 1, 1 << 40} {
		for _, slack := range []int{0, 1, 2, 10, 126, 1000, 1 << 31, 1<<40 - 1, 1 << 40} {
			for _, by := range []int{-slack - 2, -slack - 1, -slack, -slack + 1, -1, 0, 1, slack - 1, slack, slack + 1, slack + 2} {
				at := now + by
				if at < 0 || at > 1<<40 {
					continue
				}
				c := callOf(wide(), noise(1, 16), at, now, slack)
				if -slack <= by && by <= slack {
					accepts(t, c, wide())
				} else {
					rejects(t, c, api.ErrTime)
					// The time comes ahead of the tag.
					c.answer = answerOf(at, noise(4, 32))
					rejects(t, c, api.ErrTime)
				}
			}
		}
	}
	for _, at := range times() {
		for _, slack := range []int{1 << 40, 1<<40 + 1, math.MaxInt - 1, math.MaxInt} {
			accepts(t, callOf(wide(), noise(1, 16), at, 0, slack), wide())
			accepts(t, callOf(wide(), noise(1, 16), at, 1<<40, slack), wide())
		}
	}
}

// P11.2: the answer's time may lie outside the token's times, of which now alone is asked.
func TestAnswersOutsideTheTokensTimes(t *testing.T) {
	x := middle()
	accepts(t, callOf(x, noise(1, 16), 990, 1000, 10), x)
	accepts(t, callOf(x, noise(1, 16), 5010, 5000, 10), x)
	accepts(t, callOf(x, noise(1, 16), 0, 1000, math.MaxInt), x)
	accepts(t, callOf(x, noise(1, 16), 1<<40, 5000, math.MaxInt), x)
	rejects(t, callOf(x, noise(1, 16), 1000, 999, 10), api.ErrTime)
	rejects(t, callOf(x, noise(1, 16), 5000, 5001, 10), api.ErrTime)
}

// P11.2: tags that are different, in one bit or in all bytes, or shorter.
func TestCheckOfOtherTags(t *testing.T) {
	for _, x := range tokens() {
		c := callOf(x, noise(1, 16), x.Until, x.Until, 0)
		device := deviceOf(x.Epoch, c.token)
		tag := answerTag(device, c.question, x.Until)
		accepts(t, c, x)
		wrong := append(otherTags(tag), nil)
		for length := range 32 {
			wrong = append(wrong, tag[:length], noise(4, length))
		}
		at := plain(uint64(x.Until))
		wrong = append(wrong,
			tagOf(x), device,
			answerTag(keyOf(x.Epoch), c.question, x.Until),
			answerTag(nil, c.question, x.Until),
			derived(device, "answer", at, c.question),
			derived(device, "answer", c.question),
			derived(device, "answer", c.question, counted(at)),
			derived(device, "answer", counted(c.question), at),
			derived(device, "answer", c.question, at, []byte{0}),
			derived(device, "device", c.question, at),
			derived(device, "token", c.question, at),
			derived(device, "Answer", c.question, at),
			derived(derived(keyOf(x.Epoch), "device", fieldsOf(x)), "answer", c.question, at),
			derived(derived(keyOf(x.Epoch), "answer", c.token), "answer", c.question, at),
		)
		for _, other := range wrong {
			c.answer = answerOf(x.Until, other)
			rejects(t, c, api.ErrTag)
		}
	}
}

// P11.3: an answer is not one to another question, whichever bit of it is another one.
func TestOtherQuestions(t *testing.T) {
	for _, q := range questions() {
		c := callOf(middle(), q, 1995, 2000, 10)
		accepts(t, c, middle())
		for at := range 8 * len(q) {
			c.question = slices.Clone(q)
			c.question[at/8] ^= 1 << (at % 8)
			rejects(t, c, api.ErrTag)
		}
		for _, other := range questions() {
			c.question = other
			if bytes.Equal(other, q) {
				accepts(t, c, middle())
			} else {
				rejects(t, c, api.ErrTag)
			}
		}
	}
}

// P11.3: an answer is that of one device: of another token, epoch or ring it is not accepted.
func TestOtherDevices(t *testing.T) {
	q := noise(1, 16)
	for at := range 6 {
		n := numbersOf(middle())
		n[at]++
		c, other := callOf(middle(), q, 2000, 2000, 10), callOf(of(n), q, 2000, 2000, 10)
		accepts(t, c, middle())
		accepts(t, other, of(n))
		c.answer, other.answer = other.answer, c.answer
		rejects(t, c, api.ErrTag)
		rejects(t, other, api.ErrTag)
	}
}

// P11.3: an answer holds for its own time alone, also where another one would be within the slack.
func TestOtherTimes(t *testing.T) {
	c := good()
	tag := answerTag(deviceOf(3, c.token), c.question, 1995)
	for at := 1990; at <= 2010; at++ {
		c.answer = answerOf(at, tag)
		if at == 1995 {
			accepts(t, c, middle())
		} else {
			rejects(t, c, api.ErrTag)
		}
	}
}

// P11.2: which of several errors is the first, with one fault in each of the parts that come one after the other.
func TestCheckInOrder(t *testing.T) {
	type fault struct {
		change func(c *call)
		want   api.Errno
	}
	none := fault{func(*call) {}, api.OK}
	parts := [][]fault{
		{none, {func(c *call) { c.question = c.question[:15] }, api.ErrArg}, {func(c *call) { c.now = -1 }, api.ErrArg}, {func(c *call) { c.slack = -1 }, api.ErrArg}, {func(c *call) { c.now = 1<<40 + 1 }, api.ErrArg}},
		{none, {func(c *call) { c.token = append(slices.Clone(c.token), 0) }, api.ErrExtra}, {func(c *call) { c.token = nil }, api.ErrEnd}, {func(c *call) { c.token = framed(6, c.token[3:len(c.token)-4]) }, api.ErrForm}},
		{none, {func(c *call) { c.ring = ringOf(3, 4, 3) }, api.ErrKey}, {func(c *call) { c.ring = api.Ring{} }, api.ErrKey}},
		{none, {func(c *call) { c.ring.Keys = []api.Key{{Epoch: 3, Bytes: noise(9, 32)}} }, api.ErrTag}},
		{none, {func(c *call) { c.now = 999 }, api.ErrTime}, {func(c *call) { c.now = 5001 }, api.ErrTime}},
		{none, {func(c *call) { c.answer = append(slices.Clone(c.answer), 0) }, api.ErrExtra}, {func(c *call) { c.answer = c.answer[:3] }, api.ErrEnd}, {func(c *call) { c.answer = summed(append([]byte{0xc7, 2}, c.answer[2:len(c.answer)-4]...)) }, api.ErrForm}},
		{none, {func(c *call) { c.answer = framed(6) }, api.ErrEnd}, {func(c *call) { c.answer = framed(6, c.answer[3:len(c.answer)-4], []byte{0}) }, api.ErrExtra}, {func(c *call) { c.answer = framed(6, plain(1<<40+1), c.answer[5:len(c.answer)-4]) }, api.ErrLimit}},
		{none, {func(c *call) { c.answer = answerOf(1989, noise(4, 32)) }, api.ErrTime}, {func(c *call) { c.answer = answerOf(2011, noise(4, 32)) }, api.ErrTime}},
		{none, {func(c *call) { c.answer = answerOf(1995, noise(4, 32)) }, api.ErrTag}, {func(c *call) { c.answer = answerOf(2010, nil) }, api.ErrTag}},
	}
	all := []fault{none}
	// From the last part to the first one, so that what comes first has the say.
	for i := len(parts) - 1; i >= 0; i-- {
		var more []fault
		for _, late := range all {
			for _, early := range parts[i] {
				both := fault{func(c *call) { late.change(c); early.change(c) }, late.want}
				if early.want != api.OK {
					both.want = early.want
				}
				more = append(more, both)
			}
		}
		all = more
	}
	for _, f := range all {
		c := good()
		f.change(&c)
		if f.want == api.OK {
			accepts(t, c, middle())
		} else {
			rejects(t, c, f.want)
		}
	}
}

// P11.3: the answer of the device of an issued token is accepted within the slack, as long as the ring has its key.
func TestRotations(t *testing.T) {
	for keep := 1; keep <= api.MaxKeep; keep++ {
		r, _ := ring.New(keep, noise(uint64(keep), 32))
		b, e := token.Issue(r, middle())
		if e != api.OK {
			t.Fatalf("Issue under Keep %d: error %d", keep, e)
		}
		key, e := challenge.Device(r, b)
		if e != api.OK {
			t.Fatalf("Device under Keep %d: error %d", keep, e)
		}
		want := middle()
		want.Epoch = 1
		for epoch := 1; epoch <= keep+2; epoch++ {
			q := noise(uint64(100*keep+epoch), 16)
			a, e := challenge.Answer(key, q, 1990)
			if e != api.OK {
				t.Fatalf("Answer: error %d", e)
			}
			c := call{r, b, q, a, 2000, 10}
			if epoch <= keep {
				accepts(t, c, want)
				gives(t, r, b, key)
				c.now = 1980
				accepts(t, c, want)
				c.now = 1979
				rejects(t, c, api.ErrTime)
				c.now, c.question = 2000, noise(1, 16)
				rejects(t, c, api.ErrTag)
			} else {
				rejects(t, c, api.ErrKey)
				denies(t, r, b, api.ErrKey)
			}
			r, _ = ring.Rotate(r, noise(uint64(1000*keep+epoch), 32))
		}
	}
}

// held is bytes with more behind their end in memory, and what all of that was.
type held struct{ long, before []byte }

// hold is bytes that are held with more behind their end.
func hold(b []byte) ([]byte, held) {
	long := slices.Concat(b, noise(60, 200))
	return long[:len(b)], held{long, slices.Clone(long)}
}

// No argument is changed, and not what lies behind it in memory: neither with an error nor without one.
func TestArgumentsAreNotChanged(t *testing.T) {
	for _, x := range tokens() {
		c := callOf(x, noise(1, 16), x.Until, x.Until, 5)
		memory := ringOf(3, x.Epoch-1, 6)
		var all []held
		for i := range memory.Keys {
			b, h := hold(memory.Keys[i].Bytes)
			memory.Keys[i].Bytes, all = b, append(all, h)
		}
		keys := slices.Clone(memory.Keys)
		c.ring = api.Ring{Keep: 3, Keys: memory.Keys[1:2]}
		for _, b := range []*[]byte{&c.token, &c.question, &c.answer} {
			h := held{}
			*b, h = hold(*b)
			all = append(all, h)
		}
		key, h := hold(deviceOf(x.Epoch, c.token))
		all = append(all, h)
		gives(t, c.ring, c.token, key)
		answers(t, key, c.question, x.Until, c.answer)
		cannot(t, key, c.question[:15], x.Until)
		accepts(t, c, x)
		short := c
		short.answer = c.answer[:20]
		rejects(t, short, api.ErrEnd)
		denies(t, c.ring, c.token[:20], api.ErrEnd)
		late := c
		late.answer = answered(key, c.question, max(x.Until-6, 0))
		if x.Until > 5 {
			rejects(t, late, api.ErrTime)
		}
		for i, h := range all {
			if !bytes.Equal(h.long, h.before) {
				t.Errorf("the argument %d of %v, or what lies behind it, was changed", i, x)
			}
		}
		for i, k := range memory.Keys {
			if k.Epoch != keys[i].Epoch || &k.Bytes[0] != &keys[i].Bytes[0] || len(k.Bytes) != len(keys[i].Bytes) {
				t.Errorf("the ring of %v was changed at %d", x, i)
			}
		}
	}
}

// spoil overwrites bytes, and what lies behind them in memory.
func spoil(b []byte) {
	b = b[:cap(b)]
	for i := range b {
		b[i] ^= 0xff
	}
}

// An answer is new memory, which shares none with an argument or with another answer.
func TestAnswersAreNewMemory(t *testing.T) {
	c := good()
	want := deviceOf(3, c.token)
	first, _ := challenge.Device(c.ring, c.token)
	second, _ := challenge.Device(c.ring, c.token)
	spoil(first)
	if !bytes.Equal(second, want) {
		t.Error("a device key is memory of another one")
	}
	gives(t, c.ring, c.token, want)
	one, _ := challenge.Answer(second, c.question, 1995)
	two, _ := challenge.Answer(second, c.question, 1995)
	spoil(one)
	if !bytes.Equal(two, c.answer) || !bytes.Equal(second, want) || !bytes.Equal(c.question, noise(1, 16)) {
		t.Error("an answer is memory of another one, of the key or of the question")
	}
	accepts(t, good(), middle())
	accepts(t, c, middle())
}

// number is the number that bytes begin with, up to most, as the document says it.
func number(b []byte, most uint64) (uint64, int, api.Errno) {
	n, size := binary.Uvarint(b)
	switch {
	case size == 0 && len(b) < 10:
		return 0, 0, api.ErrEnd
	case size <= 0 || size > 1 && b[size-1] == 0:
		return 0, 0, api.ErrForm
	case n > most:
		return 0, 0, api.ErrLimit
	}
	return n, size, api.OK
}

// whole is the content of bytes that are a frame of a kind, as the document says it.
func whole(kind byte, b []byte) ([]byte, api.Errno) {
	switch {
	case len(b) == 0:
		return nil, api.ErrEnd
	case b[0] != 0xc7:
		return nil, api.ErrForm
	case len(b) == 1:
		return nil, api.ErrEnd
	}
	n, size, e := number(b[2:], 1<<20)
	if e != api.OK {
		return nil, e
	}
	end := 2 + size + int(n)
	switch {
	case len(b) < end+4:
		return nil, api.ErrEnd
	case !bytes.Equal(summed(b[:end]), b[:end+4]):
		return nil, api.ErrSum
	case b[1] != kind:
		return nil, api.ErrForm
	case len(b) > end+4:
		return nil, api.ErrExtra
	}
	return b[2+size : end], api.OK
}

// read is the numbers, up to mosts, and the tag of a content, as the document says it.
func read(content []byte, mosts ...uint64) ([]int, []byte, api.Errno) {
	var numbers []int
	for _, most := range mosts {
		n, size, e := number(content, most)
		if e != api.OK {
			return nil, nil, e
		}
		numbers, content = append(numbers, int(n)), content[size:]
	}
	n, size, e := number(content, 32)
	switch {
	case e != api.OK:
		return nil, nil, e
	case len(content) < size+int(n):
		return nil, nil, api.ErrEnd
	case len(content) > size+int(n):
		return nil, nil, api.ErrExtra
	}
	return numbers, content[size:], api.OK
}

// opened is the token of bytes and the device key, but for the time, as the document says it.
func opened(r api.Ring, b []byte) (api.Token, []byte, api.Errno) {
	content, e := whole(2, b)
	if e != api.OK {
		return api.Token{}, nil, e
	}
	n, tag, e := read(content, 1<<31, 1<<31, 4095, 1<<40, 1<<40, 1<<20)
	if e != api.OK {
		return api.Token{}, nil, e
	}
	x := of([6]int(n))
	at := slices.IndexFunc(r.Keys, func(k api.Key) bool { return k.Epoch == x.Epoch })
	switch {
	case x.Trip < 1 || x.Account < 1 || x.Epoch < 1 || x.Issued > x.Until || len(tag) != 32:
		return api.Token{}, nil, api.ErrArg
	case at < 0:
		return api.Token{}, nil, api.ErrKey
	case !bytes.Equal(tag, derived(r.Keys[at].Bytes, "token", fieldsOf(x))):
		return api.Token{}, nil, api.ErrTag
	}
	return x, derived(r.Keys[at].Bytes, "device", b), api.OK
}

// checked is what Check has to return, as the document says it, without the layers below.
func checked(c call) (api.Token, api.Errno) {
	if len(c.question) != 16 || c.now < 0 || c.now > 1<<40 || c.slack < 0 {
		return api.Token{}, api.ErrArg
	}
	x, device, e := opened(c.ring, c.token)
	switch {
	case e != api.OK:
		return api.Token{}, e
	case c.now < x.Issued || c.now > x.Until:
		return api.Token{}, api.ErrTime
	}
	content, e := whole(6, c.answer)
	if e != api.OK {
		return api.Token{}, e
	}
	n, tag, e := read(content, 1<<40)
	switch {
	case e != api.OK:
		return api.Token{}, e
	case n[0]-c.now > c.slack || c.now-n[0] > c.slack:
		return api.Token{}, api.ErrTime
	case !bytes.Equal(tag, answerTag(device, c.question, n[0])):
		return api.Token{}, api.ErrTag
	}
	return x, api.OK
}

// same asks that Device and Check agree with their models.
func same(t *testing.T, c call) {
	t.Helper()
	_, device, e := opened(c.ring, c.token)
	if e == api.OK {
		gives(t, c.ring, c.token, device)
	} else {
		denies(t, c.ring, c.token, e)
	}
	x, e := checked(c)
	if e == api.OK {
		accepts(t, c, x)
	} else {
		rejects(t, c, e)
	}
}

// P11.2, P11.3: answers and tokens with one byte that is another one; none of them is accepted.
func TestOfOtherBytes(t *testing.T) {
	c := good()
	for value := range 256 {
		for _, part := range []*[]byte{&c.answer, &c.token} {
			b := *part
			for at := range b {
				*part = slices.Clone(b)
				(*part)[at] = byte(value)
				same(t, c)
			}
			kind, content := b[1], b[3:len(b)-4]
			for at := range content {
				other := slices.Clone(content)
				other[at] = byte(value)
				*part = framed(kind, other)
				same(t, c)
				if !bytes.Equal(other, content) {
					if x, e := challenge.Check(c.ring, c.token, c.question, c.answer, c.now, c.slack); e == api.OK || x != (api.Token{}) {
						t.Errorf("% x was accepted with % x", c.token, c.answer)
					}
				}
			}
			*part = b
		}
	}
}

// P11.1 for keys, questions and times of any kind.
func FuzzAnswer(f *testing.F) {
	f.Add(noise(1, 32), noise(2, 16), 5)
	f.Add([]byte{}, noise(2, 16), 1<<40)
	f.Add(noise(1, 65), noise(2, 16), 1<<40+1)
	f.Add(noise(1, 64), noise(2, 16), -1)
	f.Add(noise(1, 32), noise(2, 15), 0)
	f.Add(noise(1, 32), noise(2, 17), 0)
	f.Fuzz(func(t *testing.T, key, question []byte, now int) {
		if len(question) == 16 && 0 <= now && now <= 1<<40 {
			answers(t, key, question, now, answered(key, question, now))
		} else {
			cannot(t, key, question, now)
		}
	})
}

// P11.1 and P11.2 for bytes of any kind, as they are and within right frames.
func FuzzOfBytes(f *testing.F) {
	c := good()
	f.Add(c.token, c.answer, c.question, 2000, 10)
	f.Add(c.token[3:len(c.token)-4], c.answer[3:len(c.answer)-4], c.question, 2000, 10)
	f.Add(c.token, c.answer, c.question, 2000, 4)
	f.Add(c.token, append(c.answer, 0), c.question, 5001, 0)
	f.Add([]byte{}, []byte{}, []byte{}, -1, -1)
	for _, x := range tokens() {
		f.Add(issued(x), c.answer[3:len(c.answer)-4], c.question, x.Until, math.MaxInt)
	}
	f.Fuzz(func(t *testing.T, b, answer, question []byte, now, slack int) {
		for _, b := range [][]byte{b, framed(2, b), c.token} {
			for _, answer := range [][]byte{answer, framed(6, answer), c.answer} {
				same(t, call{c.ring, b, question, answer, now, slack})
				same(t, call{c.ring, b, c.question, answer, now, slack})
				same(t, call{c.ring, b, c.question, answer, 2000, slack})
			}
		}
	})
}

// P11.2 and P11.3 for answers of any time and tag, to questions of any kind, of devices of any tokens.
func FuzzCheck(f *testing.F) {
	f.Add(300, 7, 12, 1000, 5000, 3, noise(1, 16), 1995, 2000, 10, uint8(32), uint8(0))
	f.Add(1, 1, 0, 0, 0, 1, noise(1, 16), 0, 0, 0, uint8(32), uint8(1))
	f.Add(1<<31, 1<<31, 4095, 0, 1<<40, 16, noise(1, 16), 1<<40, 0, 1<<40, uint8(32), uint8(0))
	f.Add(1<<31, 1<<31, 4095, 0, 1<<40, 17, noise(1, 17), 1<<40, 1<<40+1, math.MaxInt, uint8(31), uint8(0))
	f.Add(0, -1, 4096, 1, 0, 0, noise(1, 15), -1, -1, -1, uint8(33), uint8(0))
	f.Fuzz(func(t *testing.T, trip, account, stop, from, until, epoch int, question []byte, at, now, slack int, length, change uint8) {
		b := issued(of([6]int{trip, account, stop, from, until, epoch}))
		tag := answerTag(deviceOf(epoch, b), question, at)
		tag[length%32] ^= change
		tag = append(tag, 0, 0)[:min(length, 34)]
		same(t, call{ringOf(16, 1, 16), b, question, answerOf(at, tag), now, slack})
		same(t, call{ringOf(16, 1, 16), b, question, answered(deviceOf(epoch, b), question, at), now, slack})
	})
}
