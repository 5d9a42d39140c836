package image_test

import (
	"encoding/binary"
	"hash/crc32"
	"math/big"
	"reflect"
	"regexp"
	"slices"
	"strings"

	"payoff/api"
	"payoff/code"
	"payoff/octet"
)

// A plain reading of the chapter.

var (
	plainName     = regexp.MustCompile(`\A[A-Z][A-Z0-9_]{0,30}\z`)
	plainCurrency = regexp.MustCompile(`\A[A-Z]{3}\z`)
)

func plainCanon(p api.Program) api.Errno {
	named := map[[2]int]bool{}
	total := 0
	right := len(p.Names) <= 64 && len(p.Curs) <= 4096 && len(p.Pool) <= 16384
	right = right && p.Horizon >= 0 && p.Horizon <= 3660 && p.Cells >= 0 && p.Cells <= 32768
	right = right && p.Slots >= 0 && p.Slots <= 16384 && p.Stack >= 0 && p.Stack <= 16384
	lengths := map[int]int{api.OpConst: len(p.Pool), api.OpObs: len(p.Names), api.OpFlow: len(p.Curs), api.OpLoad: p.Cells, api.OpStore: p.Cells, api.OpKeep: p.Slots, api.OpGet: p.Slots}
	for k, s := range p.Days {
		right = right && s.Day >= 0 && s.Day <= p.Horizon && (k == 0 || s.Day > p.Days[k-1].Day)
		right = right && len(s.Code) >= 2
		total += len(s.Code)
		for n, i := range s.Code {
			named[[2]int{i.Op, i.A}] = true
			right = right && code.Valid(i) == api.OK && (i.Op == api.OpEnd) == (n == len(s.Code)-1)
			if length, bounded := lengths[i.Op]; bounded {
				right = right && i.A < length
			}
		}
	}
	for k, s := range p.Names {
		right = right && plainName.MatchString(s) && named[[2]int{api.OpObs, k}] && (k == 0 || strings.Compare(s, p.Names[k-1]) > 0)
	}
	for k, s := range p.Curs {
		right = right && plainCurrency.MatchString(s) && named[[2]int{api.OpFlow, k}] && (k == 0 || strings.Compare(s, p.Curs[k-1]) > 0)
	}
	for k, x := range p.Pool {
		right = right && named[[2]int{api.OpConst, k}] && (k == 0 || x > p.Pool[k-1])
	}
	if !right || total > 262144 {
		return api.ErrCanon
	}
	return api.OK
}

func plainUint(x int) string { return string(binary.AppendUvarint(nil, uint64(x))) }

func plainText(s string) string { return plainUint(len(s)) + s }

// plainGap: the difference of two numbers, less 1.
func plainGap(ahead, x int) string {
	gap := new(big.Int).Sub(big.NewInt(int64(x)), big.NewInt(int64(ahead)))
	return string(binary.AppendUvarint(nil, gap.Sub(gap, big.NewInt(1)).Uint64()))
}

// plainBodies: the bodies of the five sections.
func plainBodies(p api.Program) []string {
	names, curs, pool, days := plainUint(len(p.Names)), plainUint(len(p.Curs)), plainUint(len(p.Pool)), plainUint(len(p.Days))
	for _, s := range p.Names {
		names += plainText(s)
	}
	for _, s := range p.Curs {
		curs += plainText(s)
	}
	for k, x := range p.Pool {
		if k == 0 {
			pool += string(binary.AppendVarint(nil, int64(x)))
		} else {
			pool += plainGap(p.Pool[k-1], x)
		}
	}
	for k, s := range p.Days {
		if k == 0 {
			days += plainUint(s.Day)
		} else {
			days += plainUint(s.Day - p.Days[k-1].Day - 1)
		}
		list, _ := code.Encode(s.Code)
		days += plainUint(len(s.Code)) + plainText(string(list))
	}
	numbers := plainUint(p.Horizon) + plainUint(p.Cells) + plainUint(p.Slots) + plainUint(p.Stack)
	return []string{names, curs, pool, numbers, days}
}

// plainSeal: bodies as the sections 1, 2, .. of an image.
func plainSeal(bodies ...string) []byte {
	b := "PAYOFF1\n" + plainUint(len(bodies))
	for k, body := range bodies {
		b += plainUint(k+1) + plainText(body)
	}
	return binary.LittleEndian.AppendUint32([]byte(b), crc32.ChecksumIEEE([]byte(b)))
}

func plainEncode(p api.Program) ([]byte, api.Errno) {
	if e := plainCanon(p); e != api.OK {
		return nil, e
	}
	return plainSeal(plainBodies(p)...), api.OK
}

// wrong: what the plain reader panics with.
type wrong struct {
	place int
	e     api.Errno
}

// plainReader: all bytes up to the end of a section, and the place of the next one.
type plainReader struct {
	b  []byte
	at int
}

// look: the number that comes next, and how many bytes it has.
func (r *plainReader) look(limit uint64) (uint64, int) {
	rest := r.b[r.at:]
	x, n := binary.Uvarint(rest)
	if n == 0 && len(rest) < 10 {
		panic(wrong{r.at, api.ErrShort})
	}
	if n <= 0 || n > 1 && rest[n-1] == 0 || x > limit {
		panic(wrong{r.at, api.ErrVarint})
	}
	return x, n
}

func (r *plainReader) uint(limit uint64) uint64 {
	x, n := r.look(limit)
	r.at += n
	return x
}

func (r *plainReader) text(limit uint64) string {
	size, n := r.look(limit)
	if size > uint64(len(r.b)-r.at-n) {
		panic(wrong{r.at, api.ErrShort})
	}
	s := string(r.b[r.at+n : r.at+n+int(size)])
	r.at += n + int(size)
	return s
}

func (r *plainReader) behind(ahead, last int) int {
	room := new(big.Int).Sub(big.NewInt(int64(last)), big.NewInt(int64(ahead)))
	if room.Sign() == 0 {
		panic(wrong{r.at, api.ErrVarint})
	}
	gap := new(big.Int).SetUint64(r.uint(room.Sub(room, big.NewInt(1)).Uint64()))
	return int(gap.Add(gap, big.NewInt(int64(ahead)+1)).Int64())
}

func (r *plainReader) section(n int, p *api.Program) {
	switch n {
	case 1:
		for range r.uint(64) {
			p.Names = append(p.Names, r.text(31))
		}
	case 2:
		for range r.uint(4096) {
			p.Curs = append(p.Curs, r.text(3))
		}
	case 3:
		for k := range r.uint(16384) {
			if k > 0 {
				p.Pool = append(p.Pool, r.behind(p.Pool[k-1], 1<<63-1))
				continue
			}
			z := r.uint(1<<64 - 1)
			x, _ := binary.Varint(binary.AppendUvarint(nil, z))
			p.Pool = append(p.Pool, int(x))
		}
	case 4:
		p.Horizon, p.Cells, p.Slots, p.Stack = int(r.uint(3660)), int(r.uint(32768)), int(r.uint(16384)), int(r.uint(16384))
	case 5:
		for k := range r.uint(uint64(p.Horizon) + 1) {
			s := api.Segment{}
			if k == 0 {
				s.Day = int(r.uint(uint64(p.Horizon)))
			} else {
				s.Day = r.behind(p.Days[k-1].Day, p.Horizon)
			}
			count := int(r.uint(262144))
			text := r.text(1572864)
			list, place, e := code.Decode([]byte(text), count)
			if e != api.OK {
				panic(wrong{r.at - len(text) + place, e})
			}
			s.Code = list
			p.Days = append(p.Days, s)
		}
	}
	if r.at < len(r.b) {
		panic(wrong{r.at, api.ErrExtra})
	}
}

func plainDecode(b []byte) (p api.Program, place int, e api.Errno) {
	if len(b) > 2097152 {
		return api.Program{}, 0, api.ErrLong
	}
	sections, place, e := octet.Unseal("PAYOFF1\n", b)
	if e != api.OK {
		return api.Program{}, place, e
	}
	if !slices.EqualFunc(sections, []int{1, 2, 3, 4, 5}, func(s api.Section, id int) bool { return s.Id == id }) {
		return api.Program{}, 8, api.ErrSection
	}
	defer func() {
		if w, ok := recover().(wrong); ok {
			p, place, e = api.Program{}, w.place, w.e
		}
	}()
	at := 9
	for k, s := range sections {
		_, n := binary.Uvarint(b[at+1:])
		at += 1 + n
		(&plainReader{b[:at+len(s.Body)], at}).section(k+1, &p)
		at += len(s.Body)
	}
	if plainCanon(p) != api.OK {
		return api.Program{}, 0, api.ErrCanon
	}
	return p, 0, api.OK
}

// bare: a program without its empty lists.
func bare(p api.Program) api.Program {
	p.Names, p.Curs, p.Pool = some(p.Names), some(p.Curs), some(p.Pool)
	p.Days = some(slices.Clone(p.Days))
	for k := range p.Days {
		p.Days[k].Code = some(p.Days[k].Code)
	}
	return p
}

func some[T any](list []T) []T {
	if len(list) == 0 {
		return nil
	}
	return list
}

func plainEqual(a, b api.Program) bool { return reflect.DeepEqual(bare(a), bare(b)) }
