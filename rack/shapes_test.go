package rack_test

import (
	"slices"
	"strconv"
	"strings"
	"testing"

	"remould/api"
	"remould/rack"
)

// P7.3: Shape.
func TestShapeAgainstSets(t *testing.T) {
	for order := range sizes() {
		for _, set := range someSets(order) {
			if got, want := rackOf(t, order, set).Shape(), shapeOf(set, order); got != want {
				t.Errorf("order %d: %s has shape %q, want %q", order, brief(set), got, want)
			}
		}
	}
}

// example is a set with its shape, as the chapter defines it.
type example struct {
	order int
	set   []int
	shape string
	size  int
}

func examples() []example {
	return []example{
		{0, nil, "-", 0}, {1, nil, "-", 0}, {2, nil, "-", 0}, {3, nil, "-", 0},
		{0, []int{0}, "0:0", 1}, {0, []int{1}, "1:1", 1}, {0, []int{0, 1}, "0:1", 1},
		{1, []int{1, 2}, "1:2(1:1|1:0:0)", 3}, {1, []int{3}, "3:3()", 1}, {2, []int{3}, "3:3()", 1}, {3, []int{3}, "3:3()", 1}, {1, []int{0}, "0:0()", 1},
		{1, []int{0, 1, 2, 3}, "0:3(0:1|0:1:1|1:0:1)", 4}, {1, []int{0, 3}, "0:3(1:1|1:1:1)", 3}, {1, []int{2, 3}, "2:3(1:1|1:1:1)", 3}, {1, []int{0, 1}, "0:1(0:0|0:1:1)", 3},
		{2, []int{4}, "4:4()", 1}, {2, []int{15}, "15:15()", 1}, {3, []int{15}, "15:15()", 1}, {3, []int{255}, "255:255()", 1}, {3, []int{16}, "16:16()", 1},
		{2, []int{0, 5}, "0:5(1:1()|1:1:1())", 3}, {3, []int{0, 5}, "0:5(0:0()|0:5:5())", 3}, {2, []int{0, 3}, "0:3(0:0()|0:3:3())", 3}, {3, []int{0, 3}, "0:3(0:0()|0:3:3())", 3},
		{2, []int{0, 1, 2, 3}, "0:3(0:0()|0:1:3(1:1|1:0:1))", 5}, {3, []int{0, 1, 2, 3}, "0:3(0:0()|0:1:3(0:0()|0:2:3(1:1|1:1:1)))", 7},
		{2, []int{2, 3, 9, 12, 15}, "2:15(0:3(1:1|1:0:1)|0:3:3()|2:1:1()|3:0:3(1:1|1:1:1))", 9},
		{3, []int{0, 1, 255}, "0:255(0:15(3:3()|3:3:3())|0:1:1()|15:15:15())", 6},
		{3, []int{7, 23, 39, 200}, "7:200(1:12(0:3(1:1|1:1:1)|0:2:2()|3:0:0())|1:7:7()|2:7:7()|12:8:8())", 10},
	}
}

func TestShapesOfExamples(t *testing.T) {
	for _, c := range examples() {
		if got := rackOf(t, c.order, c.set).Shape(); got != c.shape {
			t.Errorf("order %d: %v has shape %q, want %q", c.order, c.set, got, c.shape)
		}
		if got, e := rack.Read(c.shape, c.order); !slices.Equal(got, c.set) || e != api.OK {
			t.Errorf("Read(%q, %d) = %v, %d, want %v", c.shape, c.order, got, e, c.set)
		}
		if got, e := rack.Size(c.shape); got != c.size || e != api.OK {
			t.Errorf("Size(%q) = %d, %d, want %d", c.shape, got, e, c.size)
		}
	}
}

// checkRead checks Read and Size of a string that may be a shape, for all orders.
func checkRead(t *testing.T, text string) {
	t.Helper()
	size, eSize := 0, api.ErrSyntax
	for order := range sizes() {
		want, is := setOf(text, order)
		got, e := rack.Read(text, order)
		if !is && (len(got) != 0 || e != api.ErrSyntax) {
			t.Errorf("Read(%q, %d) = %s, %d, want ErrSyntax", text, order, brief(got), e)
		}
		if is && (!slices.Equal(got, want) || e != api.OK) {
			t.Errorf("Read(%q, %d) = %s, %d, want %s", text, order, brief(got), e, brief(want))
		}
		if is {
			size, eSize = sizeOf(want, order), api.OK
		}
	}
	if got, e := rack.Size(text); got != size || e != eSize {
		t.Errorf("Size(%q) = %d, %d, want %d, %d", text, got, e, size, eSize)
	}
}

// P7.3: Read and Size of shapes, also for other orders than that of the set.
func TestReadOfShapes(t *testing.T) {
	for order := range sizes() {
		for _, set := range someSets(order) {
			checkRead(t, shapeOf(set, order))
		}
	}
}

// P7.3: a colon stands in each shape that is counted, and behind each shelf, before which there is a bar: so the marks alone tell the size.
func TestSizeByMarks(t *testing.T) {
	for order := range sizes() {
		for _, set := range someSets(order) {
			text := shapeOf(set, order)
			want := strings.Count(text, ":") - strings.Count(text, "|")
			if got, e := rack.Size(text); got != want || e != api.OK {
				t.Errorf("Size(%q) = %d, %d, want %d", text, got, e, want)
			}
		}
	}
}

// P7.3: all strings of at most six of the bytes that shapes have.
func TestReadOfAllShortStrings(t *testing.T) {
	accepted := 0
	texts := []string{""}
	for range 7 {
		var longer []string
		for _, text := range texts {
			for order := range sizes() {
				if _, e := rack.Read(text, order); e == api.OK {
					accepted++
				}
			}
			checkRead(t, text)
			if len(text) < 6 {
				for _, more := range "013:()|-" {
					longer = append(longer, text+string(more))
				}
			}
		}
		texts = longer
	}
	// `-` for all orders, `0:0`, `0:1` and `1:1` for order 0, and `x:x()` with x 0, 1 or 3 for the others: the next longer shapes have seven bytes.
	if accepted != 4+3+9 {
		t.Errorf("%d of the short strings are shapes", accepted)
	}
}

// P7.3: strings that differ from shapes in one place.
func TestReadOfChangedShapes(t *testing.T) {
	random := newRandom()
	const bytes = "0123456789:()|-,;+ x\x00\xff"
	for order := range sizes() {
		sets := someSets(order)
		for i := 0; i < len(sets); i += 1 + 8*order*order {
			text := shapeOf(sets[i], order)
			step := 1 + len(text)/60
			for at := random.IntN(step); at <= len(text); at += step {
				b := string(bytes[random.IntN(len(bytes))])
				checkRead(t, text[:at])
				checkRead(t, text[at:])
				checkRead(t, text[:at]+b+text[at:])
				if at < len(text) {
					checkRead(t, text[:at]+text[at+1:])
					checkRead(t, text[:at]+b+text[at+1:])
					checkRead(t, text[:at]+text[at:at+1]+text[at:])
				}
				if end := at + random.IntN(len(text)-at+1); end > at {
					checkRead(t, text[:at]+text[end:])
					checkRead(t, text[:at]+text[at:end]+text[at:])
				}
			}
		}
	}
}

// P7.3: strings whose shelves, ends or orders do not fit to each other.
func TestWhatIsNoShape(t *testing.T) {
	for _, text := range noShapes() {
		for order := range sizes() {
			if got, e := rack.Read(text, order); len(got) != 0 || e != api.ErrSyntax {
				t.Errorf("Read(%.50q, %d) = %s, %d", text, order, brief(got), e)
			}
		}
		if got, e := rack.Size(text); got != 0 || e != api.ErrSyntax {
			t.Errorf("Size(%.50q) = %d, %d", text, got, e)
		}
	}
}

// noShapes returns strings that are shapes of no order.
func noShapes() []string {
	const many = 300000
	list := []string{
		"", " ", "0", "1", ":", "0:", ":0", "()", "(", ")", "|", "--", "-:-", "-()", "- ", " -", "-\n", "\x00", "-\x00", "a", "0-0", "0:0:0", "0;0", "0：0", "٠:٠", "0:0(", "0:0)", "0:0((", "0:0()()", "0:0())", "(0:0)", "0:0 ()", "0:0( )", "0:0()\n", "0:0() ", " 0:0()",
		"1:0", "2:2", "0:2", "1:2", "00:0", "0:00", "00:00", "01:1", "1:01", "+1:1", "+1:+1", "-1:1", "-1:-1", "-0:0", "0:-0", "0x1:1", "1.0:1", "1e0:1", "0:1_0", "0:1 ", " 0:1", "0 :1", "0: 1",
		"1:0()", "0:1()", "0:3()", "03:3()", "3:03()", "003:003()", "3:2()", "-1:-1()", "0:0(-)", "3:3(-)", "3:3(|)", "3:3(0:0)", "3:3(0:0|0:0:0)", "3:3(1:1|1:1:1)", "256:256()", "257:257()", "300:300()", "1000:1000()",
		// The second end, the set of shelves, their order, and what stands on them.
		"1:3(1:1|1:0:0)", "1:1(1:1|1:0:0)", "1:0(1:1|1:0:0)", "2:2(1:1|1:0:0)", "2:1(1:1|1:0:0)", "1:2(0:0|1:0:0)", "1:2(0:1|1:0:0)", "1:2(-|1:0:0)", "1:2(1:1|0:0:0)", "1:2(1:1|1:0:1)", "1:2(1:1|1:-)", "1:2(1:1|1:1:1)", "1:2(1:1)", "1:2(1:1|)", "1:2(1:1|1:0:0|)", "1:2(|1:0:0)", "1:2(1:1|1:0:0", "1:2(1:1|1:0:0))", "1:2(1:1|1:0:0)|", "1:2(1:1|1:0:0)-",
		"1:2(1:1|1:0:0|1:0:0)", "1:2(1:1|1:0)", "1:2(1:1|0:0)", "1:2(1:1,1:0:0)", "1:2(1:1:1:0:0)", "1:2(1:1()|1:0:0())", "1:2(1:1|1:0:0())", "1:2(1:1()|1:0:0)", "1:2(01:1|1:0:0)", "1:2(1:1|01:0:0)", "1:2(1:1|1:00:0)", "1:2(1:1|1:0:00)", "1:2(1:1| 1:0:0)", "1:2 (1:1|1:0:0)",
		"0:3(0:1|1:0:1|0:1:1)", "0:3(1:0|0:1:1|1:0:1)", "0:3(0:1|0:1:1|1:0:1|1:0:1)", "0:3(0:1|0:0:1|1:0:1)", "0:3(0:1|0:0:0|0:1:1|1:0:1)", "0:3(0:1|0:1:1|1:0:0|1:1:1)", "0:3(0:1|0:1:1)", "0:3(0:1|1:0:1)", "0:3(0:1)", "0:3(0:2|0:1:1|2:0:1)", "0:3(0:1|0:1:1|1:0:2)",
		"1:2(1:1|1:0:0|0:1:1)", "1:3(0:1|0:1:1|1:0:1)", "0:5(1:1()|1:1:1)", "0:5(1:1|1:1:1())", "0:5(1:1()|1:5:5())", "0:5(0:0()|1:5:5())", "0:16(1:1()|1:0:0(0:0))", "0:16(4:4()|4:0:0())", "0:256(1:1()|1:0:0())", "0:256(16:16()|16:0:0())", "255:256(16:16()|16:0:0())",
		// Shapes of order 4.
		"0:255(0:0()|0:255:255())", "0:300(1:1()|1:44:44())", "0:65535(255:255()|255:255:255())", "65535:65535()",
		// Numbers that are no ints, or that are small only modulo a power of two.
		"4294967296:4294967296()", "18446744073709551616:18446744073709551616()", "18446744073709551617:18446744073709551617", "9223372036854775808:9223372036854775808()", "1:18446744073709551617", "340282366920938463463374607431768211456:340282366920938463463374607431768211456()",
		"1:2(1:1|18446744073709551617:0:0)", "1:2(1:1|1:0:18446744073709551616)", "1:2(4294967297:4294967297|4294967297:0:0)",
		// Long strings.
		strings.Repeat("0", many), strings.Repeat("9", many), strings.Repeat("-", many), strings.Repeat(":", many), strings.Repeat("(", many), strings.Repeat(")", many), strings.Repeat("|", many), strings.Repeat("0:", many), strings.Repeat("0:0()", many), strings.Repeat("\xff", many),
		strings.Repeat("0:0(", many), strings.Repeat("0:255(", many), strings.Repeat("0:255(", many) + strings.Repeat(")", many), strings.Repeat("0:255(-|0:", many), "0:255(" + strings.Repeat("-|", many), "0:" + strings.Repeat("0", many), strings.Repeat("0", many) + ":0()", strings.Repeat("9", many) + ":0()", "0:" + strings.Repeat("9", many) + "()",
		"1:2(1:1" + strings.Repeat("|1:0:0", many) + ")", "0:255(-" + strings.Repeat("|0:-", many) + ")", "0:255(0:15()" + strings.Repeat("|15:15:15()", many) + ")", "0:1" + strings.Repeat(" ", many),
	}
	// Shapes within shapes, up to the depths of orders that there are not.
	deep := "0:0"
	for range 5 {
		deep = "0:0(" + deep + "|0:" + deep + ")"
		list = append(list, deep)
	}
	return list
}

// P7.3: the shape of an order is not that of another one, but for sets of few places.
func TestReadForOtherOrders(t *testing.T) {
	for order, u := range sizes() {
		for x := range 300 {
			text := strconv.Itoa(x) + ":" + strconv.Itoa(x)
			if got, e := rack.Read(text, order); (e == api.OK) != (order == 0 && x < 2) || (e == api.OK) != slices.Equal(got, []int{x}) {
				t.Errorf("Read(%q, %d) = %v, %d", text, order, got, e)
			}
			text += "()"
			if got, e := rack.Read(text, order); (e == api.OK) != (order > 0 && x < u) || (e == api.OK) != slices.Equal(got, []int{x}) {
				t.Errorf("Read(%q, %d) = %v, %d", text, order, got, e)
			}
		}
	}
}

// P7.3: ErrArg comes before ErrSyntax.
func TestReadForNoOrder(t *testing.T) {
	for _, order := range noOrders() {
		for _, text := range []string{"", "-", "0:1", "3:3()", "1:2(1:1|1:0:0)", "x", strings.Repeat("(", 1000)} {
			if got, e := rack.Read(text, order); len(got) != 0 || e != api.ErrArg {
				t.Errorf("Read(%.50q, %d) = %v, %d", text, order, got, e)
			}
		}
	}
}
