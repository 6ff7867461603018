package table_test

import (
	"math"
	"slices"
	"testing"

	"burgage/api"
	"burgage/put"
	"burgage/realm"
	"burgage/table"
	"burgage/tree"
)

var (
	wrong  = []int{0, -1, 17, math.MinInt, math.MaxInt}
	plenty = limits(math.MaxUint64, math.MaxUint64)
)

func limits(keys, bytes uint64) api.Limits { return api.Limits{Keys: keys, Bytes: bytes} }

func h(tenant int, gen uint32, r api.Rights) api.Handle {
	return api.Handle{Tenant: tenant, Gen: gen, Rights: r}
}

func made(t *testing.T, slots int) (*tree.Tree, *table.Table) {
	t.Helper()
	x, _ := tree.New(slots)
	b, e := table.New(x)
	if b == nil || e != api.OK || len(b.Tenants()) != 0 {
		t.Fatal(b, e)
	}
	return x, b
}

func ok(t *testing.T, l ...api.Errno) {
	t.Helper()
	for i, e := range l {
		if e != api.OK {
			t.Fatal(i, e)
		}
	}
}

func has(t *testing.T, b *table.Table, tenant int, want api.Limits) {
	t.Helper()
	if l, is := b.Has(tenant); l != want || !is {
		t.Error(tenant, l, is)
	}
}

func reserve(t *testing.T, g put.Gate, keys, bytes int, want api.Errno) {
	t.Helper()
	if e := g.Reserve(put.Delta{Keys: keys, Bytes: bytes}); e != want {
		t.Error("Reserve", keys, bytes, "is", e)
	}
}

func TestNew(t *testing.T) {
	if b, e := table.New(nil); b != nil || e != api.ErrNil {
		t.Error(b, e)
	}
	b, e := table.New(new(tree.Tree))
	ok(t, e)
	if e := b.Create(1, plenty); e != api.ErrFull || len(b.Tenants()) != 0 {
		t.Error("a tree without places", e)
	}
}

func TestExample(t *testing.T) {
	_, b := made(t, 9)
	ok(t, b.Create(3, limits(2, 9)))
	x, e := b.Issue(3, api.Read)
	if x != h(3, 1, api.Read) || e != api.OK || !b.Good(x) {
		t.Error(x, e)
	}
	ok(t, b.Revoke(3))
	if b.Good(x) || !b.Good(h(3, 2, api.Write)) {
		t.Error("a revoked handle")
	}
	g := b.Gate(h(3, 2, api.Write), api.Put)
	reserve(t, g, 1, 10, api.ErrQuota)
	reserve(t, g, 1, 9, api.OK)
	has(t, b, 3, limits(0, 0))
	g.Commit()
	has(t, b, 3, limits(1, 9))
	reserve(t, g, -1, -4, api.OK)
	g.Commit()
	has(t, b, 3, limits(0, 5))
}

func TestCreateAndRemove(t *testing.T) {
	x, b := made(t, 3)
	for _, n := range wrong {
		if e := b.Create(n, plenty); e != api.ErrArg {
			t.Error(n, e)
		}
		if e := b.Remove(n); e != api.ErrArg {
			t.Error(n, e)
		}
		if e := b.Revoke(n); e != api.ErrArg {
			t.Error(n, e)
		}
		if r, is := b.Anchor(n); r != (api.Ref{}) || is {
			t.Error(n, r, is)
		}
		if l, is := b.Has(n); l != (api.Limits{}) || is {
			t.Error(n, l, is)
		}
	}
	if b.Remove(1) != api.ErrNone || b.Revoke(1) != api.ErrNone {
		t.Error("no tenant exists")
	}
	ok(t, b.Create(16, plenty), b.Create(1, plenty), b.Create(2, plenty))
	if b.Create(16, plenty) != api.ErrTwice || b.Create(3, plenty) != api.ErrFull {
		t.Error("Create")
	}
	if l := b.Tenants(); !slices.Equal(l, []int{1, 2, 16}) || x.Room() != 0 {
		t.Error(l, x.Room())
	}
	a, is := b.Anchor(2)
	if _, lives := x.Node(a); !is || !lives {
		t.Error(a, is)
	}
	ok(t, b.Remove(2))
	if _, lives := x.Node(a); lives || x.Room() != 1 {
		t.Error("the anchor was not felled")
	}
	if _, is := b.Anchor(2); is || b.Remove(2) != api.ErrNone {
		t.Error("it exists")
	}
	if l := b.Tenants(); !slices.Equal(l, []int{1, 16}) {
		t.Error(l)
	}
}

func TestGenerations(t *testing.T) {
	_, b := made(t, 9)
	gen := func(want uint32) {
		t.Helper()
		if x, e := b.Issue(1, api.All); x != h(1, want, api.All) || e != api.OK || !b.Good(x) {
			t.Error(x, e)
		}
		for g := range want {
			if b.Good(h(1, g, api.All)) {
				t.Error("good again", g)
			}
		}
	}
	ok(t, b.Create(1, plenty))
	gen(1)
	ok(t, b.Revoke(1), b.Revoke(1))
	gen(3)
	ok(t, b.Remove(1))
	for g := range uint32(9) {
		if b.Good(h(1, g, api.All)) {
			t.Error("good without a tenant", g)
		}
	}
	if b.Create(1, plenty) != api.OK || b.Create(1, plenty) != api.ErrTwice {
		t.Error("Create")
	}
	gen(4)
}

func TestIssue(t *testing.T) {
	_, b := made(t, 9)
	ok(t, b.Create(1, plenty))
	for _, n := range wrong {
		if x, e := b.Issue(n, api.All); x != (api.Handle{}) || e != api.ErrArg {
			t.Error(n, x, e)
		}
	}
	for _, r := range []api.Rights{0, 8, 255} {
		for _, n := range []int{1, 2} {
			if x, e := b.Issue(n, r); x != (api.Handle{}) || e != api.ErrArg {
				t.Error(n, x, e)
			}
		}
	}
	if x, e := b.Issue(2, api.Read); x != (api.Handle{}) || e != api.ErrNone {
		t.Error(x, e)
	}
	for r := api.Rights(1); r <= 7; r++ {
		if x, e := b.Issue(1, r); x != h(1, 1, r) || e != api.OK {
			t.Error(x, e)
		}
	}
}

func TestMay(t *testing.T) {
	_, b := made(t, 9)
	ok(t, b.Create(1, limits(0, 0)))
	for _, x := range []api.Handle{{}, h(1, 0, 7), h(1, 2, 7), h(2, 1, 7), h(1, 1, 0), h(1, 1, 8), h(17, 1, 7), h(-1, 1, 7)} {
		if b.Good(x) || b.May(x, api.Get) != api.ErrRevoked || b.May(x, api.Create) != api.ErrRevoked {
			t.Error(x)
		}
		reserve(t, b.Gate(x, api.Get), 0, 0, api.ErrRevoked)
	}
	may := map[api.Deed]api.Rights{api.Get: api.Read, api.Tell: api.Read, api.Put: api.Write, api.Delete: api.Write, api.Swap: api.Write, api.Scan: api.Walk}
	for d := api.Deed(-1); d < 12; d++ {
		for r := api.Rights(1); r <= 7; r++ {
			want := api.ErrRights
			if may[d]&r != 0 {
				want = api.OK
			}
			if e := b.May(h(1, 1, r), d); e != want {
				t.Error(d, r, e)
			}
			reserve(t, b.Gate(h(1, 1, r), d), 0, 0, want)
			if want == api.ErrRights {
				reserve(t, b.Gate(h(1, 1, r), d), 9, 9, want)
			}
		}
	}
}

func TestGate(t *testing.T) {
	_, b := made(t, 9)
	ok(t, b.Create(1, limits(3, 30)))
	g, other := b.Gate(h(1, 1, 7), api.Put), b.Gate(h(1, 1, 7), api.Put)
	g.Commit()
	g.Refund()
	has(t, b, 1, limits(0, 0))
	reserve(t, g, 2, 20, api.OK)
	reserve(t, other, 2, 5, api.ErrQuota)
	reserve(t, other, 1, 11, api.ErrQuota)
	reserve(t, other, 1, 10, api.OK)
	other.Refund()
	other.Commit()
	has(t, b, 1, limits(0, 0))
	reserve(t, g, 3, 30, api.OK) // the open reservation is closed first
	reserve(t, g, 4, 0, api.ErrQuota)
	g.Commit()
	has(t, b, 1, limits(0, 0))
	reserve(t, g, 1, 10, api.OK)
	g.Commit()
	g.Commit()
	has(t, b, 1, limits(1, 10))
	reserve(t, g, 1, -3, api.OK)
	g.Commit()
	has(t, b, 1, limits(2, 7))
	reserve(t, g, -3, 1, api.OK)
	g.Commit() // three keys cannot be paid back: there are two
	has(t, b, 1, limits(2, 8))
	reserve(t, g, math.MinInt, math.MinInt, api.OK)
	g.Commit()
	has(t, b, 1, limits(2, 8))
	reserve(t, g, math.MaxInt, 0, api.ErrQuota)
	reserve(t, g, -2, -8, api.OK)
	g.Commit()
	has(t, b, 1, limits(0, 0))
}

func TestReservationOfARemovedTenant(t *testing.T) {
	_, b := made(t, 9)
	ok(t, b.Create(1, limits(3, 30)))
	g := b.Gate(h(1, 1, 7), api.Put)
	reserve(t, g, 1, 1, api.OK)
	ok(t, b.Remove(1), b.Create(1, limits(1, 1)))
	g.Commit()
	has(t, b, 1, limits(0, 0))
	reserve(t, b.Gate(h(1, 2, 7), api.Put), 1, 1, api.OK)
	reserve(t, g, 0, 0, api.ErrRevoked)
	g = b.Gate(h(1, 2, 7), api.Put)
	reserve(t, g, 0, 0, api.OK)
	ok(t, b.Revoke(1))
	g.Commit()
	g.Refund()
	reserve(t, g, 0, 0, api.ErrRevoked)
}

func TestAll(t *testing.T) {
	x, b := made(t, 40)
	set := func(tenant int, key string) {
		a, _ := b.Anchor(tenant)
		p, _ := put.New(x, a, key, "v"+key, nil)
		for p.Step() != put.Through {
		}
	}
	ok(t, b.Create(16, plenty), b.Create(2, plenty), b.Create(3, plenty))
	all := b.All()
	for tenant, keys := range map[int][]string{16: {"a"}, 2: {"b", "a", ""}, 3: nil} {
		for _, k := range keys {
			set(tenant, k)
		}
	}
	var got []string
	for p, v := range all {
		tenant, key, e := realm.Split(p)
		if e != api.OK || v != "v"+key {
			t.Error(p, v)
		}
		got = append(got, string(rune('A'+tenant))+key)
	}
	if !slices.Equal(got, []string{"C", "Ca", "Cb", "Qa"}) {
		t.Error(got)
	}
	for range all {
		break
	}
	ok(t, b.Remove(2))
	n := 0
	for range all {
		n++
	}
	if n != 1 {
		t.Error(n)
	}
}

func TestNil(t *testing.T) {
	for _, b := range []*table.Table{nil, {}} {
		x, e := b.Issue(0, 0)
		if x != (api.Handle{}) || e != api.ErrNil || b.Create(0, plenty) != api.ErrNil || b.Remove(0) != api.ErrNil || b.Revoke(0) != api.ErrNil {
			t.Error("not nil")
		}
		if b.Good(h(1, 1, 7)) || b.May(h(1, 1, 7), api.Get) != api.ErrRevoked || b.Tenants() != nil {
			t.Error("not nothing")
		}
		g := b.Gate(h(1, 1, 7), api.Get)
		reserve(t, g, 0, 0, api.ErrRevoked)
		g.Commit()
		g.Refund()
		if r, is := b.Anchor(1); r != (api.Ref{}) || is {
			t.Error(r)
		}
		if l, is := b.Has(1); l != (api.Limits{}) || is {
			t.Error(l)
		}
		for range b.All() {
			t.Error("something")
		}
	}
}
